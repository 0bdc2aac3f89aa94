/- The statement VarintPuts of layer 2, where what came in is of bulk at most 1048576: package varint's Put and Size answer what the reference answers, for any bytes and any number, and the law returns true. -/
import Derived.Test.YtjlbeglnflcjmaaVarL
import Derived.Lib.SmallJoins
namespace Go.Proofs.Ytjlbeglnflcjmaa
set_option linter.unusedVariables false
open Go.RowKit Go.Lib Go.ChangeShapes Go.WideShapes Go.ChangeAt

theorem vputs_walk (p : Option Addr) (len cap : Nat) (zs : List Int) (n : Int) (w : World) (h : Bs w p len zs) (hpc : p = none → cap = 0) (hlc : len ≤ cap) (hcm : cap ≤ 1048576) (hn0 : 0 ≤ n) (hn : n < 18446744073709551616) :
    Calls Try.prog 3 #[.slice p len cap, .int .u64 n] w fun e w' => e = .returned (.bool true) ∧ Below w.heap.size w w' := by
  obtain ⟨n, rfl⟩ := Int.eq_ofNat_of_zero_le hn0
  have HN : Hid (n < 18446744073709551616) := Lib.hid (by omega)
  have H := Lib.hid h
  have HP := Lib.hid hpc
  have h10 := vput_10 HN.out
  clear h hpc hn hn0
  go_enter Try.func3, Try.ntmps3
  go_wp2_with fail
  refine (vput_walk _ _ _ zs n _ H.out (by omega) HN.out).mono ?_
  rintro e w1 ⟨v1, rfl, hob1, hb1⟩
  have HB1 := Lib.hid hb1
  have HO1 := Lib.hid hob1
  clear hb1 hob1
  go_wp2_with fail
  refine (rvput_walk _ _ _ zs n _ (H.out.later HB1.out) HP.out (by omega) HN.out).mono ?_
  rintro e w2 ⟨v2, rfl, hob2, hb2⟩
  obtain ⟨p1, c1, hv1, hlc1, hcm1, hbs1, hpc1⟩ := HO1.out.open
  obtain ⟨p2, c2, hv2, hlc2, hcm2, hbs2, hpc2⟩ := hob2.open
  have HB2 := Lib.hid (below_step HB1.out hb2)
  have HX1 := Lib.hid (hbs1.later hb2)
  have HX2 := Lib.hid hbs2
  have hl1 := Nat.le_trans hlc1 hcm1
  subst hv1
  subst hv2
  clear hob2 hbs1 hbs2 hb2 hpc1 hpc2 hlc2 hcm2 HO1 hlc1 hcm1 
  generalize (zs ++ vput n).length = L at *
  go_wp2_with fail
  refine (same_any _ _ _ _ _ _ (zs ++ vput n) (zs ++ vput n) _ hl1 hl1 HX1.out HX2.out).mono ?_
  rintro e w3 ⟨rfl, q, rfl⟩
  rw [show decide (zs ++ vput n = zs ++ vput n) = true from by simp]
  have HB3 := Lib.hid (below_step HB2.out (below_drewN (Below.refl _ _) q))
  go_wp2_with (go_at_call 9; refine (vsize_any n _ HN.out).mono ?_; rintro e w' ⟨rfl, rfl⟩)
  refine (rvput_walk none 0 0 [] n _ (Bs.empty _ _) (by simp) (by omega) HN.out).mono ?_
  rintro e w4 ⟨v4, rfl, hob4, hb4⟩
  obtain ⟨p4, c4, hv4, hlc4, hcm4, hbs4, hpc4⟩ := hob4.open
  rw [List.nil_append] at hv4
  have HB4 := Lib.hid (below_step HB3.out hb4)
  subst hv4
  clear hob4 hbs4 hpc4 hb4 hlc4 hcm4
  generalize (vput n).length = L4 at *
  go_wp2_with (go_at_call 10; refine (vlives_any _).mono ?_; rintro e w' ⟨rfl, hb⟩)
  go_ret
  exact ⟨rfl, below_step HB4.out hb⟩

theorem varintPuts_contract (H : Type) (enc : TypeId × Value → H) (W : World) (base : Nat) (args : Array Value) (ds gs : List (DataW H)) (before : List MemPlace)
    (hval : ∀ (j : Nat) t v, Try.f3.params[j]? = some t → args[j]? = some v → Value.okWide Try.prog W .any base t v)
    (hW : DataW.Whole enc Try.prog Try.f3.params.toList Rows.varintPutsSpec.vars false W args.toList ds gs before) (hk : Rows.uptoSmall H (ds ++ gs) = true) :
    Calls Try.prog 3 args W fun e W' => ∃ v, e = .returned v ∧ Rows.varintPutsSpec.post enc Try.prog Try.f3 false true false false W args v W' := by
  have hW' := hW
  obtain ⟨p, q, hA0, hV, rfl, hfz, hnd⟩ := hW
  have hA : DataW.TrodAll enc Try.prog W 0 (fun _ => true) true Try.f3.params.toList args.toList ds p := hA0
  rw [Try.params3] at hA hval
  obtain ⟨v0, vs0, d0, ds0, p0, q0, hargs, rfl, rfl, t0, r0⟩ := trodAll_cons hA
  obtain ⟨v1, vs1, d1, ds1, p1, q1, rfl, rfl, rfl, t1, r1⟩ := trodAll_cons r0
  obtain ⟨rfl, rfl, rfl⟩ := trodAll_nil r1
  obtain rfl : args = #[v0, v1] := by cases args; simp_all
  obtain ⟨rfl, rfl⟩ := trodVars_none hV
  obtain ⟨a0, len0, cap0, rfl⟩ := okWide_slice Try.underlying22 (hval 0 22 v0 rfl rfl)
  obtain ⟨fuel0, t0⟩ := t0
  obtain ⟨hlc0, hcm0, hpc0, hb0, zs0, hbs0⟩ := open_bs Try.underlying22 Try.underlying5 (by kernel_rfl) t0
  obtain ⟨m1, rfl, rfl, rfl, wm1⟩ := open_int Try.underlying23 (hval 1 23 v1 rfl rfl) t1
  have hk' := of_decide_eq_true hk
  simp only [Rows.uptoBulkAll, Rows.uptoBulk, List.append_nil, hb0] at hk'
  refine (vputs_walk a0 len0 cap0 zs0 m1 W hbs0 hpc0 hlc0 (by omega) (wf_u64 wm1).1 (wf_u64 wm1).2).mono fun e W' ⟨he, hb⟩ => ?_
  subst he
  exact ⟨_, rfl, law_post laidOut (by kernel_rfl) rfl Try.underlying4 rfl hW' rfl rfl rfl hb⟩

set_option maxRecDepth 100000 in
theorem varintPuts_lifted (os : Os) (started : os.Started) (H : Type) (enc : TypeId × Value → H) (F : Stop.Interp) :
    ReturnsInHanded {} Try.checked os 3 .any ((Rows.OpenSpec.upto Rows.varintPutsSpec).pre6 enc Try.prog Try.f3 Rows.varintPutsUptoRow.domain false) (((Rows.OpenSpec.upto Rows.varintPutsSpec).at F).post enc Try.prog Try.f3 false true false false) := by
  refine returnsInHanded_of_cond (C := Try.checked) (s := Rows.OpenSpec.upto Rows.varintPutsSpec) (k := Rows.uptoSmall) rfl own started (by kernel_rfl) Try.func3
    (OpenSpec.witness (enc := enc) (C := Try.checked) (s := Rows.OpenSpec.upto Rows.varintPutsSpec) (k := Rows.uptoSmall) rfl false ⟨#[], #[.slice none 0 0, .int .u64 0], []⟩ 8 (by kernel_rfl) (by kernel_rfl) (by kernel_rfl)
      (x := ([.nil, .lit (.int .u64 0)], [], [])) (by kernel_rfl) rfl (by kernel_rfl)) ?_
  intro W base args ds gs before hval hW _ hk _
  exact varintPuts_contract H enc W base args ds gs before hval hW hk

theorem varintPutsUpto_holds : Rows.VarintPutsUptoSaid :=
  OpenClaim.holds_of_cond 3 Try.f3 rfl rfl rfl rfl rfl rfl rfl ⟨rfl, rfl, rfl, rfl, rfl⟩ rfl rfl rfl rfl rfl (by kernel_rfl) Try.func3 (by kernel_rfl)
    (of_decide_eq_true (by kernel_rfl)) (by unfold Func.isWrapper; first | (rw [if_pos (by decide +kernel)]; kernel_rfl) | (rw [if_neg (by decide +kernel)]; exact ⟨rfl, rfl⟩))
    (fun os started H enc _ F => varintPuts_lifted os started H enc F)
end Go.Proofs.Ytjlbeglnflcjmaa
