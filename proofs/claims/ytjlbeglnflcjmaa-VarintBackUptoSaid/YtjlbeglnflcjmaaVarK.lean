/- The statement VarintBack of layer 2, where what came in is of bulk at most 1048576: what Put wrote is what Take reads behind any bytes, and what Take reads anywhere has just the bytes that Put writes; the law returns true. -/
import Derived.Test.YtjlbeglnflcjmaaVarL
import Derived.Lib.SmallJoins
import Derived.Test.YtjlbeglnflcjmaaReg
namespace Go.Proofs.Ytjlbeglnflcjmaa
set_option linter.unusedVariables false
open Go.RowKit Go.Lib Go.ChangeShapes Go.WideShapes Go.ChangeAt

set_option maxHeartbeats 400000 in
theorem vback_walk (p : Option Addr) (len cap : Nat) (zs : List Int) (n : Int) (a : Int) (w : World) (h : Bs w p len zs) (hpc : p = none → cap = 0) (hlc : len ≤ cap) (hcm : cap ≤ 1048576) (hn0 : 0 ≤ n) (hn : n < 18446744073709551616) (ha : -9223372036854775808 ≤ a ∧ a ≤ 9223372036854775807) :
    Calls Try.prog 5 #[.slice p len cap, .int .u64 n, .int .i64 a] w fun e w' => e = .returned (.bool true) ∧ Below w.heap.size w w' := by
  obtain ⟨n, rfl⟩ := Int.eq_ofNat_of_zero_le hn0
  have HN : Hid (n < 18446744073709551616) := Lib.hid (by omega)
  have H := Lib.hid h
  have HP := Lib.hid hpc
  have h10 := vput_10 HN.out
  have hzl := h.len
  clear h hpc hn hn0
  go_enter Try.func5, Try.ntmps5
  go_wp2_with fail
  refine (vput_walk _ _ _ zs n _ H.out (by omega) HN.out).mono ?_
  rintro e w1 ⟨v1, rfl, hob1, hb1⟩
  obtain ⟨p1, c1, hv1, hlc1, hcm1, hbs1, hpc1⟩ := hob1.open
  have HB1 := Lib.hid hb1
  have HX1 := Lib.hid hbs1
  have HC1 := Lib.hid hlc1
  have HM1 := Lib.hid hcm1
  have htk := tk_put zs n HN.out
  rw [hzl] at htk
  have hxl : (zs ++ vput n).length = len + (vput n).length := by rw [List.length_append, hzl]
  subst hv1
  clear hob1 hb1 hbs1 hlc1 hcm1 hpc1
  rw [hxl] at HX1 HC1 ⊢
  have HT := Lib.hid htk
  have HZ := Lib.hid hzl
  have HXL := Lib.hid hxl
  clear htk hzl hxl
  generalize (vput n).length = L at *
  go_wp2_with fail
  refine (vtake_any _ _ _ (zs ++ vput n) _ _ HX1.out HC1.out HM1.out).mono ?_
  rintro e w' ⟨rfl, rfl⟩
  rw [HT.out]
  have e1 : ((n : Int) != (n : Int)) = false := by simp
  have e2 : ((len : Int) + (L : Int) != ((len + L : Nat) : Int)) = false := by simp
  have e3 : ((len : Int) + (L : Int) != (len : Int) + (L : Int)) = false := by simp
  go_wp2_with fail
  refine (vtake_any _ _ _ zs _ _ (H.out.later HB1.out) hlc (by unfold maxLen; omega)).mono ?_
  rintro e w' ⟨rfl, rfl⟩
  by_cases hf : (tk zs a).2.2 = 0
  · obtain ⟨b, m, hab, hst, hbm, hk0, hk1, hvp⟩ := tk_back (H.out.byte) hf
    rw [hf, hst]
    obtain ⟨k, hk⟩ := Int.eq_ofNat_of_zero_le hk0
    rw [hk] at hk1 hvp ⊢
    rw [HZ.out] at hbm
    rw [Int.toNat_natCast] at hvp
    obtain ⟨p', hsl, hbs, _⟩ := H.out.slice_lh (P := Try.prog) 22 5 Try.underlying22 (fun _ => by kernel_rfl) cap b (b + m) hlc (by omega) hbm
    rw [Nat.add_sub_cancel_left] at hbs hsl
    rw [← hvp] at hbs
    subst hab
    have HK : Hid (k < 18446744073709551616) := Lib.hid (by omega)
    have HBS := Lib.hid hbs
    have HML : Hid ((vput k).length = m) := Lib.hid hbs.len
    have hm' : m ≤ maxLen := by unfold maxLen; omega
    generalize b + m = st at *
    clear hf hst hk0 hk hk1 hvp hbs hbm ha h10
    go_wp2
    go_region_held3 (fun _ => True) (trivial) (first
      | (go_at_call 7; refine (vput_walk none 0 0 [] k _ (Bs.empty _ _) (by omega) HK.out).mono ?_; rintro e w2 ⟨v2, rfl, hob, hb⟩; obtain ⟨p2, c2, hv2, hlc2, hcm2, hbs2, hpc2⟩ := hob.open; rw [List.nil_append, HML.out] at hv2; rw [List.nil_append, HML.out] at hbs2; subst hv2; have HO2 := Lib.hid hbs2; have HB2 := Lib.hid hb; clear hob hb hbs2 hlc2 hcm2 hpc2)
      | (go_at_call 6; refine (same_any _ _ _ _ _ _ (vput k) (vput k) _ hm' hm' HO2.out (HBS.out.later (below_step HB1.out (below_step ((Below.refl _ _).drew) HB2.out)))).mono ?_; rintro e w3 ⟨rfl, q, rfl⟩)
      | (go_at_call 10; refine (vlives_any _).mono ?_; rintro e w' ⟨rfl, hb⟩))
    go_wp2
    go_ret
    exact ⟨rfl, below_step HB1.out (below_step ((Below.refl _ _).drew) (below_step HB2.out (below_step (below_drewN (Below.refl _ _) q) hb)))⟩
  · generalize (tk zs a).1 = k
    generalize (tk zs a).2.1 = s
    generalize (tk zs a).2.2 = f at hf ⊢
    have hfb : (f != 0) = true := by simpa using hf
    go_wp2
    refine wp_region_still_tail 12 (by kernel_rfl) (by kernel_rfl) ?_
    simp only [List.take_succ_cons, List.take_zero, List.drop_succ_cons, List.drop_zero]
    iterate 3 (refine wpStill_step (fun K hK => ?_); go_simp; refine hK _ ?_; clear hK K; try simp only [Act.put, List.setIfInBounds_toArray, List.set_cons_zero, List.set_cons_succ])
    iterate 7 ((with_reducible refine wpStill_skip ?_ ?_); (· simp [Region.wanted, yielded]); try simp only [Act.put, List.setIfInBounds_toArray, List.set_cons_zero, List.set_cons_succ])
    iterate 2 ((with_reducible refine wpStill_step (fun K hK => ?_)); go_simp; refine hK _ ?_; clear hK K; try simp only [Act.put, List.setIfInBounds_toArray, List.set_cons_zero, List.set_cons_succ])
    refine wpStill_nil ?_
    change wpList _ _ _ _ _ w1.drew
    go_wp2_with (go_at_call 10; refine (vlives_any _).mono ?_; rintro e w' ⟨rfl, hb⟩)
    go_ret
    exact ⟨rfl, below_step HB1.out (below_step ((Below.refl _ _).drew) hb)⟩

theorem varintBack_contract (H : Type) (enc : TypeId × Value → H) (W : World) (base : Nat) (args : Array Value) (ds gs : List (DataW H)) (before : List MemPlace)
    (hval : ∀ (j : Nat) t v, Try.f5.params[j]? = some t → args[j]? = some v → Value.okWide Try.prog W .any base t v)
    (hW : DataW.Whole enc Try.prog Try.f5.params.toList Rows.varintBackSpec.vars false W args.toList ds gs before) (hk : Rows.uptoSmall H (ds ++ gs) = true) :
    Calls Try.prog 5 args W fun e W' => ∃ v, e = .returned v ∧ Rows.varintBackSpec.post enc Try.prog Try.f5 false true false false W args v W' := by
  have hW' := hW
  obtain ⟨p, q, hA0, hV, rfl, hfz, hnd⟩ := hW
  have hA : DataW.TrodAll enc Try.prog W 0 (fun _ => true) true Try.f5.params.toList args.toList ds p := hA0
  rw [Try.params5] at hA hval
  obtain ⟨v0, vs0, d0, ds0, p0, q0, hargs, rfl, rfl, t0, r0⟩ := trodAll_cons hA
  obtain ⟨v1, vs1, d1, ds1, p1, q1, rfl, rfl, rfl, t1, r1⟩ := trodAll_cons r0
  obtain ⟨v2, vs2, d2, ds2, p2, q2, rfl, rfl, rfl, t2, r2⟩ := trodAll_cons r1
  obtain ⟨rfl, rfl, rfl⟩ := trodAll_nil r2
  obtain rfl : args = #[v0, v1, v2] := by cases args; simp_all
  obtain ⟨rfl, rfl⟩ := trodVars_none hV
  obtain ⟨a0, len0, cap0, rfl⟩ := okWide_slice Try.underlying22 (hval 0 22 v0 rfl rfl)
  obtain ⟨fuel0, t0⟩ := t0
  obtain ⟨hlc0, hcm0, hpc0, hb0, zs0, hbs0⟩ := open_bs Try.underlying22 Try.underlying5 (by kernel_rfl) t0
  obtain ⟨m1, rfl, rfl, rfl, wm1⟩ := open_int Try.underlying23 (hval 1 23 v1 rfl rfl) t1
  obtain ⟨m2, rfl, rfl, rfl, wm2⟩ := open_int Try.underlying3 (hval 2 3 v2 rfl rfl) t2
  have hk' := of_decide_eq_true hk
  simp only [Rows.uptoBulkAll, Rows.uptoBulk, List.append_nil, hb0] at hk'
  refine (vback_walk a0 len0 cap0 zs0 m1 m2 W hbs0 hpc0 hlc0 (by omega) (wf_u64 wm1).1 (wf_u64 wm1).2 (wf_i64 wm2)).mono fun e W' ⟨he, hb⟩ => ?_
  subst he
  exact ⟨_, rfl, law_post laidOut (by kernel_rfl) rfl Try.underlying4 rfl hW' rfl rfl rfl hb⟩

set_option maxRecDepth 100000 in
theorem varintBack_lifted (os : Os) (started : os.Started) (H : Type) (enc : TypeId × Value → H) (F : Stop.Interp) :
    ReturnsInHanded {} Try.checked os 5 .any ((Rows.OpenSpec.upto Rows.varintBackSpec).pre6 enc Try.prog Try.f5 Rows.varintBackUptoRow.domain false) (((Rows.OpenSpec.upto Rows.varintBackSpec).at F).post enc Try.prog Try.f5 false true false false) := by
  refine returnsInHanded_of_cond (C := Try.checked) (s := Rows.OpenSpec.upto Rows.varintBackSpec) (k := Rows.uptoSmall) rfl own started (by kernel_rfl) Try.func5
    (OpenSpec.witness (enc := enc) (C := Try.checked) (s := Rows.OpenSpec.upto Rows.varintBackSpec) (k := Rows.uptoSmall) rfl false ⟨#[], #[.slice none 0 0, .int .u64 0, .int .i64 0], []⟩ 8 (by kernel_rfl) (by kernel_rfl) (by kernel_rfl)
      (x := ([.nil, .lit (.int .u64 0), .lit (.int .i64 0)], [], [])) (by kernel_rfl) rfl (by kernel_rfl)) ?_
  intro W base args ds gs before hval hW _ hk _
  exact varintBack_contract H enc W base args ds gs before hval hW hk

theorem varintBackUpto_holds : Rows.VarintBackUptoSaid :=
  OpenClaim.holds_of_cond 5 Try.f5 rfl rfl rfl rfl rfl rfl rfl ⟨rfl, rfl, rfl, rfl, rfl⟩ rfl rfl rfl rfl rfl (by kernel_rfl) Try.func5 (by kernel_rfl)
    (of_decide_eq_true (by kernel_rfl)) (by unfold Func.isWrapper; first | (rw [if_pos (by decide +kernel)]; kernel_rfl) | (rw [if_neg (by decide +kernel)]; exact ⟨rfl, rfl⟩))
    (fun os started H enc _ F => varintBack_lifted os started H enc F)
end Go.Proofs.Ytjlbeglnflcjmaa
