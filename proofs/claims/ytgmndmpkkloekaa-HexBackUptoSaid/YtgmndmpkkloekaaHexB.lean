/- The statement HexBack of layer 3, where what came in is of bulk at most 1048576: bytes' figures are read as these bytes, and what was read from a text has just the figures that were read; the law returns true. -/
import Derived.Test.YtgmndmpkkloekaaHexL
import Derived.Lib.SmallJoins
namespace Go.Proofs.Ytgmndmpkkloekaa
set_option linter.unusedVariables false
open Go.RowKit Go.Lib Go.ChangeShapes Go.WideShapes Go.ChangeAt

theorem hback_walk (p : Option Addr) (len cap : Nat) (zs : List Int) (s : ByteArray) (w : World) (h : Bs w p len zs) (hpc : p = none → cap = 0) (hlc : len ≤ cap) (hcm : cap ≤ 1048576) (hs : s.size ≤ 1048576) :
    Calls Try.prog 5 #[.slice p len cap, .string s] w fun e w' => e = .returned (.bool true) ∧ Below w.heap.size w w' := by
  have hlen : len ≤ 70368744177663 := by omega
  have hlm : len ≤ maxLen := by unfold maxLen; omega
  have hs2 : s.size ≤ 281474976710656 := by omega
  have hzl := h.len
  have hst : (strOfNums (hexs zs)).size ≤ 281474976710656 := by rw [strOfNums_size, hexs_length]; omega
  have hrt : hrd (numsOf (strOfNums (hexs zs))) = some zs := by rw [numsOf_strOfNums (hexs_byte h.byte)]; exact hrd_hexs h.byte
  have HRT := Lib.hid hrt
  have H := Lib.hid h
  clear h hpc hrt
  go_enter Try.func5, Try.ntmps5
  go_wp2_with fail
  refine (htext_any _ _ _ zs _ H.out hlen).mono ?_
  rintro e w1 ⟨rfl, hb1⟩
  have HB1 := Lib.hid hb1
  clear hb1
  go_wp2_with fail
  refine (hread_any _ _ hst).mono ?_
  rintro e w2 ⟨h2, hb2⟩
  rw [HRT.out] at h2
  rcases h2 with ⟨hn, _⟩ | ⟨ys, v2, hy2, rfl, hob2⟩
  · cases hn
  simp only [Option.some.injEq] at hy2
  subst hy2
  obtain ⟨p2, c2, hv2, hlc2, hcm2, hbs2, hpc2⟩ := hob2.open
  rw [hzl] at hv2 hbs2 hlc2
  subst hv2
  have HX2 := Lib.hid hbs2
  have HB2 := Lib.hid (below_step HB1.out hb2)
  clear hb2 hob2 hbs2 hpc2 hlc2 hcm2 hst hlen
  go_wp2_with fail
  refine (hread_any _ _ hs2).mono ?_
  rintro e w3 ⟨h3, hb3⟩
  have HB3 := Lib.hid (below_step HB2.out hb3)
  have HX3 := Lib.hid (HX2.out.later hb3)
  clear hb3
  rcases h3 with ⟨hn, rfl⟩ | ⟨ys, v3, hy3, rfl, hob3⟩
  · clear hn
    go_wp2_with fail
    refine (same_any _ _ _ _ _ _ zs zs _ hlm hlm (H.out.later HB3.out) HX3.out).mono ?_
    rintro e w4 ⟨rfl, q, rfl⟩
    have hd : decide (zs = zs) = true := by simp
    rw [hd]
    go_wp2_with fail
    refine (hlives_any _).mono ?_
    rintro e w5 ⟨rfl, hb5⟩
    have HB5 := Lib.hid (below_step (below_drewN HB3.out q) hb5)
    clear hb5
    go_wp2
    go_ret
    exact ⟨rfl, HB5.out⟩
  · have hhx := hexs_hrd hy3
    obtain ⟨p3, c3, hv3, hlc3, hcm3, hbs3, hpc3⟩ := hob3.open
    subst hv3
    have hys : ys.length ≤ 70368744177663 := by
      have h1 := hexs_length ys
      rw [hhx, numsOf_length] at h1
      omega
    have hsx : strOfNums (hexs ys) = s := by rw [hhx]; exact strOfNums_numsOf s
    have HSX := Lib.hid hsx
    have HX4 := Lib.hid hbs3
    clear hhx hy3 hbs3 hpc3 hlc3 hcm3 hob3 hsx
    go_wp2_with fail
    refine (same_any _ _ _ _ _ _ zs zs _ hlm hlm (H.out.later HB3.out) HX3.out).mono ?_
    rintro e w4 ⟨rfl, q, rfl⟩
    have hd : decide (zs = zs) = true := by simp
    rw [hd]
    have HB4 := Lib.hid (below_drewN HB3.out q)
    have HX5 := Lib.hid (HX4.out.later (below_drewN (Below.refl _ _) q))
    go_wp2_with fail
    refine (htext_any _ _ _ ys _ HX5.out hys).mono ?_
    rintro e w5 ⟨rfl, hb5⟩
    rw [HSX.out]
    have HB5 := Lib.hid (below_step HB4.out hb5)
    clear hb5
    go_wp2_with fail
    refine (hlives_any _).mono ?_
    rintro e w6 ⟨rfl, hb6⟩
    have HB6 := Lib.hid (below_step HB5.out hb6)
    clear hb6
    go_wp2
    go_ret
    exact ⟨rfl, HB6.out⟩

theorem hexBack_contract (H : Type) (enc : TypeId × Value → H) (W : World) (base : Nat) (args : Array Value) (ds gs : List (DataW H)) (before : List MemPlace)
    (hval : ∀ (j : Nat) t v, Try.f5.params[j]? = some t → args[j]? = some v → Value.okWide Try.prog W .any base t v)
    (hW : DataW.Whole enc Try.prog Try.f5.params.toList Rows.hexBackSpec.vars false W args.toList ds gs before) (hk : Rows.uptoSmall H (ds ++ gs) = true) :
    Calls Try.prog 5 args W fun e W' => ∃ v, e = .returned v ∧ Rows.hexBackSpec.post enc Try.prog Try.f5 false true false false W args v W' := by
  have hW' := hW
  obtain ⟨p, q, hA0, hV, rfl, hfz, hnd⟩ := hW
  have hA : DataW.TrodAll enc Try.prog W 0 (fun _ => true) true Try.f5.params.toList args.toList ds p := hA0
  rw [Try.params5] at hA hval
  obtain ⟨v0, vs0, d0, ds0, p0, q0, hargs, rfl, rfl, t0, r0⟩ := trodAll_cons hA
  obtain ⟨v1, vs1, d1, ds1, p1, q1, rfl, rfl, rfl, t1, r1⟩ := trodAll_cons r0
  obtain ⟨rfl, rfl, rfl⟩ := trodAll_nil r1
  obtain rfl : args = #[v0, v1] := by cases args; simp_all
  obtain ⟨rfl, rfl⟩ := trodVars_none hV
  obtain ⟨a0, len0, cap0, rfl⟩ := okWide_slice Try.underlying22 (hval 0 22 v0 rfl rfl)
  obtain ⟨fuel0, t0⟩ := t0
  obtain ⟨hlc0, hcm0, hpc0, hb0, zs0, hbs0⟩ := open_bs Try.underlying22 Try.underlying5 (by kernel_rfl) t0
  obtain ⟨s1, rfl, hs1, hb1⟩ := open_strT Try.underlying9 (hval 1 9 v1 rfl rfl) t1
  have hk' := of_decide_eq_true hk
  simp only [Rows.uptoBulkAll, Rows.uptoBulk, List.append_nil, hb0, hb1] at hk'
  refine (hback_walk a0 len0 cap0 zs0 s1 W hbs0 hpc0 hlc0 (by omega) (by omega)).mono fun e W' ⟨he, hb⟩ => ?_
  subst he
  exact ⟨_, rfl, law_post laidOut (by kernel_rfl) rfl Try.underlying4 rfl hW' rfl rfl rfl hb⟩

set_option maxRecDepth 100000 in
theorem hexBack_lifted (os : Os) (started : os.Started) (H : Type) (enc : TypeId × Value → H) (F : Stop.Interp) :
    ReturnsInHanded {} Try.checked os 5 .any ((Rows.OpenSpec.upto Rows.hexBackSpec).pre6 enc Try.prog Try.f5 Rows.hexBackUptoRow.domain false) (((Rows.OpenSpec.upto Rows.hexBackSpec).at F).post enc Try.prog Try.f5 false true false false) := by
  refine returnsInHanded_of_cond (C := Try.checked) (s := Rows.OpenSpec.upto Rows.hexBackSpec) (k := Rows.uptoSmall) rfl own started (by kernel_rfl) Try.func5
    (OpenSpec.witness (enc := enc) (C := Try.checked) (s := Rows.OpenSpec.upto Rows.hexBackSpec) (k := Rows.uptoSmall) rfl false ⟨#[], #[.slice none 0 0, .string ⟨#[]⟩], []⟩ 8 (by kernel_rfl) (by kernel_rfl) (by kernel_rfl)
      (x := ([.nil, .lit (.string [])], [], [])) (by kernel_rfl) rfl (by kernel_rfl)) ?_
  intro W base args ds gs before hval hW _ hk _
  exact hexBack_contract H enc W base args ds gs before hval hW hk

theorem hexBackUpto_holds : Rows.HexBackUptoSaid :=
  OpenClaim.holds_of_cond 5 Try.f5 rfl rfl rfl rfl rfl rfl rfl ⟨rfl, rfl, rfl, rfl, rfl⟩ rfl rfl rfl rfl rfl (by kernel_rfl) Try.func5 (by kernel_rfl)
    (of_decide_eq_true (by kernel_rfl)) (by unfold Func.isWrapper; first | (rw [if_pos (by decide +kernel)]; kernel_rfl) | (rw [if_neg (by decide +kernel)]; exact ⟨rfl, rfl⟩))
    (fun os started H enc _ F => hexBack_lifted os started H enc F)
