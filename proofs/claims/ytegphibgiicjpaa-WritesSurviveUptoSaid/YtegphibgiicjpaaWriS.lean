/- The statement WritesSurvive, where what it reads is of bulk at most 1048576: for all bytes, all changes and all choices it answers true and leaves its arguments as they were. -/
import Derived.Test.YtegphibgiicjpaaWriR
namespace Go.Proofs.Ytegphibgiicjpaa
set_option linter.unusedVariables false
open Go.RowKit Go.Lib Go.ChangeShapes Go.WideShapes Go.ChangeAt

set_option maxRecDepth 100000 in
set_option maxHeartbeats 2000000 in
theorem wsurvives_walk (q : Option Addr) (l cp : Nat) (zs : List Int) (p : Option Addr) (n cap : Nat) (L : List Wd) (r : Option Addr) (m cm : Nat) (ch : List Int) (w : World) (hz : Bs w q l zs) (hq : q = none → cp = 0) (hlc : l ≤ cp) (hl : cp ≤ 1048576) (h : Ws w p n L) (hpc : p = none → cap = 0) (hnc : n ≤ cap) (hn : n ≤ 1048576)
    (hr : Bs w r m ch) (hrc : r = none → cm = 0) (hmc : m ≤ cm) (hm : cm ≤ 1048576) :
    Calls Try.prog 4 #[.slice q l cp, .slice p n cap, .slice r m cm] w fun e w' => e = .returned (.bool true) ∧ Below w.heap.size w w' := by
  have H := Lib.hid h
  have HR := Lib.hid hr
  have HZ := Lib.hid hz
  have HQ := Lib.hid hq
  have HL : Hid (l ≤ 2097152) := Lib.hid (by omega)
  have HM : Hid (m ≤ 2097152) := Lib.hid (by omega)
  have HN := Lib.hid hn
  have HSL : Hid ((surP zs (chs L) ch).length ≤ maxLen) := Lib.hid (by have := surP_bound zs (chs L) ch (by rw [hz.1]; omega); unfold maxLen; omega)
  clear h hz hq hr hpc hrc hnc
  go_enter Try.func4, Try.ntmps4
  go_wp2_with fail
  refine (wsurvive_any q l cp zs p n cap L r m cm ch w HZ.out HQ.out HL.out H.out HN.out HR.out HM.out).mono ?_
  rintro e w1 ⟨v1, rfl, ho1, hb1⟩
  have HB1 := Lib.hid hb1
  obtain ⟨p1, c1, hv1, _, _, hbs1, _⟩ := ho1.open
  subst hv1
  have HBS1 := Lib.hid hbs1
  clear hbs1 ho1 hb1
  go_wp2_with fail
  refine (rsurvive_any q l cp zs p n cap L r m cm ch w1 (HZ.out.later HB1.out) HQ.out HL.out (H.out.later HB1.out) HN.out (HR.out.later HB1.out) HM.out).mono ?_
  rintro e w2 ⟨v2, rfl, ho2, hb2⟩
  have HB2 := Lib.hid (below_step HB1.out hb2)
  obtain ⟨p2, c2, hv2, _, _, hbs2, _⟩ := ho2.open
  subst hv2
  have HBS2 := Lib.hid hbs2
  have HBS3 := Lib.hid (HBS1.out.later hb2)
  clear hbs2 ho2 hb2 HBS1 HB1
  generalize surP zs (chs L) ch = ss at *
  go_wp2_with fail
  refine (same_any p1 p2 _ _ c1 c2 ss ss _ HSL.out HSL.out HBS3.out HBS2.out).mono ?_
  rintro e w3 ⟨rfl, nq, rfl⟩
  have HB3 := Lib.hid (below_drewN HB2.out nq)
  generalize w2.drewN nq = w3 at *
  clear HBS3 HBS2 HB2
  rw [decide_eq_true (rfl : ss = ss)]
  go_wp2_with fail
  refine (wpeak_any (l : Int) p n cap L w3 (H.out.later HB3.out) HN.out).mono ?_
  rintro e w4 ⟨rfl, hb4⟩
  have HB4 := Lib.hid (below_step HB3.out hb4)
  clear hb4
  generalize hpk : peakP (l : Int) (chs L) = pk
  have HPK := Lib.hid hpk
  clear hpk
  go_wp2_with fail
  refine (rpeak_any (l : Int) p n cap L w4 (H.out.later HB4.out) HN.out).mono ?_
  rintro e w5 ⟨rfl, hb5⟩
  have HB5 := Lib.hid (below_step HB4.out hb5)
  clear hb5
  rw [HPK.out]
  clear HPK
  go_wp2_with fail
  refine (wlives_any w5).mono ?_
  rintro e w6 ⟨rfl, hb6⟩
  have HB6 := Lib.hid (below_step HB5.out hb6)
  clear hb6
  go_wp2
  go_ret
  exact ⟨rfl, HB6.out⟩
theorem writesSurvive_contract (H : Type) (enc : TypeId × Value → H) (W : World) (base : Nat) (args : Array Value) (ds gs : List (DataW H)) (before : List MemPlace)
    (hval : ∀ (j : Nat) t v, Try.f4.params[j]? = some t → args[j]? = some v → Value.okWide Try.prog W .any base t v)
    (hW : DataW.Whole enc Try.prog Try.f4.params.toList Rows.writesSurviveSpec.vars false W args.toList ds gs before) (hk : Rows.uptoSmall H (ds ++ gs) = true) :
    Calls Try.prog 4 args W fun e W' => ∃ v, e = .returned v ∧ Rows.writesSurviveSpec.post enc Try.prog Try.f4 false true false false W args v W' := by
  have hW' := hW
  obtain ⟨p, q, hA0, hV, rfl, hfz, hnd⟩ := hW
  have hA : DataW.TrodAll enc Try.prog W 0 (fun _ => true) true Try.f4.params.toList args.toList ds p := hA0
  rw [Try.params4] at hA hval
  obtain ⟨v0, vs0, d0, ds0, p0, q0, hargs, rfl, rfl, t0, r0⟩ := trodAll_cons hA
  obtain ⟨v1, vs1, d1, ds1, p1, q1, rfl, rfl, rfl, t1, r1⟩ := trodAll_cons r0
  obtain ⟨v2, vs2, d2, ds2, p2, q2, rfl, rfl, rfl, t2, r2⟩ := trodAll_cons r1
  obtain ⟨rfl, rfl, rfl⟩ := trodAll_nil r2
  obtain rfl : args = #[v0, v1, v2] := by cases args; simp_all
  obtain ⟨rfl, rfl⟩ := trodVars_none hV
  obtain ⟨a0, len0, cap0, rfl⟩ := okWide_slice Try.underlying22 (hval 0 22 v0 rfl rfl)
  obtain ⟨fuel0, t0⟩ := t0
  obtain ⟨hlc0, hcm0, hpc0, hb0, zs0, hbs0⟩ := open_bs Try.underlying22 Try.underlying5 (by kernel_rfl) t0
  obtain ⟨a1, len1, cap1, rfl⟩ := okWide_slice Try.underlying23 (hval 1 23 v1 rfl rfl)
  obtain ⟨fuel1, t1⟩ := t1
  obtain ⟨hlc1, hcm1, hpc1, hb1, L1, hbs1⟩ := open_wds t1
  have hb1' : 4 * len1 + 1 ≤ Rows.uptoBulk d1 := hb1
  obtain ⟨B1, hB1⟩ : ∃ B, Rows.uptoBulk d1 = B := ⟨_, rfl⟩
  rw [hB1] at hb1'
  obtain ⟨a2, len2, cap2, rfl⟩ := okWide_slice Try.underlying22 (hval 2 22 v2 rfl rfl)
  obtain ⟨fuel2, t2⟩ := t2
  obtain ⟨hlc2, hcm2, hpc2, hb2, zs2, hbs2⟩ := open_bs Try.underlying22 Try.underlying5 (by kernel_rfl) t2
  have hk' := of_decide_eq_true hk
  simp only [Rows.uptoBulkAll, List.append_nil, hb0, hB1, hb2] at hk'
  refine (wsurvives_walk  a0 len0 cap0 zs0 a1 len1 cap1 L1 a2 len2 cap2 zs2 W hbs0 hpc0 hlc0 (by omega) hbs1 hpc1 hlc1 (by omega) hbs2 hpc2 hlc2 (by omega)).mono fun e W' ⟨he, hb⟩ => ?_
  subst he
  exact ⟨_, rfl, law_post laidOut (by kernel_rfl) rfl Try.underlying4 rfl hW' rfl rfl rfl hb⟩

set_option maxRecDepth 100000 in
theorem writesSurvive_lifted (os : Os) (started : os.Started) (H : Type) (enc : TypeId × Value → H) (F : Stop.Interp) :
    ReturnsInHanded {} Try.checked os 4 .any ((Rows.OpenSpec.upto Rows.writesSurviveSpec).pre6 enc Try.prog Try.f4 Rows.writesSurviveUptoRow.domain false) (((Rows.OpenSpec.upto Rows.writesSurviveSpec).at F).post enc Try.prog Try.f4 false true false false) := by
  refine returnsInHanded_of_cond (C := Try.checked) (s := Rows.OpenSpec.upto Rows.writesSurviveSpec) (k := Rows.uptoSmall) rfl own started (by kernel_rfl) Try.func4
    (OpenSpec.witness (enc := enc) (C := Try.checked) (s := Rows.OpenSpec.upto Rows.writesSurviveSpec) (k := Rows.uptoSmall) rfl false ⟨#[], #[.slice none 0 0, .slice none 0 0, .slice none 0 0], []⟩ 8 (by kernel_rfl) (by kernel_rfl) (by kernel_rfl)
      (x := ([.nil, .nil, .nil], [], [])) (by kernel_rfl) rfl (by kernel_rfl)) ?_
  intro W base args ds gs before hval hW _ hk _
  exact writesSurvive_contract H enc W base args ds gs before hval hW hk

theorem writesSurviveUpto_holds : Rows.WritesSurviveUptoSaid :=
  OpenClaim.holds_of_cond 4 Try.f4 rfl rfl rfl rfl rfl rfl rfl ⟨rfl, rfl, rfl, rfl, rfl⟩ rfl rfl rfl rfl rfl (by kernel_rfl) Try.func4 (by kernel_rfl)
    (of_decide_eq_true (by kernel_rfl)) (by unfold Func.isWrapper; first | (rw [if_pos (by decide +kernel)]; kernel_rfl) | (rw [if_neg (by decide +kernel)]; exact ⟨rfl, rfl⟩))
    (fun os started H enc _ F => writesSurvive_lifted os started H enc F)
end Go.Proofs.Ytegphibgiicjpaa
