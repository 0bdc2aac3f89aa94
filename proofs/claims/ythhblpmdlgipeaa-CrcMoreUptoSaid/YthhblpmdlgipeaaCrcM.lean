/- The statement CrcMore of layer 5, where what comes in is of bulk at most 1048576: the sum of bytes behind others; the law returns true. -/
import Derived.Test.YthhblpmdlgipeaaCrcW2
import Derived.Test.YthhblpmdlgipeaaLaw
namespace Go.Proofs.Ythhblpmdlgipeaa
set_option linter.unusedVariables false
open Go.RowKit Go.Lib Go.ChangeShapes Go.WideShapes Go.ChangeAt

set_option maxRecDepth 100000 in
set_option maxHeartbeats 1000000 in
theorem crcmore_walk (p : Option Addr) (len cap : Nat) (zs : List Int) (q : Option Addr) (len' cap' : Nat) (ys : List Int) (w : World) (h : Bs w p len zs) (hpc : p = none → cap = 0) (hlc : len ≤ cap) (hlen : len ≤ 1048576) (h' : Bs w q len' ys) (hpc' : q = none → cap' = 0) (hlc' : len' ≤ cap') (hlen' : len' ≤ 1048576) :
    Calls Try.prog 4 #[.slice p len cap, .slice q len' cap'] w fun e w' => e = .returned (.bool true) ∧ Below w.heap.size w w' := by
  have H := Lib.hid h
  have H' := Lib.hid h'
  have HPC := Lib.hid hpc
  have HPC' := Lib.hid hpc'
  have HL := Lib.hid h.len
  have HL' := Lib.hid h'.len
  have HB0 : Hid (Below w.heap.size w (w.alloc (.cells #[] 5))) := Lib.hid ((Below.refl _ _).alloc (Nat.le_refl _) _)
  have HO0 : Hid (Ob (w.alloc (.cells #[] 5)) w.heap.size 5 (.slice (some ⟨w.heap.size, 0, none⟩) 0 0) []) := Lib.hid (ob_lit w 5 #[] [] 0 rfl (by unfold maxLen; omega) (fun j => by simp) rfl)
  have HY1 : Hid (([] : List Int).length + len ≤ 140737488355328) := Lib.hid (by simp; omega)
  have HY2 : Hid (zs.length + len' ≤ 140737488355328) := Lib.hid (by rw [h.len]; omega)
  have HM1 := Lib.hid (moreN_app zs ys)
  have HM2 := Lib.hid (moreN_nil zs)
  have HLT := Lib.hid (crcN_lt zs)
  clear h h' hpc hpc' hlc hlc'
  go_enter Try.func4, Try.ntmps4
  go_wp2_with (first
    | (refine wpList_append_bytes rfl (.tmp 6) (.tmp 7) 22 5 rfl Try.underlying22 info8 w.heap.size _ [] rfl HO0.out p len cap zs rfl (H.out.later HB0.out) HPC.out HY1.out (by simp) ?_; intro v1 w1 hob1 hg1; rw [List.nil_append] at hob1; have HO1 := Lib.hid hob1; have HB1 := Lib.hid (below_new HB0.out HO0.out hg1 HB0.out.size); clear hob1 hg1)
    | (refine wpList_append_bytes rfl (.tmp 8) (.tmp 9) 22 5 rfl Try.underlying22 info8 w.heap.size _ zs rfl HO1.out q len' cap' ys rfl (H'.out.later HB1.out) HPC'.out HY2.out HB1.out.size ?_; intro v2 w2 hob2 hg2; have HO2 := Lib.hid hob2; have HB2 := Lib.hid (below_new HB1.out HO1.out hg2 HB1.out.size); clear hob2 hg2))
  obtain ⟨p2, c2, hv2, _, _, hbs2, _⟩ := HO2.out.open
  obtain ⟨L2, hL2⟩ : ∃ L2, (zs ++ ys).length = L2 := ⟨_, rfl⟩
  have hL2m : L2 ≤ maxLen := by rw [List.length_append, HL.out, HL'.out] at hL2; unfold maxLen; omega
  rw [hL2] at hv2 hbs2
  subst hv2
  have HS2 := Lib.hid hbs2
  have HL2 := Lib.hid hL2m
  clear hbs2 hL2 hL2m
  have hm1 : len ≤ maxLen := by unfold maxLen; omega
  have hm2 : len' ≤ maxLen := by unfold maxLen; omega
  have hm0 : 0 ≤ maxLen := Nat.zero_le _
  refine (sum_any p len cap zs _ (H.out.later HB2.out) hm1).mono ?_
  rintro e w3 ⟨rfl, hb3⟩
  have HB3 := Lib.hid (below_step HB2.out hb3)
  have HS3 := Lib.hid (HS2.out.later hb3)
  clear hb3
  go_wp2_with fail
  refine (more_any (crcN zs) q len' cap' ys _ (H'.out.later HB3.out) HLT.out hm2).mono ?_
  rintro e w4 ⟨rfl, hb4⟩
  have HB4 := Lib.hid (below_step HB3.out hb4)
  have HS4 := Lib.hid (HS3.out.later hb4)
  rw [HM1.out]
  clear hb4
  go_wp2_with fail
  refine (sum_any p2 L2 c2 (zs ++ ys) _ HS4.out HL2.out).mono ?_
  rintro e w5 ⟨rfl, hb5⟩
  have HB5 := Lib.hid (below_step HB4.out hb5)
  clear hb5
  go_wp2_with fail
  refine (sum_any p len cap zs _ (H.out.later HB5.out) hm1).mono ?_
  rintro e w6 ⟨rfl, hb6⟩
  have HB6 := Lib.hid (below_step HB5.out hb6)
  clear hb6
  go_wp2_with fail
  refine (more_any (crcN zs) none 0 0 [] _ (Bs.empty _ _) HLT.out hm0).mono ?_
  rintro e w7 ⟨rfl, hb7⟩
  have HB7 := Lib.hid (below_step HB6.out hb7)
  rw [HM2.out]
  clear hb7
  go_wp2_with fail
  refine (sum_any p len cap zs _ (H.out.later HB7.out) hm1).mono ?_
  rintro e w8 ⟨rfl, hb8⟩
  have HB8 := Lib.hid (below_step HB7.out hb8)
  clear hb8
  go_wp2_with fail
  refine (lives_any _).mono ?_
  rintro e w9 ⟨rfl, hb9⟩
  have HB9 := Lib.hid (below_step HB8.out hb9)
  clear hb9
  go_wp2
  go_ret
  exact ⟨rfl, HB9.out⟩
theorem crcMore_contract (H : Type) (enc : TypeId × Value → H) (W : World) (base : Nat) (args : Array Value) (ds gs : List (DataW H)) (before : List MemPlace)
    (hval : ∀ (j : Nat) t v, Try.f4.params[j]? = some t → args[j]? = some v → Value.okWide Try.prog W .any base t v)
    (hW : DataW.Whole enc Try.prog Try.f4.params.toList Rows.crcMoreSpec.vars false W args.toList ds gs before) (hk : Rows.uptoSmall H (ds ++ gs) = true) :
    Calls Try.prog 4 args W fun e W' => ∃ v, e = .returned v ∧ Rows.crcMoreSpec.post enc Try.prog Try.f4 false true false false W args v W' := by
  have hW' := hW
  obtain ⟨p, q, hA0, hV, rfl, hfz, hnd⟩ := hW
  have hA : DataW.TrodAll enc Try.prog W 0 (fun _ => true) true Try.f4.params.toList args.toList ds p := hA0
  rw [Try.params4] at hA hval
  obtain ⟨v0, vs0, d0, ds0, p0, q0, hargs, rfl, rfl, t0, r0⟩ := trodAll_cons hA
  obtain ⟨v1, vs1, d1, ds1, p1, q1, rfl, rfl, rfl, t1, r1⟩ := trodAll_cons r0
  obtain ⟨rfl, rfl, rfl⟩ := trodAll_nil r1
  obtain rfl : args = #[v0, v1] := by cases args; simp_all
  obtain ⟨rfl, rfl⟩ := trodVars_none hV
  obtain ⟨a0, len0, cap0, rfl⟩ := okWide_slice Try.underlying22 (hval 0 22 v0 rfl rfl)
  obtain ⟨fuel0, t0⟩ := t0
  obtain ⟨hlc0, hcm0, hpc0, hb0, zs0, hbs0⟩ := open_bs Try.underlying22 Try.underlying5 (by kernel_rfl) t0
  obtain ⟨a1, len1, cap1, rfl⟩ := okWide_slice Try.underlying22 (hval 1 22 v1 rfl rfl)
  obtain ⟨fuel1, t1⟩ := t1
  obtain ⟨hlc1, hcm1, hpc1, hb1, zs1, hbs1⟩ := open_bs Try.underlying22 Try.underlying5 (by kernel_rfl) t1
  have hk' := of_decide_eq_true hk
  simp only [Rows.uptoBulkAll, Rows.uptoBulk, List.append_nil, hb0, hb1] at hk'
  refine (crcmore_walk a0 len0 cap0 zs0 a1 len1 cap1 zs1 W hbs0 hpc0 hlc0 (by omega) hbs1 hpc1 hlc1 (by omega)).mono fun e W' ⟨he, hb⟩ => ?_
  subst he
  exact ⟨_, rfl, law_post laidOut (by kernel_rfl) rfl Try.underlying4 rfl hW' rfl rfl rfl hb⟩

set_option maxRecDepth 100000 in
theorem crcMore_lifted (os : Os) (started : os.Started) (H : Type) (enc : TypeId × Value → H) (F : Stop.Interp) :
    ReturnsInHanded {} Try.checked os 4 .any ((Rows.OpenSpec.upto Rows.crcMoreSpec).pre6 enc Try.prog Try.f4 Rows.crcMoreUptoRow.domain false) (((Rows.OpenSpec.upto Rows.crcMoreSpec).at F).post enc Try.prog Try.f4 false true false false) := by
  refine returnsInHanded_of_cond (C := Try.checked) (s := Rows.OpenSpec.upto Rows.crcMoreSpec) (k := Rows.uptoSmall) rfl own started (by kernel_rfl) Try.func4
    (OpenSpec.witness (enc := enc) (C := Try.checked) (s := Rows.OpenSpec.upto Rows.crcMoreSpec) (k := Rows.uptoSmall) rfl false ⟨#[], #[.slice none 0 0, .slice none 0 0], []⟩ 8 (by kernel_rfl) (by kernel_rfl) (by kernel_rfl)
      (x := ([.nil, .nil], [], [])) (by kernel_rfl) rfl (by kernel_rfl)) ?_
  intro W base args ds gs before hval hW _ hk _
  exact crcMore_contract H enc W base args ds gs before hval hW hk

theorem crcMoreUpto_holds : Rows.CrcMoreUptoSaid :=
  OpenClaim.holds_of_cond 4 Try.f4 rfl rfl rfl rfl rfl rfl rfl ⟨rfl, rfl, rfl, rfl, rfl⟩ rfl rfl rfl rfl rfl (by kernel_rfl) Try.func4 (by kernel_rfl)
    (of_decide_eq_true (by kernel_rfl)) (by unfold Func.isWrapper; first | (rw [if_pos (by decide +kernel)]; kernel_rfl) | (rw [if_neg (by decide +kernel)]; exact ⟨rfl, rfl⟩))
    (fun os started H enc _ F => crcMore_lifted os started H enc F)
end Go.Proofs.Ythhblpmdlgipeaa
