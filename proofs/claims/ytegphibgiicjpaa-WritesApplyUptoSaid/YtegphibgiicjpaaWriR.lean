/- Layer 9: what all its laws share: a gap has bytes 0. -/
import Derived.Test.YtegphibgiicjpaaWriQ
import Derived.Test.YtegphibgiicjpaaSame
import Derived.Lib.SlBytesConst
namespace Go.Proofs.Ytegphibgiicjpaa
set_option linter.unusedVariables false
open Go.RowKit Go.Lib

theorem lit_bytes {l : List Int} (h : l.all (fun z => decide (0 ≤ z) && decide (z < 256)) = true) : ∀ j, 0 ≤ l.getD j 0 ∧ l.getD j 0 < 256 := by
  intro j
  rw [List.getD_eq_getElem?_getD]
  by_cases hj : j < l.length
  · rw [List.getElem?_eq_getElem hj]
    have := List.all_eq_true.1 h _ (List.getElem_mem hj)
    simpa using this
  · rw [List.getElem?_eq_none (by omega)]
    simp
def cX : Ch := ⟨4, false, [120, 121]⟩

set_option maxRecDepth 100000 in
set_option maxHeartbeats 2000000 in
theorem wlives_any (w : World) : Calls Try.prog 13 #[] w fun e w' => e = .returned (.bool true) ∧ Below w.heap.size w w' := by
  have kc := fun (w : World) (C : Array Value) (n c : Nat) => Lib.run_convert_bytes_const (P := Try.prog) w 22 5 C n c Try.underlying22 Try.underlying5
  have kc2 : ∀ (w : World) (h : Nat) (C : Array Value) (n c : Nat), w.heap.size = h → (convert 22 22 (.slice (some ⟨h, 0, none⟩) n c)).run Try.prog (w.alloc (.cells C 5)) = .ok (.slice (some ⟨h, 0, none⟩) n c) (w.alloc (.cells C 5 (C.size, C.size + 1))) := fun w h C n c hh => by subst hh; exact kc w C n c
  clear kc
  have hbx := bs_lit_fr w 5 #[.int .u8 120, .int .u8 121] (2, 3) [120, 121] 2 rfl (lit_bytes rfl) rfl
  have hb0 : Below w.heap.size w (w.alloc (.cells #[.int .u8 120, .int .u8 121] 5 (2, 3))) := (Below.refl _ _).alloc (Nat.le_refl _) _
  obtain ⟨A0, hA0⟩ : ∃ A, w.alloc (.cells #[.int .u8 120, .int .u8 121] 5 (2, 3)) = A := ⟨_, rfl⟩
  have hs0 : A0.heap.size = w.heap.size + 1 := by rw [← hA0]; simp
  rw [hA0] at hbx hb0
  have hb1 : Below A0.heap.size A0 (A0.alloc (.cells #[.bool false, .int .i64 4, .slice (some ⟨w.heap.size, 0, none⟩) 2 2] 26)) := (Below.refl _ _).alloc (Nat.le_refl _) _
  have hc1 : Cw (A0.alloc (.cells #[.bool false, .int .i64 4, .slice (some ⟨w.heap.size, 0, none⟩) 2 2] 26)) (w.heap.size + 1) cX (some ⟨w.heap.size, 0, none⟩) 2 2 := by rw [← hs0]; exact heap_alloc_new _ _
  obtain ⟨A1, hA1⟩ : ∃ A, A0.alloc (.cells #[.bool false, .int .i64 4, .slice (some ⟨w.heap.size, 0, none⟩) 2 2] 26) = A := ⟨_, rfl⟩
  have hs1 : A1.heap.size = w.heap.size + 1 + 1 := by rw [← hA1]; simp [hs0]
  rw [hA1] at hb1 hc1
  have hb2 : Below A1.heap.size A1 (A1.alloc (.cells #[.int .u8 97, .int .u8 98, .int .u8 99] 5 (3, 4))) := (Below.refl _ _).alloc (Nat.le_refl _) _
  have hby := bs_lit_fr A1 5 #[.int .u8 97, .int .u8 98, .int .u8 99] (3, 4) [97, 98, 99] 3 rfl (lit_bytes rfl) rfl
  rw [hs1] at hby
  obtain ⟨A2, hA2⟩ : ∃ A, A1.alloc (.cells #[.int .u8 97, .int .u8 98, .int .u8 99] 5 (3, 4)) = A := ⟨_, rfl⟩
  rw [hA2] at hb2 hby
  have hs2 : A2.heap.size = w.heap.size + 3 := by rw [← hA2]; simp [hs1]
  have HBY := Lib.hid hby
  have HC2 := Lib.hid (hc1.keep (w' := A2) (by rw [← hs1]; exact hb2))
  have HB2 := Lib.hid (below_step (below_step hb0 hb1) hb2)
  have HIN : Hid (chIn A2 cX (some ⟨w.heap.size, 0, none⟩) 2 2) := Lib.hid ⟨hbx.later (below_step hb1 hb2), (fun h => by cases h), Nat.le_refl _, by unfold maxLen; omega, by unfold InI64 cX; constructor <;> decide⟩
  have HS2 : Hid (w.heap.size + 2 ≤ A2.heap.size) := Lib.hid (by omega)
  have HAP : Hid (appP [97, 98, 99] cX cX.dat.length = [97, 98, 99, 0, 120, 121]) := Lib.hid (by decide)
  have HSU : Hid (surP [97, 98, 99] (chs [⟨cX, some ⟨w.heap.size, 0, none⟩, 2, 2⟩]) [1] = [97, 98, 99, 0, 120]) := Lib.hid (by show surP [97, 98, 99] [cX] [1] = _; decide)
  have hap := wapply_any (some ⟨w.heap.size + 1 + 1, 0, none⟩) 3 3 [97, 98, 99] cX (some ⟨w.heap.size, 0, none⟩) 2 2 A2 HBY.out (fun h => by cases h) (by omega) HIN.out
  rw [HAP.out] at hap
  have HAPP := Lib.hid hap
  clear hap hbx hb0 hb1 hb2 hc1 hby
  obtain ⟨h0, h1, h2⟩ := HC2.out.cells
  unfold cX at h0 h1
  go_enter Try.func13, Try.ntmps13
  go_wp2_with fail
  clear hA0 hA1 hA2 h0 h1 h2
  refine HAPP.out.mono ?_
  rintro e w3 ⟨v3, rfl, ho3, hb3⟩
  have HB3 := Lib.hid hb3
  obtain ⟨p3, c3, hv3, _, _, hbs3, _⟩ := ho3.open
  subst hv3
  have HBS3 := Lib.hid hbs3
  clear hbs3 ho3 hb3 HAPP
  have HBT := Lib.hid (bs_lit_fr w3 5 #[.int .u8 97, .int .u8 98, .int .u8 99, .int .u8 0, .int .u8 120, .int .u8 121] (6, 7) [97, 98, 99, 0, 120, 121] 6 rfl (lit_bytes rfl) rfl)
  go_wp2_with fail
  refine (same_any p3 (some ⟨w3.heap.size, 0, none⟩) 6 6 c3 6 [97, 98, 99, 0, 120, 121] [97, 98, 99, 0, 120, 121] _ (by unfold maxLen; omega) (by unfold maxLen; omega) (HBS3.out.later ((Below.refl _ _).alloc (Nat.le_refl _) _)) HBT.out).mono ?_
  rintro e w4 ⟨rfl, nq, rfl⟩
  have HB4 : Hid (Below A2.heap.size A2 ((w3.alloc (.cells #[.int .u8 97, .int .u8 98, .int .u8 99, .int .u8 0, .int .u8 120, .int .u8 121] 5 (6, 7))).drewN nq)) := Lib.hid (below_drewN (HB3.out.alloc HB3.out.size _) _)
  generalize (w3.alloc (.cells #[.int .u8 97, .int .u8 98, .int .u8 99, .int .u8 0, .int .u8 120, .int .u8 121] 5 (6, 7))).drewN nq = w4 at *
  clear HBT HBS3 HB3
  obtain ⟨h0, h1, h2⟩ := (HC2.out.keep (w' := w4.alloc (.cells #[.int .u8 97, .int .u8 98, .int .u8 99] 5 (3, 4))) ((HB4.out.alloc HB4.out.size _).mono HS2.out)).cells
  unfold cX at h0 h1
  rw [decide_eq_true (rfl : ([97, 98, 99, 0, 120, 121] : List Int) = [97, 98, 99, 0, 120, 121])]
  have hba := bs_lit_fr w4 5 #[.int .u8 97, .int .u8 98, .int .u8 99] (3, 4) [97, 98, 99] 3 rfl (lit_bytes rfl) rfl
  have ha : Below w4.heap.size w4 (w4.alloc (.cells #[.int .u8 97, .int .u8 98, .int .u8 99] 5 (3, 4))) := (Below.refl _ _).alloc (Nat.le_refl _) _
  have hs3 : (w4.alloc (.cells #[.int .u8 97, .int .u8 98, .int .u8 99] 5 (3, 4))).heap.size = w4.heap.size + 1 := by simp
  have hbb : Below (w4.alloc (.cells #[.int .u8 97, .int .u8 98, .int .u8 99] 5 (3, 4))).heap.size (w4.alloc (.cells #[.int .u8 97, .int .u8 98, .int .u8 99] 5 (3, 4))) ((w4.alloc (.cells #[.int .u8 97, .int .u8 98, .int .u8 99] 5 (3, 4))).alloc (.cells #[.bool false, .int .i64 4, .slice (some ⟨w.heap.size, 0, none⟩) 2 2] 26)) := (Below.refl _ _).alloc (Nat.le_refl _) _
  have hcw : Cw ((w4.alloc (.cells #[.int .u8 97, .int .u8 98, .int .u8 99] 5 (3, 4))).alloc (.cells #[.bool false, .int .i64 4, .slice (some ⟨w.heap.size, 0, none⟩) 2 2] 26)) (w4.heap.size + 1) cX (some ⟨w.heap.size, 0, none⟩) 2 2 := two_new _ _ _
  obtain ⟨C1, hC1⟩ : ∃ A, (w4.alloc (.cells #[.int .u8 97, .int .u8 98, .int .u8 99] 5 (3, 4))).alloc (.cells #[.bool false, .int .i64 4, .slice (some ⟨w.heap.size, 0, none⟩) 2 2] 26) = A := ⟨_, rfl⟩
  have hs4 : C1.heap.size = w4.heap.size + 1 + 1 := by rw [← hC1]; simp
  rw [hC1] at hbb hcw
  have hbc : Below C1.heap.size C1 (C1.alloc (.cells #[.int .u8 1] 5)) := (Below.refl _ _).alloc (Nat.le_refl _) _
  have hbo := bs_lit_fr C1 5 #[.int .u8 1] (0, 0) [1] 1 rfl (lit_bytes rfl) rfl
  rw [hs4] at hbo
  have HB5 := Lib.hid (below_step HB4.out (below_step (below_step ha hbb) hbc))
  have hfin : Below (w4.heap.size + 1 + 1) C1 (C1.alloc (.cells #[.int .u8 1] 5)) := by rw [← hs4]; exact hbc
  have HWS : Hid (Ws (C1.alloc (.cells #[.int .u8 1] 5)) (some ⟨w4.heap.size + 1, 0, none⟩) 1 [⟨cX, some ⟨w.heap.size, 0, none⟩, 2, 2⟩]) := Lib.hid (by
    refine ⟨rfl, fun x hx => ?_, Or.inr ⟨w4.heap.size + 1, 0, rfl, fun j hj => ?_⟩⟩
    · obtain rfl : x = ⟨cX, some ⟨w.heap.size, 0, none⟩, 2, 2⟩ := by simpa using hx
      exact HIN.out.later HB5.out
    · obtain rfl : j = 0 := by omega
      exact (hcw.keep hfin).cells)
  have hsv := wsurvive_any (some ⟨w4.heap.size, 0, none⟩) 3 3 [97, 98, 99] (some ⟨w4.heap.size + 1, 0, none⟩) 1 1 _ (some ⟨w4.heap.size + 1 + 1, 0, none⟩) 1 1 [1] _ (hba.later (below_step hbb hbc)) (fun h => by cases h) (by omega) HWS.out (by omega) hbo (by omega)
  rw [HSU.out] at hsv
  have HSV := Lib.hid hsv
  rw [← hC1] at HSV HB5
  clear hsv hba ha hs3 hbb hcw hC1 hs4 hbc hbo hfin HWS
  go_wp2_with fail
  refine HSV.out.mono ?_
  rintro e w5 ⟨v5, rfl, ho5, hb5⟩
  have HB6 := Lib.hid (below_step HB5.out hb5)
  obtain ⟨p5, c5, hv5, _, _, hbs5, _⟩ := ho5.open
  subst hv5
  have HBS5 := Lib.hid hbs5
  clear hbs5 ho5 hb5 HSV HB5 h0 h1 h2
  have HBT := Lib.hid (bs_lit_fr w5 5 #[.int .u8 97, .int .u8 98, .int .u8 99, .int .u8 0, .int .u8 120] (5, 6) [97, 98, 99, 0, 120] 5 rfl (lit_bytes rfl) rfl)
  go_wp2_with fail
  refine (same_any p5 (some ⟨w5.heap.size, 0, none⟩) 5 5 c5 5 [97, 98, 99, 0, 120] [97, 98, 99, 0, 120] _ (by unfold maxLen; omega) (by unfold maxLen; omega) (HBS5.out.later ((Below.refl _ _).alloc (Nat.le_refl _) _)) HBT.out).mono ?_
  rintro e w6 ⟨rfl, nq2, rfl⟩
  have HB7 : Hid (Below w.heap.size w ((w5.alloc (.cells #[.int .u8 97, .int .u8 98, .int .u8 99, .int .u8 0, .int .u8 120] 5 (5, 6))).drewN nq2)) := Lib.hid (below_step HB2.out (below_drewN (HB6.out.alloc HB6.out.size _) _))
  generalize (w5.alloc (.cells #[.int .u8 97, .int .u8 98, .int .u8 99, .int .u8 0, .int .u8 120] 5 (5, 6))).drewN nq2 = w6 at *
  rw [decide_eq_true (rfl : ([97, 98, 99, 0, 120] : List Int) = [97, 98, 99, 0, 120])]
  go_wp2
  go_ret
  exact ⟨rfl, HB7.out⟩
end Go.Proofs.Ytegphibgiicjpaa
