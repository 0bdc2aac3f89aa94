/- Layer 8: the reference's File. -/
import Derived.Test.YtjdggdkdlgaocaaDoorNamW
import Derived.Test.YtjdggdkdlgaocaaDoorInf
namespace Go.Proofs.YtjdggdkdlgaocaaDoor
set_option linter.unusedVariables false
open Go.RowKit Go.Lib

/-- a number without its last figures -/
def ndv (n : Int) : Nat → Int
  | 0 => n
  | i + 1 => ndv n i / 10
theorem ndv_rng {n : Int} (h0 : 0 ≤ n) (h : n ≤ 99999999) : ∀ i, 0 ≤ ndv n i ∧ ndv n i ≤ 99999999
  | 0 => ⟨h0, h⟩
  | i + 1 => by have := ndv_rng h0 h i; rw [ndv]; omega
theorem dig8_step (n : Int) (i : Nat) (hi : i < 8) : (dig8 n).drop (8 - (i + 1)) = (ndv n i % 10 + 48) :: (dig8 n).drop (8 - i) := by
  match i, hi with
  | 0, _ => rfl
  | 1, _ => simp [ndv, dig8]
  | 2, _ => simp [ndv, dig8]; omega
  | 3, _ => simp [ndv, dig8]; omega
  | 4, _ => simp [ndv, dig8]; omega
  | 5, _ => simp [ndv, dig8]; omega
  | 6, _ => simp [ndv, dig8]; omega
  | 7, _ => simp [ndv, dig8]; omega
theorem dig8_bytes (n : Int) : ∀ j, 0 ≤ (dig8 n).getD j 0 ∧ (dig8 n).getD j 0 < 256 := by
  intro j
  match j with
  | 0 => simp [dig8]; omega
  | 1 => simp [dig8]; omega
  | 2 => simp [dig8]; omega
  | 3 => simp [dig8]; omega
  | 4 => simp [dig8]; omega
  | 5 => simp [dig8]; omega
  | 6 => simp [dig8]; omega
  | 7 => simp [dig8]; omega
  | j + 8 => simp [dig8]
theorem wrd_bytes (k : Int) : ∀ j, 0 ≤ (wrd k).getD j 0 ∧ (wrd k).getD j 0 < 256 := by
  have h : ∀ l : List Int, (l.all fun x => decide (0 ≤ x ∧ x < 256)) = true → ∀ j, 0 ≤ l.getD j 0 ∧ l.getD j 0 < 256 := by
    intro l hl j
    by_cases hj : j < l.length
    · rw [List.getD_eq_getElem?_getD, List.getElem?_eq_getElem hj]
      exact of_decide_eq_true (List.all_eq_true.1 hl _ (List.getElem_mem hj))
    · rw [List.getD_eq_getElem?_getD, List.getElem?_eq_none (by omega)]; simp
  unfold wrd
  split
  · exact h _ (by decide)
  · split
    · exact h _ (by decide)
    · split <;> exact h _ (by decide)
theorem bytes_app {l m : List Int} (hl : ∀ j, 0 ≤ l.getD j 0 ∧ l.getD j 0 < 256) (hm : ∀ j, 0 ≤ m.getD j 0 ∧ m.getD j 0 < 256) : ∀ j, 0 ≤ (l ++ m).getD j 0 ∧ (l ++ m).getD j 0 < 256 := by
  intro j
  by_cases hj : j < l.length
  · have := hl j
    rwa [List.getD_eq_getElem?_getD, List.getElem?_append_left hj, ← List.getD_eq_getElem?_getD]
  · have := hm (j - l.length)
    rwa [List.getD_eq_getElem?_getD, List.getElem?_append_right (by omega), ← List.getD_eq_getElem?_getD]
theorem fileP_bytes (k n : Int) : ∀ j, 0 ≤ (fileP k n).getD j 0 ∧ (fileP k n).getD j 0 < 256 := by
  unfold fileP
  split
  · exact bytes_app (wrd_bytes k) (dig8_bytes n)
  · intro j; simp

set_option maxRecDepth 100000 in
set_option maxHeartbeats 1000000 in
theorem rfile_any (k n : Int) (w : World) (hk : -9223372036854775808 ≤ k ∧ k < 9223372036854775808) (hn : -9223372036854775808 ≤ n ∧ n < 9223372036854775808) :
    Calls Tryd.prog 14 #[.int .i64 k, .int .i64 n] w fun e w' => e = .returned (.string (strOfNums (fileP k n))) ∧ Below w.heap.size w w' := by
  by_cases hg : filegood k n
  · have hg' := hg
    obtain ⟨k1, k3, n1, n2⟩ := hg
    have HF : Hid (∀ t : ByteArray, ∀ v : ByteArray, numsOf t = (dig8 n).drop (8 - 8) → numsOf v = wrd k → v ++ t = strOfNums (fileP k n)) := Lib.hid fun t v h1 h2 => by
      apply numsOf_inj
      rw [numsOf_append, h1, h2, numsOf_strOfNums (fileP_bytes k n), fileP_good hg']; rfl
    have HR := Lib.hid (ndv_rng (n := n) (by omega) n2)
    have HDS := Lib.hid (dig8_step n)
    have a1 : ¬ (k < 1) := by omega
    have a2 : ¬ (3 < k) := by omega
    have a3 : ¬ (n < 1) := by omega
    have a4 : ¬ (99999999 < n) := by omega
    clear hk hn hg'
    go_enter Tryd.func14, Tryd.ntmps14
    go_wp2
    go_loopw [1, 5, 6] (fun v1 v5 v6 wr => ∃ (i : Nat) (m : Int) (t : ByteArray), i ≤ 8 ∧ v1 = .int .i64 m ∧ v5 = .string t ∧ v6 = .int .i64 (i : Int) ∧ Hid (m = ndv n i) ∧ Hid (numsOf t = (dig8 n).drop (8 - i)) ∧ Hid (Below w.heap.size w wr)) (fun _ _ i _ => 8 - (intOf i).toNat)
    case atStart => exact ⟨0, n, ⟨#[]⟩, by omega, rfl, rfl, rfl, Lib.hid rfl, Lib.hid rfl, Lib.hid (Below.refl _ _)⟩
    case round =>
      obtain ⟨i, m, t, hi, rfl, rfl, rfl, HM, HT, HB⟩ := hrel
      have hts : t.size = i := by
        have h := congrArg List.length HT.out
        rw [numsOf_length, List.length_drop] at h
        have : (dig8 n).length = 8 := rfl
        omega
      by_cases hlt : i < 8
      · obtain ⟨r1, r2⟩ := HR.out i
        rw [← HM.out] at r1 r2
        have q1 : m.tmod 10 = m % 10 := by rw [Int.tmod_eq_emod_of_nonneg r1]
        have q2 : m.tdiv 10 = m / 10 := by rw [Int.tdiv_eq_ediv_of_nonneg r1]
        obtain ⟨d, hd⟩ : ∃ d : Int, m % 10 + 48 = d := ⟨_, rfl⟩
        have hd' : 48 + m % 10 = d := by omega
        have hdr : 48 ≤ d ∧ d ≤ 57 := by omega
        have hw : IntKind.u8.wrap d = d := by simp [IntKind.wrap, IntKind.bits, IntKind.signed]; omega
        have hone : ∀ j, 0 ≤ ([d] : List Int).getD j 0 ∧ ([d] : List Int).getD j 0 < 256 := fun j => by
          match j with
          | 0 => simp; omega
          | j + 1 => simp
        have hbs := bs_lit_fr wr 5 #[.int .u8 d] (0, 0) [d] 1 rfl hone rfl
        have hcv := hbs.run_string (P := Tryd.prog) 41 5 9 Tryd.underlying41 Tryd.underlying5 Tryd.underlying9 1
        obtain ⟨u, hu⟩ : ∃ u, strOfNums [d] = u := ⟨_, rfl⟩
        have hus : u.size = 1 := by
          have := numsOf_length (strOfNums [d])
          rw [numsOf_strOfNums hone, hu] at this
          simpa using this.symm
        rw [hu] at hcv
        have HN2 : Hid (numsOf (u ++ t) = (dig8 n).drop (8 - (i + 1))) := Lib.hid (by
          rw [numsOf_append, ← hu, numsOf_strOfNums hone, HT.out, HDS.out i hlt, ← HM.out, hd]; rfl)
        have HM2 : Hid (m / 10 = ndv n (i + 1)) := Lib.hid (by rw [ndv, ← HM.out])
        have HB2 := Lib.hid (HB.out.alloc HB.out.size (.cells #[.int .u8 d] 5))
        clear hbs hone hd hu HT HM HB
        go_wp2
        refine ⟨?_, by simp [intOf]; omega⟩
        first
          | exact ⟨i + 1, m / 10, u ++ t, by omega, rfl, rfl, by go_num, HM2, HN2, HB2⟩
          | ((repeat apply Exists.intro); refine ⟨?_, rfl⟩; exact ⟨i + 1, m / 10, u ++ t, by omega, rfl, rfl, by go_num, HM2, HN2, HB2⟩)
      · obtain rfl : i = 8 := by omega
        have HC := Lib.hid (rwords_any wr)
        have HB2 := Lib.hid (HB.out.alloc HB.out.size (.cells wordsC 9))
        have hcell : ∀ j v, wordsC[j]? = some v → (wr.alloc (.cells wordsC 9)).cell? ⟨wr.heap.size, j, none⟩ = some v := fun j v h => by
          rw [cell_of_row _ _ _ wordsC 9 (0, 0) (heap_alloc_new _ _)]; exact h
        have h1 : (wr.alloc (.cells wordsC 9)).cell? ⟨wr.heap.size, 1, none⟩ = some (.string ⟨#[115, 101, 103, 45]⟩) := hcell 1 _ rfl
        have h2 : (wr.alloc (.cells wordsC 9)).cell? ⟨wr.heap.size, 2, none⟩ = some (.string ⟨#[104, 105, 110, 116, 45]⟩) := hcell 2 _ rfl
        have h3 : (wr.alloc (.cells wordsC 9)).cell? ⟨wr.heap.size, 3, none⟩ = some (.string ⟨#[112, 111, 105, 110, 116, 45]⟩) := hcell 3 _ rfl
        have F := HF.out t
        have HFT := Lib.hid fun v => F v HT.out
        clear F hcell HB HT HM
        rcases wrd_cases k1 k3 with rfl | rfl | rfl
        all_goals
          go_wp2_with fail
          refine HC.out.mono ?_
          rintro e w2 ⟨rfl, rfl⟩
          generalize wr.alloc (.cells wordsC 9) = w2 at *
          go_wp2
          go_ret
          first
            | exact ⟨congrArg (fun x => Ending.returned (.string x)) (HFT.out ⟨#[115, 101, 103, 45]⟩ (by rfl)), HB2.out⟩
            | exact ⟨congrArg (fun x => Ending.returned (.string x)) (HFT.out ⟨#[104, 105, 110, 116, 45]⟩ (by rfl)), HB2.out⟩
            | exact ⟨congrArg (fun x => Ending.returned (.string x)) (HFT.out ⟨#[112, 111, 105, 110, 116, 45]⟩ (by rfl)), HB2.out⟩
  · have HF := Lib.hid (fileP_bad hg)
    by_cases a1 : k < 1
    · go_enter Tryd.func14, Tryd.ntmps14
      go_wp2
      go_ret
      exact ⟨by rw [HF.out]; rfl, Below.refl _ _⟩
    by_cases a2 : 3 < k
    · go_enter Tryd.func14, Tryd.ntmps14
      go_wp2
      go_ret
      exact ⟨by rw [HF.out]; rfl, Below.refl _ _⟩
    by_cases a3 : n < 1
    · go_enter Tryd.func14, Tryd.ntmps14
      go_wp2
      go_ret
      exact ⟨by rw [HF.out]; rfl, Below.refl _ _⟩
    · have a4 : 99999999 < n := by
        apply Decidable.byContradiction
        intro h
        exact hg ⟨by omega, by omega, by omega, by omega⟩
      go_enter Tryd.func14, Tryd.ntmps14
      go_wp2
      go_ret
      exact ⟨by rw [HF.out]; rfl, Below.refl _ _⟩
end Go.Proofs.YtjdggdkdlgaocaaDoor
