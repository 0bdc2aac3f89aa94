/- Names of a disk's files: the reference's Disk and the program's. -/
import Derived.Test.YtebkpjnnmlccmaaStr
import Derived.Test.YtebkpjnnmlccmaaIdx
import Derived.Test.YtebkpjnnmlccmaaReg
namespace Go.Proofs.Ytebkpjnnmlccmaa
set_option linter.unusedVariables false
open Go.RowKit Go.Lib

def nvis (c : Int) : Bool := decide (33 ≤ c ∧ c ≤ 126 ∧ c ≠ 47)
/-- a name for a disk -/
def diskP (cs : List Int) : Bool := decide (1 ≤ cs.length ∧ cs.length ≤ 32) && cs.all nvis
theorem all_step {p : Int → Bool} {l : List Int} {k : Nat} (hk : k < l.length) : (l.take (k + 1)).all p = ((l.take k).all p && p (l.getD k 0)) := by
  have e : l.getD k 0 = l[k] := by rw [List.getD_eq_getElem?_getD, List.getElem?_eq_getElem hk]; rfl
  rw [e, List.take_succ_eq_append_getElem hk, List.all_append, List.all_cons, List.all_nil, Bool.and_true]
theorem all_bad {p : Int → Bool} {l : List Int} {k : Nat} (hk : k < l.length) (h : p (l.getD k 0) = false) : l.all p = false := by
  have e : l.getD k 0 = l[k] := by rw [List.getD_eq_getElem?_getD, List.getElem?_eq_getElem hk]; rfl
  rw [e] at h
  cases ha : l.all p
  · rfl
  · rw [List.all_eq_true.1 ha _ (List.getElem_mem hk)] at h; cases h
theorem lens_dec (n : Nat) : decide (1 ≤ n ∧ n ≤ 32) = (decide (1 ≤ (n : Int)) && decide ((n : Int) ≤ 32)) := by
  rw [Bool.eq_iff_iff, Bool.and_eq_true, decide_eq_true_iff, decide_eq_true_iff, decide_eq_true_iff]; omega

set_option maxRecDepth 100000 in
theorem rdisk_any (s : ByteArray) (w : World) (hs : s.size ≤ 140737488355328) : Calls Try.prog 24 #[.string s] w fun e w' => e = .returned (.bool (diskP (numsOf s))) ∧ w = w' := by
  have HL := Lib.hid (numsOf_length s)
  have HD : Hid (diskP (numsOf s) = (decide (1 ≤ s.size ∧ s.size ≤ 32) && (numsOf s).all nvis)) := Lib.hid (by rw [diskP, numsOf_length])
  go_enter Try.func24, Try.ntmps24
  go_wp2
  go_loopw [3] (fun i wr => ∃ k : Nat, k ≤ s.size ∧ i = .int .i64 (k : Int) ∧ Hid (((numsOf s).take k).all nvis = true) ∧ w = wr) (fun i _ => s.size - (intOf i).toNat)
  case atStart => exact ⟨0, by omega, rfl, Lib.hid (by simp), rfl⟩
  case round =>
    obtain ⟨k, hk, rfl, HO, rfl⟩ := hrel
    by_cases hlt : k < s.size
    · have hx := fun W => run_index_nums W s k hlt
      have hb := numsOf_byte s k
      have HS : Hid (((numsOf s).take (k + 1)).all nvis = nvis ((numsOf s).getD k 0)) := Lib.hid (by rw [all_step (by rw [HL.out]; exact hlt), HO.out, Bool.true_and])
      have HBAD : Hid (nvis ((numsOf s).getD k 0) = false → diskP (numsOf s) = false) := Lib.hid fun h => by rw [HD.out, all_bad (by rw [HL.out]; exact hlt) h, Bool.and_false]
      generalize (numsOf s).getD k 0 = y at *
      by_cases h1 : y ≤ 32
      · have hF := Lib.hid (HBAD.out (by unfold nvis; simp; omega))
        clear HS HBAD HO
        go_wp2
        go_ret
        exact ⟨by rw [hF.out]; rfl, rfl⟩
      by_cases h2 : 127 ≤ y
      · have hF := Lib.hid (HBAD.out (by unfold nvis; simp; omega))
        clear HS HBAD HO
        go_wp2
        go_ret
        exact ⟨by rw [hF.out]; rfl, rfl⟩
      by_cases h3 : y = 47
      · have hF := Lib.hid (HBAD.out (by unfold nvis; simp; omega))
        clear HS HBAD HO
        go_wp2
        go_ret
        exact ⟨by rw [hF.out]; rfl, rfl⟩
      · have HO2 : Hid (((numsOf s).take (k + 1)).all nvis = true) := Lib.hid (by rw [HS.out]; unfold nvis; simp; omega)
        clear HS HBAD HO
        go_wp2
        exact ⟨⟨k + 1, by omega, by go_num, HO2, trivial⟩, by simp [intOf] <;> omega⟩
    · obtain rfl : k = s.size := by omega
      have HF : Hid (diskP (numsOf s) = (decide (1 ≤ (s.size : Int)) && decide ((s.size : Int) ≤ 32))) := Lib.hid (by
        have h := HO.out
        rw [List.take_of_length_le (by rw [HL.out]; omega)] at h
        rw [HD.out, h, Bool.and_true, lens_dec])
      by_cases h1 : 1 ≤ (s.size : Int)
      · have D1 := Lib.hid (decide_eq_true h1)
        by_cases h2 : (s.size : Int) ≤ 32
        · have D2 := Lib.hid (decide_eq_true h2)
          go_wp2
          go_ret
          exact ⟨by rw [HF.out, D1.out, D2.out]; rfl, rfl⟩
        · have D2 := Lib.hid (decide_eq_false h2)
          go_wp2
          go_ret
          exact ⟨by rw [HF.out, D1.out, D2.out]; rfl, rfl⟩
      · have D1 := Lib.hid (decide_eq_false h1)
        go_wp2
        go_ret
        exact ⟨by rw [HF.out, D1.out]; rfl, rfl⟩

set_option maxRecDepth 100000 in
theorem ofdisk_any (c : Int) (w : World) : Calls Try.prog 42 #[.int .u8 c] w fun e w' => e = .returned (.bool (nvis c)) ∧ w = w' := by
  have hT : 33 ≤ c ∧ c ≤ 126 ∧ c ≠ 47 → Hid (nvis c = true) := fun h => Lib.hid (by unfold nvis; simp; omega)
  have hF : ¬ (33 ≤ c ∧ c ≤ 126 ∧ c ≠ 47) → Hid (nvis c = false) := fun h => Lib.hid (by unfold nvis; simp; omega)
  by_cases h1 : 33 ≤ c
  · by_cases h2 : c ≤ 126
    · by_cases h3 : c = 47
      · have H := hF (by omega)
        clear hT hF
        subst h3
        go_enter Try.func42, Try.ntmps42
        go_wp2
        go_ret
        exact ⟨by rw [H.out]; rfl, rfl⟩
      · have H := hT (by omega)
        have hq : (c != 47) = true := by simp; omega
        clear hT hF
        go_enter Try.func42, Try.ntmps42
        go_wp2
        go_ret
        exact ⟨by rw [H.out]; rfl, rfl⟩
    · have H := hF (by omega)
      clear hT hF
      go_enter Try.func42, Try.ntmps42
      go_wp2
      go_ret
      exact ⟨by rw [H.out]; rfl, rfl⟩
  · have H := hF (by omega)
    clear hT hF
    go_enter Try.func42, Try.ntmps42
    go_wp2
    go_ret
    exact ⟨by rw [H.out]; rfl, rfl⟩

set_option maxRecDepth 100000 in
theorem hassize_any (s : ByteArray) (w : World) (hs : s.size ≤ 140737488355328) : Calls Try.prog 40 #[.string s] w fun e w' => e = .returned (.bool (decide (1 ≤ s.size ∧ s.size ≤ 32))) ∧ w = w' := by
  have HE : Hid ((s.toList == []) = decide (s.size = 0)) := Lib.hid (by
    rw [text_test s [] [] rfl]
    rw [Bool.eq_iff_iff, decide_eq_true_iff, decide_eq_true_iff, ← numsOf_length s]
    exact ⟨fun h => by rw [h]; rfl, fun h => List.length_eq_zero_iff.1 h⟩)
  by_cases h0 : s.size = 0
  · have hq : (s.toList == []) = true := by rw [HE.out, decide_eq_true h0]
    have H : Hid (decide (1 ≤ s.size ∧ s.size ≤ 32) = false) := Lib.hid (by simp; omega)
    clear HE
    generalize decide (1 ≤ s.size ∧ s.size ≤ 32) = d at *
    go_enter Try.func40, Try.ntmps40
    go_wp2
    go_ret
    exact ⟨by rw [H.out]; rfl, rfl⟩
  · have hq : (s.toList == []) = false := by rw [HE.out, decide_eq_false h0]
    by_cases h1 : (s.size : Int) ≤ 32
    · have H : Hid (decide (1 ≤ s.size ∧ s.size ≤ 32) = true) := Lib.hid (by simp; omega)
      clear HE
      generalize decide (1 ≤ s.size ∧ s.size ≤ 32) = d at *
      go_enter Try.func40, Try.ntmps40
      go_wp2
      go_ret
      exact ⟨by rw [H.out]; rfl, rfl⟩
    · have H : Hid (decide (1 ≤ s.size ∧ s.size ≤ 32) = false) := Lib.hid (by simp; omega)
      clear HE
      generalize decide (1 ≤ s.size ∧ s.size ≤ 32) = d at *
      go_enter Try.func40, Try.ntmps40
      go_wp2
      go_ret
      exact ⟨by rw [H.out]; rfl, rfl⟩

set_option maxRecDepth 100000 in
theorem alldisk_any (s : ByteArray) (w : World) (hs : s.size ≤ 140737488355328) : Calls Try.prog 41 #[.string s, .func (.func 42) #[] #[]] w fun e w' => e = .returned (.bool ((numsOf s).all nvis)) ∧ w = w' := by
  have HL := Lib.hid (numsOf_length s)
  have HC := Lib.hid ofdisk_any
  go_enter Try.func41, Try.ntmps41
  go_wp2
  go_loopw [8] (fun i wr => ∃ k : Nat, k ≤ s.size ∧ i = .int .i64 (k : Int) ∧ Hid (((numsOf s).take k).all nvis = true) ∧ w = wr) (fun i _ => s.size - (intOf i).toNat)
  case atStart => exact ⟨0, by omega, rfl, Lib.hid (by simp), rfl⟩
  case round =>
    obtain ⟨k, hk, rfl, HO, rfl⟩ := hrel
    by_cases hlt : k < s.size
    · have hx := fun W => run_index_nums W s k hlt
      have hb := numsOf_byte s k
      have HS : Hid (((numsOf s).take (k + 1)).all nvis = nvis ((numsOf s).getD k 0)) := Lib.hid (by rw [all_step (by rw [HL.out]; exact hlt), HO.out, Bool.true_and])
      have HBAD : Hid (nvis ((numsOf s).getD k 0) = false → (numsOf s).all nvis = false) := Lib.hid fun h => all_bad (by rw [HL.out]; exact hlt) h
      generalize (numsOf s).getD k 0 = y at *
      have HY := Lib.hid fun W => HC.out y W
      generalize nvis y = t at *
      cases t
      · have hF := Lib.hid (HBAD.out rfl)
        clear HS HBAD HO
        go_wp2_with fail
        refine (HY.out _).mono ?_
        rintro e w1 ⟨rfl, rfl⟩
        go_wp2
        go_ret
        exact ⟨by rw [hF.out]; rfl, rfl⟩
      · clear HBAD HO
        go_wp2_with fail
        refine (HY.out _).mono ?_
        rintro e w1 ⟨rfl, rfl⟩
        go_wp2
        exact ⟨⟨k + 1, by omega, by go_num, HS, trivial⟩, by simp [intOf] <;> omega⟩
    · obtain rfl : k = s.size := by omega
      have HF : Hid ((numsOf s).all nvis = true) := Lib.hid (by
        have h := HO.out
        rwa [List.take_of_length_le (by rw [HL.out]; omega)] at h)
      go_wp2
      go_ret
      exact ⟨by rw [HF.out]; rfl, rfl⟩
set_option maxRecDepth 100000 in
theorem disk_any (s : ByteArray) (w : World) (hs : s.size ≤ 140737488355328) : Calls Try.prog 33 #[.string s] w fun e w' => e = .returned (.bool (diskP (numsOf s))) ∧ Below w.heap.size w w' := by
  have HL := Lib.hid (numsOf_length s)
  have HD : Hid (diskP (numsOf s) = (decide (1 ≤ s.size ∧ s.size ≤ 32) && (numsOf s).all nvis)) := Lib.hid (by rw [diskP, numsOf_length])
  have H1 := Lib.hid fun W => hassize_any s W hs
  have H3 := Lib.hid fun W => alldisk_any s W hs
  have hB := Lib.hid (Below.refl w.heap.size w)
  generalize decide (1 ≤ s.size ∧ s.size ≤ 32) = a at *
  generalize (numsOf s).all nvis = c at *
  generalize diskP (numsOf s) = m at *
  cases a
  · go_enter Try.func33, Try.ntmps33
    go_wp2_with fail
    refine (H1.out _).mono ?_
    rintro e w1 ⟨rfl, rfl⟩
    go_wp2
    go_ret
    exact ⟨by rw [HD.out]; rfl, hB.out⟩
  · cases c
    all_goals
      go_enter Try.func33, Try.ntmps33
      go_wp2_with fail
      refine (H1.out _).mono ?_
      rintro e w1 ⟨rfl, rfl⟩
      go_wp2_with fail
      refine (H3.out _).mono ?_
      rintro e w3 ⟨rfl, rfl⟩
      go_wp2
      go_ret
      exact ⟨by rw [HD.out]; rfl, hB.out⟩

end Go.Proofs.Ytebkpjnnmlccmaa
