/- Layer 8: walks of package name that make nothing: the bytes of names, Tag, Disk, prefix. -/
import Derived.Test.YtjdggdkdlgaocaaDoorNamL
namespace Go.Proofs.YtjdggdkdlgaocaaDoor
set_option linter.unusedVariables false
open Go.RowKit Go.Lib

set_option maxRecDepth 100000 in
theorem low_any (c : Int) (w : World) : Calls Tryd.prog 16 #[.int .u8 c] w fun e w' => e = .returned (.bool (nlow c)) ∧ w = w' := by
  have hT : (97 ≤ c ∧ c ≤ 122) ∨ (48 ≤ c ∧ c ≤ 57) → Hid (nlow c = true) := fun h => Lib.hid (by unfold nlow; simp; omega)
  have hF : ¬ ((97 ≤ c ∧ c ≤ 122) ∨ (48 ≤ c ∧ c ≤ 57)) → Hid (nlow c = false) := fun h => Lib.hid (by unfold nlow; simp; omega)
  by_cases h1 : 97 ≤ c
  · by_cases h2 : c ≤ 122
    · have H := hT (by omega)
      clear hT hF
      go_enter Tryd.func16, Tryd.ntmps16
      go_wp2
      go_ret
      exact ⟨by rw [H.out]; rfl, rfl⟩
    · have H := hF (by omega)
      clear hT hF
      have h3 : 48 ≤ c := by omega
      have h4 : ¬ c ≤ 57 := by omega
      go_enter Tryd.func16, Tryd.ntmps16
      go_wp2
      go_ret
      exact ⟨by rw [H.out]; rfl, rfl⟩
  · by_cases h3 : 48 ≤ c
    · by_cases h4 : c ≤ 57
      · have H := hT (by omega)
        clear hT hF
        go_enter Tryd.func16, Tryd.ntmps16
        go_wp2
        go_ret
        exact ⟨by rw [H.out]; rfl, rfl⟩
      · have H := hF (by omega)
        clear hT hF
        go_enter Tryd.func16, Tryd.ntmps16
        go_wp2
        go_ret
        exact ⟨by rw [H.out]; rfl, rfl⟩
    · have H := hF (by omega)
      clear hT hF
      go_enter Tryd.func16, Tryd.ntmps16
      go_wp2
      go_ret
      exact ⟨by rw [H.out]; rfl, rfl⟩

set_option maxRecDepth 100000 in
theorem oftag_any (c : Int) (w : World) : Calls Tryd.prog 18 #[.int .u8 c] w fun e w' => e = .returned (.bool (nmid c)) ∧ w = w' := by
  have HC := Lib.hid fun W => low_any c W
  have HM : Hid (nmid c = (nlow c || (c == 46) || (c == 95) || (c == 45))) := Lib.hid (by unfold nmid; rfl)
  generalize nlow c = b at *
  generalize nmid c = m at *
  have HK : ∀ x : Int, Hid (∃ t, (c == x) = t) := fun x => Lib.hid ⟨_, rfl⟩
  obtain ⟨t1, h1⟩ := (HK 46).out
  obtain ⟨t2, h2⟩ := (HK 95).out
  obtain ⟨t3, h3⟩ := (HK 45).out
  rw [h1, h2, h3] at HM
  clear HK
  cases b <;> cases t1 <;> cases t2 <;> cases t3
  all_goals
    go_enter Tryd.func18, Tryd.ntmps18
    go_wp2_with fail
    refine (HC.out _).mono ?_
    rintro e w1 ⟨rfl, rfl⟩
    go_wp2
    go_ret
    exact ⟨by rw [HM.out]; rfl, rfl⟩

set_option maxRecDepth 100000 in
theorem ofdisk_any (c : Int) (w : World) : Calls Tryd.prog 20 #[.int .u8 c] w fun e w' => e = .returned (.bool (nvis c)) ∧ w = w' := by
  have hT : 33 ≤ c ∧ c ≤ 126 ∧ c ≠ 47 → Hid (nvis c = true) := fun h => Lib.hid (by unfold nvis; simp; omega)
  have hF : ¬ (33 ≤ c ∧ c ≤ 126 ∧ c ≠ 47) → Hid (nvis c = false) := fun h => Lib.hid (by unfold nvis; simp; omega)
  by_cases h1 : 33 ≤ c
  · by_cases h2 : c ≤ 126
    · by_cases h3 : c = 47
      · have H := hF (by omega)
        clear hT hF
        subst h3
        go_enter Tryd.func20, Tryd.ntmps20
        go_wp2
        go_ret
        exact ⟨by rw [H.out]; rfl, rfl⟩
      · have H := hT (by omega)
        have hq : (c != 47) = true := by simp; omega
        clear hT hF
        go_enter Tryd.func20, Tryd.ntmps20
        go_wp2
        go_ret
        exact ⟨by rw [H.out]; rfl, rfl⟩
    · have H := hF (by omega)
      clear hT hF
      go_enter Tryd.func20, Tryd.ntmps20
      go_wp2
      go_ret
      exact ⟨by rw [H.out]; rfl, rfl⟩
  · have H := hF (by omega)
    clear hT hF
    go_enter Tryd.func20, Tryd.ntmps20
    go_wp2
    go_ret
    exact ⟨by rw [H.out]; rfl, rfl⟩

set_option maxRecDepth 100000 in
theorem hassize_any (s : ByteArray) (w : World) (hs : s.size ≤ 140737488355328) : Calls Tryd.prog 15 #[.string s] w fun e w' => e = .returned (.bool (decide (1 ≤ s.size ∧ s.size ≤ 32))) ∧ w = w' := by
  have HE : Hid ((s.toList == []) = decide (s.size = 0)) := Lib.hid (by
    rw [text_test s [] [] rfl]
    rw [Bool.eq_iff_iff, decide_eq_true_iff, decide_eq_true_iff, ← numsOf_length s]
    exact ⟨fun h => by rw [h]; rfl, fun h => List.length_eq_zero_iff.1 h⟩)
  by_cases h0 : s.size = 0
  · have hq : (s.toList == []) = true := by rw [HE.out, decide_eq_true h0]
    have H : Hid (decide (1 ≤ s.size ∧ s.size ≤ 32) = false) := Lib.hid (by simp; omega)
    clear HE
    generalize decide (1 ≤ s.size ∧ s.size ≤ 32) = d at *
    go_enter Tryd.func15, Tryd.ntmps15
    go_wp2
    go_ret
    exact ⟨by rw [H.out]; rfl, rfl⟩
  · have hq : (s.toList == []) = false := by rw [HE.out, decide_eq_false h0]
    by_cases h1 : (s.size : Int) ≤ 32
    · have H : Hid (decide (1 ≤ s.size ∧ s.size ≤ 32) = true) := Lib.hid (by simp; omega)
      clear HE
      generalize decide (1 ≤ s.size ∧ s.size ≤ 32) = d at *
      go_enter Tryd.func15, Tryd.ntmps15
      go_wp2
      go_ret
      exact ⟨by rw [H.out]; rfl, rfl⟩
    · have H : Hid (decide (1 ≤ s.size ∧ s.size ≤ 32) = false) := Lib.hid (by simp; omega)
      clear HE
      generalize decide (1 ≤ s.size ∧ s.size ≤ 32) = d at *
      go_enter Tryd.func15, Tryd.ntmps15
      go_wp2
      go_ret
      exact ⟨by rw [H.out]; rfl, rfl⟩

set_option maxRecDepth 100000 in
theorem alltag_any (s : ByteArray) (w : World) (hs : s.size ≤ 140737488355328) : Calls Tryd.prog 17 #[.string s, .func (.func 18) #[] #[]] w fun e w' => e = .returned (.bool ((numsOf s).all nmid)) ∧ w = w' := by
  have HL := Lib.hid (numsOf_length s)
  have HC := Lib.hid oftag_any
  go_enter Tryd.func17, Tryd.ntmps17
  go_wp2
  go_loopw [8] (fun i wr => ∃ k : Nat, k ≤ s.size ∧ i = .int .i64 (k : Int) ∧ Hid (((numsOf s).take k).all nmid = true) ∧ w = wr) (fun i _ => s.size - (intOf i).toNat)
  case atStart => exact ⟨0, by omega, rfl, Lib.hid (by simp), rfl⟩
  case round =>
    obtain ⟨k, hk, rfl, HO, rfl⟩ := hrel
    by_cases hlt : k < s.size
    · have hx := fun W => run_index_nums W s k hlt
      have hb := numsOf_byte s k
      have HS : Hid (((numsOf s).take (k + 1)).all nmid = nmid ((numsOf s).getD k 0)) := Lib.hid (by rw [all_step (by rw [HL.out]; exact hlt), HO.out, Bool.true_and])
      have HBAD : Hid (nmid ((numsOf s).getD k 0) = false → (numsOf s).all nmid = false) := Lib.hid fun h => all_bad (by rw [HL.out]; exact hlt) h
      generalize (numsOf s).getD k 0 = y at *
      have HY := Lib.hid fun W => HC.out y W
      generalize nmid y = t at *
      cases t
      · have hF := Lib.hid (HBAD.out rfl)
        clear HS HBAD HO
        go_wp2_with fail
        refine (HY.out _).mono ?_
        rintro e w1 ⟨rfl, rfl⟩
        go_wp2
        go_ret
        exact ⟨by rw [hF.out]; rfl, rfl⟩
      · clear HBAD HO
        go_wp2_with fail
        refine (HY.out _).mono ?_
        rintro e w1 ⟨rfl, rfl⟩
        go_wp2
        exact ⟨⟨k + 1, by omega, by go_num, HS, trivial⟩, by simp [intOf] <;> omega⟩
    · obtain rfl : k = s.size := by omega
      have HF : Hid ((numsOf s).all nmid = true) := Lib.hid (by
        have h := HO.out
        rwa [List.take_of_length_le (by rw [HL.out]; omega)] at h)
      go_wp2
      go_ret
      exact ⟨by rw [HF.out]; rfl, rfl⟩
set_option maxRecDepth 100000 in
theorem alldisk_any (s : ByteArray) (w : World) (hs : s.size ≤ 140737488355328) : Calls Tryd.prog 17 #[.string s, .func (.func 20) #[] #[]] w fun e w' => e = .returned (.bool ((numsOf s).all nvis)) ∧ w = w' := by
  have HL := Lib.hid (numsOf_length s)
  have HC := Lib.hid ofdisk_any
  go_enter Tryd.func17, Tryd.ntmps17
  go_wp2
  go_loopw [8] (fun i wr => ∃ k : Nat, k ≤ s.size ∧ i = .int .i64 (k : Int) ∧ Hid (((numsOf s).take k).all nvis = true) ∧ w = wr) (fun i _ => s.size - (intOf i).toNat)
  case atStart => exact ⟨0, by omega, rfl, Lib.hid (by simp), rfl⟩
  case round =>
    obtain ⟨k, hk, rfl, HO, rfl⟩ := hrel
    by_cases hlt : k < s.size
    · have hx := fun W => run_index_nums W s k hlt
      have hb := numsOf_byte s k
      have HS : Hid (((numsOf s).take (k + 1)).all nvis = nvis ((numsOf s).getD k 0)) := Lib.hid (by rw [all_step (by rw [HL.out]; exact hlt), HO.out, Bool.true_and])
      have HBAD : Hid (nvis ((numsOf s).getD k 0) = false → (numsOf s).all nvis = false) := Lib.hid fun h => all_bad (by rw [HL.out]; exact hlt) h
      generalize (numsOf s).getD k 0 = y at *
      have HY := Lib.hid fun W => HC.out y W
      generalize nvis y = t at *
      cases t
      · have hF := Lib.hid (HBAD.out rfl)
        clear HS HBAD HO
        go_wp2_with fail
        refine (HY.out _).mono ?_
        rintro e w1 ⟨rfl, rfl⟩
        go_wp2
        go_ret
        exact ⟨by rw [hF.out]; rfl, rfl⟩
      · clear HBAD HO
        go_wp2_with fail
        refine (HY.out _).mono ?_
        rintro e w1 ⟨rfl, rfl⟩
        go_wp2
        exact ⟨⟨k + 1, by omega, by go_num, HS, trivial⟩, by simp [intOf] <;> omega⟩
    · obtain rfl : k = s.size := by omega
      have HF : Hid ((numsOf s).all nvis = true) := Lib.hid (by
        have h := HO.out
        rwa [List.take_of_length_le (by rw [HL.out]; omega)] at h)
      go_wp2
      go_ret
      exact ⟨by rw [HF.out]; rfl, rfl⟩
set_option maxRecDepth 100000 in
set_option maxHeartbeats 1000000 in
theorem tag_ok : TagOk := by
  intro s w hs
  have HL := Lib.hid (numsOf_length s)
  have HD : Hid (tagP (numsOf s) = (decide (1 ≤ s.size ∧ s.size ≤ 32) && (numsOf s).all nmid && nlow ((numsOf s).getD 0 0))) := Lib.hid (by rw [tagP, numsOf_length])
  have H1 := Lib.hid fun W => hassize_any s W hs
  have H2 := Lib.hid fun W => low_any ((numsOf s).getD 0 0) W
  have H3 := Lib.hid fun W => alltag_any s W hs
  have hlt : Hid (decide (1 ≤ s.size ∧ s.size ≤ 32) = true → 0 < s.size) := Lib.hid fun h => by have := of_decide_eq_true h; omega
  have hB := Lib.hid (Below.refl w.heap.size w)
  generalize decide (1 ≤ s.size ∧ s.size ≤ 32) = a at *
  cases a
  · have H : Hid (tagP (numsOf s) = false) := Lib.hid (by rw [HD.out]; rfl)
    clear HD hlt
    generalize tagP (numsOf s) = m at *
    go_enter Tryd.func6, Tryd.ntmps6
    go_wp2_with fail
    refine (H1.out _).mono ?_
    rintro e w1 ⟨rfl, rfl⟩
    go_wp2
    go_ret
    exact ⟨by rw [H.out]; rfl, hB.out⟩
  · have hlt := hlt.out rfl
    have hx : ∀ W : World, (Instr.index 9 (.string s) (.int .i64 0)).run Tryd.prog W = .ok (.int .u8 ((numsOf s).getD 0 0)) W := fun W => run_index_nums W s 0 hlt
    generalize (numsOf s).getD 0 0 = y at *
    generalize nlow y = b at *
    generalize (numsOf s).all nmid = c at *
    cases b
    · generalize tagP (numsOf s) = m at *
      go_enter Tryd.func6, Tryd.ntmps6
      go_wp2_with fail
      refine (H1.out _).mono ?_
      rintro e w1 ⟨rfl, rfl⟩
      go_wp2_with fail
      refine (H2.out _).mono ?_
      rintro e w2 ⟨rfl, rfl⟩
      go_wp2
      go_ret
      exact ⟨by rw [HD.out, Bool.and_false]; rfl, hB.out⟩
    · cases c
      all_goals
        generalize tagP (numsOf s) = m at *
        go_enter Tryd.func6, Tryd.ntmps6
        go_wp2_with fail
        refine (H1.out _).mono ?_
        rintro e w1 ⟨rfl, rfl⟩
        go_wp2_with fail
        refine (H2.out _).mono ?_
        rintro e w2 ⟨rfl, rfl⟩
        go_wp2_with fail
        refine (H3.out _).mono ?_
        rintro e w3 ⟨rfl, rfl⟩
        go_wp2
        go_ret
        exact ⟨by rw [HD.out]; rfl, hB.out⟩

set_option maxRecDepth 100000 in
theorem disk_ok : DiskOk := by
  intro s w hs
  have HL := Lib.hid (numsOf_length s)
  have HD : Hid (diskP (numsOf s) = (decide (1 ≤ s.size ∧ s.size ≤ 32) && (numsOf s).all nvis)) := Lib.hid (by rw [diskP, numsOf_length])
  have H1 := Lib.hid fun W => hassize_any s W hs
  have H3 := Lib.hid fun W => alldisk_any s W hs
  have hB := Lib.hid (Below.refl w.heap.size w)
  generalize decide (1 ≤ s.size ∧ s.size ≤ 32) = a at *
  generalize (numsOf s).all nvis = c at *
  generalize diskP (numsOf s) = m at *
  cases a
  · go_enter Tryd.func8, Tryd.ntmps8
    go_wp2_with fail
    refine (H1.out _).mono ?_
    rintro e w1 ⟨rfl, rfl⟩
    go_wp2
    go_ret
    exact ⟨by rw [HD.out]; rfl, hB.out⟩
  · cases c
    all_goals
      go_enter Tryd.func8, Tryd.ntmps8
      go_wp2_with fail
      refine (H1.out _).mono ?_
      rintro e w1 ⟨rfl, rfl⟩
      go_wp2_with fail
      refine (H3.out _).mono ?_
      rintro e w3 ⟨rfl, rfl⟩
      go_wp2
      go_ret
      exact ⟨by rw [HD.out]; rfl, hB.out⟩

set_option maxRecDepth 100000 in
theorem prefix_any (k : Int) (w : World) : Calls Tryd.prog 22 #[.int .i64 k] w fun e w' => e = .returned (.string (strOfNums (wrd k))) ∧ w = w' := by
  by_cases h1 : k = 1
  · subst h1
    go_enter Tryd.func22, Tryd.ntmps22
    go_wp2
    go_ret
    exact ⟨rfl, rfl⟩
  by_cases h2 : k = 2
  · subst h2
    go_enter Tryd.func22, Tryd.ntmps22
    go_wp2
    go_ret
    exact ⟨rfl, rfl⟩
  by_cases h3 : k = 3
  · subst h3
    go_enter Tryd.func22, Tryd.ntmps22
    go_wp2
    go_ret
    exact ⟨rfl, rfl⟩
  · have H : Hid (strOfNums (wrd k) = ⟨#[]⟩) := Lib.hid (by unfold wrd; rw [if_neg h1, if_neg h2, if_neg h3]; rfl)
    go_enter Tryd.func22, Tryd.ntmps22
    go_wp2
    go_ret
    exact ⟨by rw [H.out]; rfl, rfl⟩
end Go.Proofs.YtjdggdkdlgaocaaDoor
