/- Layer 8: the reference's Tag and Disk; lives; the statement NameTags, walked under what is said of package name. -/
import Derived.Test.YtjdggdkdlgaocaaDoorNamC
namespace Go.Proofs.YtjdggdkdlgaocaaDoor
set_option linter.unusedVariables false
open Go.RowKit Go.Lib

def firstC : List Int := [97, 98, 99, 100, 101, 102, 103, 104, 105, 106, 107, 108, 109, 110, 111, 112, 113, 114, 115, 116, 117, 118, 119, 120, 121, 122, 48, 49, 50, 51, 52, 53, 54, 55, 56, 57]
def restC : List Int := [46, 95, 45]
set_option maxRecDepth 100000 in
theorem one_first {c : Int} (h : 0 ≤ c ∧ c < 256) : oneP c firstC = nlow c := by
  obtain ⟨n, rfl⟩ := Int.eq_ofNat_of_zero_le h.1
  have : ∀ k : Fin 256, oneP ((k.val : Nat) : Int) firstC = nlow ((k.val : Nat) : Int) := by decide +kernel
  exact this ⟨n, by omega⟩
set_option maxRecDepth 100000 in
theorem one_rest {c : Int} (h : 0 ≤ c ∧ c < 256) : (nlow c || oneP c restC) = nmid c := by
  obtain ⟨n, rfl⟩ := Int.eq_ofNat_of_zero_le h.1
  have : ∀ k : Fin 256, (nlow ((k.val : Nat) : Int) || oneP ((k.val : Nat) : Int) restC) = nmid ((k.val : Nat) : Int) := by decide +kernel
  exact this ⟨n, by omega⟩

theorem all_step {p : Int → Bool} {l : List Int} {k : Nat} (hk : k < l.length) : (l.take (k + 1)).all p = ((l.take k).all p && p (l.getD k 0)) := by
  have e : l.getD k 0 = l[k] := by rw [List.getD_eq_getElem?_getD, List.getElem?_eq_getElem hk]; rfl
  rw [e, List.take_succ_eq_append_getElem hk, List.all_append, List.all_cons, List.all_nil, Bool.and_true]
theorem all_bad {p : Int → Bool} {l : List Int} {k : Nat} (hk : k < l.length) (h : p (l.getD k 0) = false) : l.all p = false := by
  have e : l.getD k 0 = l[k] := by rw [List.getD_eq_getElem?_getD, List.getElem?_eq_getElem hk]; rfl
  rw [e] at h
  cases ha : l.all p
  · rfl
  · rw [List.all_eq_true.1 ha _ (List.getElem_mem hk)] at h; cases h
theorem lens_dec (n : Nat) : decide (1 ≤ n ∧ n ≤ 32) = (decide (1 ≤ (n : Int)) && decide ((n : Int) ≤ 32)) := by
  rw [Bool.eq_iff_iff, Bool.and_eq_true, decide_eq_true_iff, decide_eq_true_iff, decide_eq_true_iff]; omega

set_option maxRecDepth 100000 in
theorem rdisk_any (s : ByteArray) (w : World) (hs : s.size ≤ 140737488355328) : Calls Tryd.prog 9 #[.string s] w fun e w' => e = .returned (.bool (diskP (numsOf s))) ∧ w = w' := by
  have HL := Lib.hid (numsOf_length s)
  have HD : Hid (diskP (numsOf s) = (decide (1 ≤ s.size ∧ s.size ≤ 32) && (numsOf s).all nvis)) := Lib.hid (by rw [diskP, numsOf_length])
  go_enter Tryd.func9, Tryd.ntmps9
  go_wp2
  go_loopw [3] (fun i wr => ∃ k : Nat, k ≤ s.size ∧ i = .int .i64 (k : Int) ∧ Hid (((numsOf s).take k).all nvis = true) ∧ w = wr) (fun i _ => s.size - (intOf i).toNat)
  case atStart => exact ⟨0, by omega, rfl, Lib.hid (by simp), rfl⟩
  case round =>
    obtain ⟨k, hk, rfl, HO, rfl⟩ := hrel
    by_cases hlt : k < s.size
    · have hx := fun W => run_index_nums W s k hlt
      have hb := numsOf_byte s k
      have HS : Hid (((numsOf s).take (k + 1)).all nvis = nvis ((numsOf s).getD k 0)) := Lib.hid (by rw [all_step (by rw [HL.out]; exact hlt), HO.out, Bool.true_and])
      have HBAD : Hid (nvis ((numsOf s).getD k 0) = false → diskP (numsOf s) = false) := Lib.hid fun h => by rw [HD.out, all_bad (by rw [HL.out]; exact hlt) h, Bool.and_false]
      generalize (numsOf s).getD k 0 = y at *
      by_cases h1 : y ≤ 32
      · have hF := Lib.hid (HBAD.out (by unfold nvis; simp; omega))
        clear HS HBAD HO
        go_wp2
        go_ret
        exact ⟨by rw [hF.out]; rfl, rfl⟩
      by_cases h2 : 127 ≤ y
      · have hF := Lib.hid (HBAD.out (by unfold nvis; simp; omega))
        clear HS HBAD HO
        go_wp2
        go_ret
        exact ⟨by rw [hF.out]; rfl, rfl⟩
      by_cases h3 : y = 47
      · have hF := Lib.hid (HBAD.out (by unfold nvis; simp; omega))
        clear HS HBAD HO
        go_wp2
        go_ret
        exact ⟨by rw [hF.out]; rfl, rfl⟩
      · have HO2 : Hid (((numsOf s).take (k + 1)).all nvis = true) := Lib.hid (by rw [HS.out]; unfold nvis; simp; omega)
        clear HS HBAD HO
        go_wp2
        exact ⟨⟨k + 1, by omega, by go_num, HO2, trivial⟩, by simp [intOf] <;> omega⟩
    · obtain rfl : k = s.size := by omega
      have HF : Hid (diskP (numsOf s) = (decide (1 ≤ (s.size : Int)) && decide ((s.size : Int) ≤ 32))) := Lib.hid (by
        have h := HO.out
        rw [List.take_of_length_le (by rw [HL.out]; omega)] at h
        rw [HD.out, h, Bool.and_true, lens_dec])
      by_cases h1 : 1 ≤ (s.size : Int)
      · have D1 := Lib.hid (decide_eq_true h1)
        by_cases h2 : (s.size : Int) ≤ 32
        · have D2 := Lib.hid (decide_eq_true h2)
          go_wp2
          go_ret
          exact ⟨by rw [HF.out, D1.out, D2.out]; rfl, rfl⟩
        · have D2 := Lib.hid (decide_eq_false h2)
          go_wp2
          go_ret
          exact ⟨by rw [HF.out, D1.out, D2.out]; rfl, rfl⟩
      · have D1 := Lib.hid (decide_eq_false h1)
        go_wp2
        go_ret
        exact ⟨by rw [HF.out, D1.out]; rfl, rfl⟩

set_option maxRecDepth 100000 in
set_option maxHeartbeats 1000000 in
theorem rtag_any (s : ByteArray) (w : World) (hs : s.size ≤ 140737488355328) : Calls Tryd.prog 7 #[.string s] w fun e w' => e = .returned (.bool (tagP (numsOf s))) ∧ w = w' := by
  have HL := Lib.hid (numsOf_length s)
  have HD : Hid (tagP (numsOf s) = (decide (1 ≤ s.size ∧ s.size ≤ 32) && (numsOf s).all nmid && nlow ((numsOf s).getD 0 0))) := Lib.hid (by rw [tagP, numsOf_length])
  have H1 : Hid (∀ c W, 0 ≤ c ∧ c < 256 → Calls Tryd.prog 19 #[.int .u8 c, .string ⟨#[97, 98, 99, 100, 101, 102, 103, 104, 105, 106, 107, 108, 109, 110, 111, 112, 113, 114, 115, 116, 117, 118, 119, 120, 121, 122, 48, 49, 50, 51, 52, 53, 54, 55, 56, 57]⟩] W fun e w' => e = .returned (.bool (nlow c)) ∧ W = w') := Lib.hid fun c W hc => by
    have h := rone_any c ⟨#[97, 98, 99, 100, 101, 102, 103, 104, 105, 106, 107, 108, 109, 110, 111, 112, 113, 114, 115, 116, 117, 118, 119, 120, 121, 122, 48, 49, 50, 51, 52, 53, 54, 55, 56, 57]⟩ W (by decide) hc
    rwa [show numsOf ⟨#[97, 98, 99, 100, 101, 102, 103, 104, 105, 106, 107, 108, 109, 110, 111, 112, 113, 114, 115, 116, 117, 118, 119, 120, 121, 122, 48, 49, 50, 51, 52, 53, 54, 55, 56, 57]⟩ = firstC from rfl, one_first hc] at h
  have H2 : Hid (∀ c W, 0 ≤ c ∧ c < 256 → Calls Tryd.prog 19 #[.int .u8 c, .string ⟨#[46, 95, 45]⟩] W fun e w' => e = .returned (.bool (oneP c restC)) ∧ W = w') := Lib.hid fun c W hc => by
    have h := rone_any c ⟨#[46, 95, 45]⟩ W (by decide) hc
    rwa [show numsOf ⟨#[46, 95, 45]⟩ = restC from rfl] at h
  go_enter Tryd.func7, Tryd.ntmps7
  go_wp2
  go_loopw [4] (fun i wr => ∃ k : Nat, k ≤ s.size ∧ i = .int .i64 (k : Int) ∧ Hid (((numsOf s).take k).all nmid = true ∧ (0 < k → nlow ((numsOf s).getD 0 0) = true)) ∧ w = wr) (fun i _ => s.size - (intOf i).toNat)
  case atStart => exact ⟨0, by omega, rfl, Lib.hid ⟨by simp, fun h => absurd h (Nat.lt_irrefl _)⟩, rfl⟩
  case round =>
    obtain ⟨k, hk, rfl, HO, rfl⟩ := hrel
    by_cases hlt : k < s.size
    · have hx := fun W => run_index_nums W s k hlt
      have hb := numsOf_byte s k
      have HS : Hid (((numsOf s).take (k + 1)).all nmid = nmid ((numsOf s).getD k 0)) := Lib.hid (by rw [all_step (by rw [HL.out]; exact hlt), HO.out.1, Bool.true_and])
      have HBAD : Hid (nmid ((numsOf s).getD k 0) = false → tagP (numsOf s) = false) := Lib.hid fun h => by rw [HD.out, all_bad (by rw [HL.out]; exact hlt) h, Bool.and_false, Bool.false_and]
      have HB0 : Hid (k = 0 → nlow ((numsOf s).getD k 0) = false → tagP (numsOf s) = false) := Lib.hid fun h h2 => by rw [h] at h2; rw [HD.out, h2, Bool.and_false]
      have HN0 : Hid (k = 0 → nlow ((numsOf s).getD k 0) = true → nlow ((numsOf s).getD 0 0) = true) := Lib.hid fun h h2 => by rw [h] at h2; exact h2
      have HR := Lib.hid (one_rest hb)
      have C1 := Lib.hid fun W => H1.out _ W hb
      have C2 := Lib.hid fun W => H2.out _ W hb
      generalize (numsOf s).getD k 0 = y at *
      generalize oneP y restC = r at *
      cases ha : nlow y
      · rw [ha] at C1 HR HB0
        by_cases h0 : k = 0
        · have hF := Lib.hid (HB0.out h0 rfl)
          have hk0 : ((k : Int) == 0) = true := by simpa using h0
          clear HS HBAD HB0 HN0 HO HR h0
          go_wp2_with fail
          refine (C1.out _).mono ?_
          rintro e w1 ⟨rfl, rfl⟩
          go_wp2
          go_ret
          exact ⟨by rw [hF.out]; rfl, rfl⟩
        · have hk0 : ((k : Int) == 0) = false := by simpa using h0
          rw [Bool.false_or] at HR
          cases r
          · have hF := Lib.hid (HBAD.out HR.out.symm)
            clear HS HBAD HB0 HN0 HO HR
            go_wp2_with fail
            refine (C1.out _).mono ?_
            rintro e w1 ⟨rfl, rfl⟩
            go_wp2_with fail
            refine (C2.out _).mono ?_
            rintro e w2 ⟨rfl, rfl⟩
            go_wp2
            go_ret
            exact ⟨by rw [hF.out]; rfl, rfl⟩
          · have HO2 : Hid (((numsOf s).take (k + 1)).all nmid = true ∧ (0 < k + 1 → nlow ((numsOf s).getD 0 0) = true)) := Lib.hid ⟨by rw [HS.out]; exact HR.out.symm, fun _ => HO.out.2 (by omega)⟩
            clear HS HBAD HB0 HN0 HO HR
            go_wp2_with fail
            refine (C1.out _).mono ?_
            rintro e w1 ⟨rfl, rfl⟩
            go_wp2_with fail
            refine (C2.out _).mono ?_
            rintro e w2 ⟨rfl, rfl⟩
            go_wp2
            exact ⟨⟨k + 1, by omega, by go_num, HO2, trivial⟩, by simp [intOf] <;> omega⟩
      · rw [ha] at C1 HR HN0
        rw [Bool.true_or] at HR
        have HO2 : Hid (((numsOf s).take (k + 1)).all nmid = true ∧ (0 < k + 1 → nlow ((numsOf s).getD 0 0) = true)) := Lib.hid ⟨by rw [HS.out]; exact HR.out.symm, fun _ => by
          by_cases h0 : k = 0
          · exact HN0.out h0 rfl
          · exact HO.out.2 (by omega)⟩
        clear HS HBAD HB0 HN0 HO HR
        go_wp2_with fail
        refine (C1.out _).mono ?_
        rintro e w1 ⟨rfl, rfl⟩
        go_wp2
        exact ⟨⟨k + 1, by omega, by go_num, HO2, trivial⟩, by simp [intOf] <;> omega⟩
    · obtain rfl : k = s.size := by omega
      have HF : Hid (tagP (numsOf s) = (decide (1 ≤ (s.size : Int)) && decide ((s.size : Int) ≤ 32))) := Lib.hid (by
        have h := HO.out.1
        rw [List.take_of_length_le (by rw [HL.out]; omega)] at h
        rw [HD.out, h, Bool.and_true, ← lens_dec]
        by_cases h0 : 0 < s.size
        · rw [HO.out.2 h0, Bool.and_true]
        · rw [decide_eq_false (fun hh => h0 (by omega)), Bool.false_and])
      by_cases h1 : 1 ≤ (s.size : Int)
      · have D1 := Lib.hid (decide_eq_true h1)
        by_cases h2 : (s.size : Int) ≤ 32
        · have D2 := Lib.hid (decide_eq_true h2)
          go_wp2
          go_ret
          exact ⟨by rw [HF.out, D1.out, D2.out]; rfl, rfl⟩
        · have D2 := Lib.hid (decide_eq_false h2)
          go_wp2
          go_ret
          exact ⟨by rw [HF.out, D1.out, D2.out]; rfl, rfl⟩
      · have D1 := Lib.hid (decide_eq_false h1)
        go_wp2
        go_ret
        exact ⟨by rw [HF.out, D1.out]; rfl, rfl⟩
end Go.Proofs.YtjdggdkdlgaocaaDoor
