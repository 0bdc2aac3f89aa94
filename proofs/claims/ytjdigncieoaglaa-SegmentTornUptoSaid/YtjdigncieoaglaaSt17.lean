/- Names of tags, the reference: one, Tag; Names of tags, the program: Tag -/
import Derived.Test.YtjdigncieoaglaaSt2
import Derived.Test.YtjdigncieoaglaaSt3
import Derived.Lib.SmallJoins
import Derived.KernelRfl
set_option linter.unusedSimpArgs false
set_option linter.unusedVariables false
namespace Go.Proofs.Ytjdigncieoaglaa
set_option linter.unusedVariables false
open Go.RowKit Go.Lib

/-- is it among these -/
def oneP (c : Int) (l : List Int) : Bool := l.any fun x => decide (x = c)
theorem oneP_step {c : Int} {l : List Int} {k : Nat} (hk : k < l.length) : oneP c (l.take (k + 1)) = (oneP c (l.take k) || decide (l.getD k 0 = c)) := by
  have e : l.getD k 0 = l[k] := by rw [List.getD_eq_getElem?_getD, List.getElem?_eq_getElem hk]; rfl
  rw [e, oneP, oneP, List.take_succ_eq_append_getElem hk, List.any_append, List.any_cons, List.any_nil, Bool.or_false]
set_option maxRecDepth 100000 in
theorem rone_any (c : Int) (s : ByteArray) (w : World) (hs : s.size ≤ 140737488355328) (hc : 0 ≤ c ∧ c < 256) :
    Calls Try.prog 44 #[.int .u8 c, .string s] w fun e w' => e = .returned (.bool (oneP c (numsOf s))) ∧ w = w' := by
  have HL := Lib.hid (numsOf_length s)
  go_enter Try.func44, Try.ntmps44
  go_wp2
  go_loopw [5] (fun i wr => ∃ k : Nat, k ≤ s.size ∧ i = .int .i64 (k : Int) ∧ Hid (oneP c ((numsOf s).take k) = false) ∧ w = wr) (fun i _ => s.size - (intOf i).toNat)
  case atStart => exact ⟨0, by omega, rfl, Lib.hid (by simp [oneP]), rfl⟩
  case round =>
    obtain ⟨k, hk, rfl, HO, rfl⟩ := hrel
    by_cases hlt : k < s.size
    · have hx := fun W => run_index_nums W s k hlt
      have hb := numsOf_byte s k
      have HS := Lib.hid (oneP_step (c := c) (l := numsOf s) (k := k) (by rw [HL.out]; exact hlt))
      have HT : Hid (oneP c ((numsOf s).take (k + 1)) = true → oneP c (numsOf s) = true) := Lib.hid fun h => by
        unfold oneP at h ⊢
        rw [List.any_eq_true] at h ⊢
        obtain ⟨x, h1, h2⟩ := h
        exact ⟨x, List.mem_of_mem_take h1, h2⟩
      generalize (numsOf s).getD k 0 = y at *
      rw [HO.out, Bool.false_or] at HS
      by_cases hy : y = c
      · have hT := Lib.hid (HT.out (by rw [HS.out, decide_eq_true hy]))
        clear HT HS HO
        go_wp2
        go_ret
        exact ⟨by rw [hT.out]; rfl, rfl⟩
      · have HO2 : Hid (oneP c ((numsOf s).take (k + 1)) = false) := Lib.hid (by rw [HS.out, decide_eq_false hy])
        clear HT HS HO
        go_wp2
        exact ⟨⟨k + 1, by omega, by go_num, HO2, trivial⟩, by simp [intOf] <;> omega⟩
    · obtain rfl : k = s.size := by omega
      have HF : Hid (oneP c (numsOf s) = false) := Lib.hid (by
        have h := HO.out
        rwa [List.take_of_length_le (by rw [HL.out]; omega)] at h)
      go_wp2
      go_ret
      exact ⟨by rw [HF.out]; rfl, rfl⟩
def firstC : List Int := [97, 98, 99, 100, 101, 102, 103, 104, 105, 106, 107, 108, 109, 110, 111, 112, 113, 114, 115, 116, 117, 118, 119, 120, 121, 122, 48, 49, 50, 51, 52, 53, 54, 55, 56, 57]
def restC : List Int := [46, 95, 45]
set_option maxRecDepth 100000 in
theorem one_first {c : Int} (h : 0 ≤ c ∧ c < 256) : oneP c firstC = nlow c := by
  obtain ⟨n, rfl⟩ := Int.eq_ofNat_of_zero_le h.1
  have : ∀ k : Fin 256, oneP ((k.val : Nat) : Int) firstC = nlow ((k.val : Nat) : Int) := by decide +kernel
  exact this ⟨n, by omega⟩
set_option maxRecDepth 100000 in
theorem one_rest {c : Int} (h : 0 ≤ c ∧ c < 256) : (nlow c || oneP c restC) = nmid c := by
  obtain ⟨n, rfl⟩ := Int.eq_ofNat_of_zero_le h.1
  have : ∀ k : Fin 256, (nlow ((k.val : Nat) : Int) || oneP ((k.val : Nat) : Int) restC) = nmid ((k.val : Nat) : Int) := by decide +kernel
  exact this ⟨n, by omega⟩
theorem all_step {p : Int → Bool} {l : List Int} {k : Nat} (hk : k < l.length) : (l.take (k + 1)).all p = ((l.take k).all p && p (l.getD k 0)) := by
  have e : l.getD k 0 = l[k] := by rw [List.getD_eq_getElem?_getD, List.getElem?_eq_getElem hk]; rfl
  rw [e, List.take_succ_eq_append_getElem hk, List.all_append, List.all_cons, List.all_nil, Bool.and_true]
theorem all_bad {p : Int → Bool} {l : List Int} {k : Nat} (hk : k < l.length) (h : p (l.getD k 0) = false) : l.all p = false := by
  have e : l.getD k 0 = l[k] := by rw [List.getD_eq_getElem?_getD, List.getElem?_eq_getElem hk]; rfl
  rw [e] at h
  cases ha : l.all p
  · rfl
  · rw [List.all_eq_true.1 ha _ (List.getElem_mem hk)] at h; cases h
theorem lens_dec (n : Nat) : decide (1 ≤ n ∧ n ≤ 32) = (decide (1 ≤ (n : Int)) && decide ((n : Int) ≤ 32)) := by
  rw [Bool.eq_iff_iff, Bool.and_eq_true, decide_eq_true_iff, decide_eq_true_iff, decide_eq_true_iff]; omega
set_option maxRecDepth 100000 in
set_option maxHeartbeats 1000000 in
theorem rtag_any (s : ByteArray) (w : World) (hs : s.size ≤ 140737488355328) : Calls Try.prog 30 #[.string s] w fun e w' => e = .returned (.bool (tagP (numsOf s))) ∧ w = w' := by
  have HL := Lib.hid (numsOf_length s)
  have HD : Hid (tagP (numsOf s) = (decide (1 ≤ s.size ∧ s.size ≤ 32) && (numsOf s).all nmid && nlow ((numsOf s).getD 0 0))) := Lib.hid (by rw [tagP, numsOf_length])
  have H1 : Hid (∀ c W, 0 ≤ c ∧ c < 256 → Calls Try.prog 44 #[.int .u8 c, .string ⟨#[97, 98, 99, 100, 101, 102, 103, 104, 105, 106, 107, 108, 109, 110, 111, 112, 113, 114, 115, 116, 117, 118, 119, 120, 121, 122, 48, 49, 50, 51, 52, 53, 54, 55, 56, 57]⟩] W fun e w' => e = .returned (.bool (nlow c)) ∧ W = w') := Lib.hid fun c W hc => by
    have h := rone_any c ⟨#[97, 98, 99, 100, 101, 102, 103, 104, 105, 106, 107, 108, 109, 110, 111, 112, 113, 114, 115, 116, 117, 118, 119, 120, 121, 122, 48, 49, 50, 51, 52, 53, 54, 55, 56, 57]⟩ W (by decide) hc
    rwa [show numsOf ⟨#[97, 98, 99, 100, 101, 102, 103, 104, 105, 106, 107, 108, 109, 110, 111, 112, 113, 114, 115, 116, 117, 118, 119, 120, 121, 122, 48, 49, 50, 51, 52, 53, 54, 55, 56, 57]⟩ = firstC from rfl, one_first hc] at h
  have H2 : Hid (∀ c W, 0 ≤ c ∧ c < 256 → Calls Try.prog 44 #[.int .u8 c, .string ⟨#[46, 95, 45]⟩] W fun e w' => e = .returned (.bool (oneP c restC)) ∧ W = w') := Lib.hid fun c W hc => by
    have h := rone_any c ⟨#[46, 95, 45]⟩ W (by decide) hc
    rwa [show numsOf ⟨#[46, 95, 45]⟩ = restC from rfl] at h
  go_enter Try.func30, Try.ntmps30
  go_wp2
  go_loopw [4] (fun i wr => ∃ k : Nat, k ≤ s.size ∧ i = .int .i64 (k : Int) ∧ Hid (((numsOf s).take k).all nmid = true ∧ (0 < k → nlow ((numsOf s).getD 0 0) = true)) ∧ w = wr) (fun i _ => s.size - (intOf i).toNat)
  case atStart => exact ⟨0, by omega, rfl, Lib.hid ⟨by simp, fun h => absurd h (Nat.lt_irrefl _)⟩, rfl⟩
  case round =>
    obtain ⟨k, hk, rfl, HO, rfl⟩ := hrel
    by_cases hlt : k < s.size
    · have hx := fun W => run_index_nums W s k hlt
      have hb := numsOf_byte s k
      have HS : Hid (((numsOf s).take (k + 1)).all nmid = nmid ((numsOf s).getD k 0)) := Lib.hid (by rw [all_step (by rw [HL.out]; exact hlt), HO.out.1, Bool.true_and])
      have HBAD : Hid (nmid ((numsOf s).getD k 0) = false → tagP (numsOf s) = false) := Lib.hid fun h => by rw [HD.out, all_bad (by rw [HL.out]; exact hlt) h, Bool.and_false, Bool.false_and]
      have HB0 : Hid (k = 0 → nlow ((numsOf s).getD k 0) = false → tagP (numsOf s) = false) := Lib.hid fun h h2 => by rw [h] at h2; rw [HD.out, h2, Bool.and_false]
      have HN0 : Hid (k = 0 → nlow ((numsOf s).getD k 0) = true → nlow ((numsOf s).getD 0 0) = true) := Lib.hid fun h h2 => by rw [h] at h2; exact h2
      have HR := Lib.hid (one_rest hb)
      have C1 := Lib.hid fun W => H1.out _ W hb
      have C2 := Lib.hid fun W => H2.out _ W hb
      generalize (numsOf s).getD k 0 = y at *
      generalize oneP y restC = r at *
      cases ha : nlow y
      · rw [ha] at C1 HR HB0
        by_cases h0 : k = 0
        · have hF := Lib.hid (HB0.out h0 rfl)
          have hk0 : ((k : Int) == 0) = true := by simpa using h0
          clear HS HBAD HB0 HN0 HO HR h0
          go_wp2_with fail
          refine (C1.out _).mono ?_
          rintro e w1 ⟨rfl, rfl⟩
          go_wp2
          go_ret
          exact ⟨by rw [hF.out]; rfl, rfl⟩
        · have hk0 : ((k : Int) == 0) = false := by simpa using h0
          rw [Bool.false_or] at HR
          cases r
          · have hF := Lib.hid (HBAD.out HR.out.symm)
            clear HS HBAD HB0 HN0 HO HR
            go_wp2_with fail
            refine (C1.out _).mono ?_
            rintro e w1 ⟨rfl, rfl⟩
            go_wp2_with fail
            refine (C2.out _).mono ?_
            rintro e w2 ⟨rfl, rfl⟩
            go_wp2
            go_ret
            exact ⟨by rw [hF.out]; rfl, rfl⟩
          · have HO2 : Hid (((numsOf s).take (k + 1)).all nmid = true ∧ (0 < k + 1 → nlow ((numsOf s).getD 0 0) = true)) := Lib.hid ⟨by rw [HS.out]; exact HR.out.symm, fun _ => HO.out.2 (by omega)⟩
            clear HS HBAD HB0 HN0 HO HR
            go_wp2_with fail
            refine (C1.out _).mono ?_
            rintro e w1 ⟨rfl, rfl⟩
            go_wp2_with fail
            refine (C2.out _).mono ?_
            rintro e w2 ⟨rfl, rfl⟩
            go_wp2
            exact ⟨⟨k + 1, by omega, by go_num, HO2, trivial⟩, by simp [intOf] <;> omega⟩
      · rw [ha] at C1 HR HN0
        rw [Bool.true_or] at HR
        have HO2 : Hid (((numsOf s).take (k + 1)).all nmid = true ∧ (0 < k + 1 → nlow ((numsOf s).getD 0 0) = true)) := Lib.hid ⟨by rw [HS.out]; exact HR.out.symm, fun _ => by
          by_cases h0 : k = 0
          · exact HN0.out h0 rfl
          · exact HO.out.2 (by omega)⟩
        clear HS HBAD HB0 HN0 HO HR
        go_wp2_with fail
        refine (C1.out _).mono ?_
        rintro e w1 ⟨rfl, rfl⟩
        go_wp2
        exact ⟨⟨k + 1, by omega, by go_num, HO2, trivial⟩, by simp [intOf] <;> omega⟩
    · obtain rfl : k = s.size := by omega
      have HF : Hid (tagP (numsOf s) = (decide (1 ≤ (s.size : Int)) && decide ((s.size : Int) ≤ 32))) := Lib.hid (by
        have h := HO.out.1
        rw [List.take_of_length_le (by rw [HL.out]; omega)] at h
        rw [HD.out, h, Bool.and_true, ← lens_dec]
        by_cases h0 : 0 < s.size
        · rw [HO.out.2 h0, Bool.and_true]
        · rw [decide_eq_false (fun hh => h0 (by omega)), Bool.false_and])
      by_cases h1 : 1 ≤ (s.size : Int)
      · have D1 := Lib.hid (decide_eq_true h1)
        by_cases h2 : (s.size : Int) ≤ 32
        · have D2 := Lib.hid (decide_eq_true h2)
          go_wp2
          go_ret
          exact ⟨by rw [HF.out, D1.out, D2.out]; rfl, rfl⟩
        · have D2 := Lib.hid (decide_eq_false h2)
          go_wp2
          go_ret
          exact ⟨by rw [HF.out, D1.out, D2.out]; rfl, rfl⟩
      · have D1 := Lib.hid (decide_eq_false h1)
        go_wp2
        go_ret
        exact ⟨by rw [HF.out, D1.out]; rfl, rfl⟩
end Go.Proofs.Ytjdigncieoaglaa

namespace Go.Proofs.Ytjdigncieoaglaa
set_option linter.unusedVariables false
open Go.RowKit Go.Lib

set_option maxRecDepth 100000 in
theorem low_any (c : Int) (w : World) : Calls Try.prog 60 #[.int .u8 c] w fun e w' => e = .returned (.bool (nlow c)) ∧ w = w' := by
  have hT : (97 ≤ c ∧ c ≤ 122) ∨ (48 ≤ c ∧ c ≤ 57) → Hid (nlow c = true) := fun h => Lib.hid (by unfold nlow; simp; omega)
  have hF : ¬ ((97 ≤ c ∧ c ≤ 122) ∨ (48 ≤ c ∧ c ≤ 57)) → Hid (nlow c = false) := fun h => Lib.hid (by unfold nlow; simp; omega)
  by_cases h1 : 97 ≤ c
  · by_cases h2 : c ≤ 122
    · have H := hT (by omega)
      clear hT hF
      go_enter Try.func60, Try.ntmps60
      go_wp2
      go_ret
      exact ⟨by rw [H.out]; rfl, rfl⟩
    · have H := hF (by omega)
      clear hT hF
      have h3 : 48 ≤ c := by omega
      have h4 : ¬ c ≤ 57 := by omega
      go_enter Try.func60, Try.ntmps60
      go_wp2
      go_ret
      exact ⟨by rw [H.out]; rfl, rfl⟩
  · by_cases h3 : 48 ≤ c
    · by_cases h4 : c ≤ 57
      · have H := hT (by omega)
        clear hT hF
        go_enter Try.func60, Try.ntmps60
        go_wp2
        go_ret
        exact ⟨by rw [H.out]; rfl, rfl⟩
      · have H := hF (by omega)
        clear hT hF
        go_enter Try.func60, Try.ntmps60
        go_wp2
        go_ret
        exact ⟨by rw [H.out]; rfl, rfl⟩
    · have H := hF (by omega)
      clear hT hF
      go_enter Try.func60, Try.ntmps60
      go_wp2
      go_ret
      exact ⟨by rw [H.out]; rfl, rfl⟩
set_option maxRecDepth 100000 in
theorem oftag_any (c : Int) (w : World) : Calls Try.prog 62 #[.int .u8 c] w fun e w' => e = .returned (.bool (nmid c)) ∧ w = w' := by
  have HC := Lib.hid fun W => low_any c W
  have HM : Hid (nmid c = (nlow c || (c == 46) || (c == 95) || (c == 45))) := Lib.hid (by unfold nmid; rfl)
  generalize nlow c = b at *
  generalize nmid c = m at *
  have HK : ∀ x : Int, Hid (∃ t, (c == x) = t) := fun x => Lib.hid ⟨_, rfl⟩
  obtain ⟨t1, h1⟩ := (HK 46).out
  obtain ⟨t2, h2⟩ := (HK 95).out
  obtain ⟨t3, h3⟩ := (HK 45).out
  rw [h1, h2, h3] at HM
  clear HK
  cases b <;> cases t1 <;> cases t2 <;> cases t3
  all_goals
    go_enter Try.func62, Try.ntmps62
    go_wp2_with fail
    refine (HC.out _).mono ?_
    rintro e w1 ⟨rfl, rfl⟩
    go_wp2
    go_ret
    exact ⟨by rw [HM.out]; rfl, rfl⟩
set_option maxRecDepth 100000 in
theorem hassize_any (s : ByteArray) (w : World) (hs : s.size ≤ 140737488355328) : Calls Try.prog 59 #[.string s] w fun e w' => e = .returned (.bool (decide (1 ≤ s.size ∧ s.size ≤ 32))) ∧ w = w' := by
  have HE : Hid ((s.toList == []) = decide (s.size = 0)) := Lib.hid (by
    rw [text_test s [] [] rfl]
    rw [Bool.eq_iff_iff, decide_eq_true_iff, decide_eq_true_iff, ← numsOf_length s]
    exact ⟨fun h => by rw [h]; rfl, fun h => List.length_eq_zero_iff.1 h⟩)
  by_cases h0 : s.size = 0
  · have hq : (s.toList == []) = true := by rw [HE.out, decide_eq_true h0]
    have H : Hid (decide (1 ≤ s.size ∧ s.size ≤ 32) = false) := Lib.hid (by simp; omega)
    clear HE
    generalize decide (1 ≤ s.size ∧ s.size ≤ 32) = d at *
    go_enter Try.func59, Try.ntmps59
    go_wp2
    go_ret
    exact ⟨by rw [H.out]; rfl, rfl⟩
  · have hq : (s.toList == []) = false := by rw [HE.out, decide_eq_false h0]
    by_cases h1 : (s.size : Int) ≤ 32
    · have H : Hid (decide (1 ≤ s.size ∧ s.size ≤ 32) = true) := Lib.hid (by simp; omega)
      clear HE
      generalize decide (1 ≤ s.size ∧ s.size ≤ 32) = d at *
      go_enter Try.func59, Try.ntmps59
      go_wp2
      go_ret
      exact ⟨by rw [H.out]; rfl, rfl⟩
    · have H : Hid (decide (1 ≤ s.size ∧ s.size ≤ 32) = false) := Lib.hid (by simp; omega)
      clear HE
      generalize decide (1 ≤ s.size ∧ s.size ≤ 32) = d at *
      go_enter Try.func59, Try.ntmps59
      go_wp2
      go_ret
      exact ⟨by rw [H.out]; rfl, rfl⟩
set_option maxRecDepth 100000 in
theorem alltag_any (s : ByteArray) (w : World) (hs : s.size ≤ 140737488355328) : Calls Try.prog 61 #[.string s, .func (.func 62) #[] #[]] w fun e w' => e = .returned (.bool ((numsOf s).all nmid)) ∧ w = w' := by
  have HL := Lib.hid (numsOf_length s)
  have HC := Lib.hid oftag_any
  go_enter Try.func61, Try.ntmps61
  go_wp2
  go_loopw [8] (fun i wr => ∃ k : Nat, k ≤ s.size ∧ i = .int .i64 (k : Int) ∧ Hid (((numsOf s).take k).all nmid = true) ∧ w = wr) (fun i _ => s.size - (intOf i).toNat)
  case atStart => exact ⟨0, by omega, rfl, Lib.hid (by simp), rfl⟩
  case round =>
    obtain ⟨k, hk, rfl, HO, rfl⟩ := hrel
    by_cases hlt : k < s.size
    · have hx := fun W => run_index_nums W s k hlt
      have hb := numsOf_byte s k
      have HS : Hid (((numsOf s).take (k + 1)).all nmid = nmid ((numsOf s).getD k 0)) := Lib.hid (by rw [all_step (by rw [HL.out]; exact hlt), HO.out, Bool.true_and])
      have HBAD : Hid (nmid ((numsOf s).getD k 0) = false → (numsOf s).all nmid = false) := Lib.hid fun h => all_bad (by rw [HL.out]; exact hlt) h
      generalize (numsOf s).getD k 0 = y at *
      have HY := Lib.hid fun W => HC.out y W
      generalize nmid y = t at *
      cases t
      · have hF := Lib.hid (HBAD.out rfl)
        clear HS HBAD HO
        go_wp2_with fail
        refine (HY.out _).mono ?_
        rintro e w1 ⟨rfl, rfl⟩
        go_wp2
        go_ret
        exact ⟨by rw [hF.out]; rfl, rfl⟩
      · clear HBAD HO
        go_wp2_with fail
        refine (HY.out _).mono ?_
        rintro e w1 ⟨rfl, rfl⟩
        go_wp2
        exact ⟨⟨k + 1, by omega, by go_num, HS, trivial⟩, by simp [intOf] <;> omega⟩
    · obtain rfl : k = s.size := by omega
      have HF : Hid ((numsOf s).all nmid = true) := Lib.hid (by
        have h := HO.out
        rwa [List.take_of_length_le (by rw [HL.out]; omega)] at h)
      go_wp2
      go_ret
      exact ⟨by rw [HF.out]; rfl, rfl⟩
set_option maxRecDepth 100000 in
set_option maxHeartbeats 1000000 in
theorem ntag_any (s : ByteArray) (w : World) (hs : s.size ≤ 140737488355328) : Calls Try.prog 47 #[.string s] w fun e w' => e = .returned (.bool (tagP (numsOf s))) ∧ Below w.heap.size w w' := by
  have HL := Lib.hid (numsOf_length s)
  have HD : Hid (tagP (numsOf s) = (decide (1 ≤ s.size ∧ s.size ≤ 32) && (numsOf s).all nmid && nlow ((numsOf s).getD 0 0))) := Lib.hid (by rw [tagP, numsOf_length])
  have H1 := Lib.hid fun W => hassize_any s W hs
  have H2 := Lib.hid fun W => low_any ((numsOf s).getD 0 0) W
  have H3 := Lib.hid fun W => alltag_any s W hs
  have hlt : Hid (decide (1 ≤ s.size ∧ s.size ≤ 32) = true → 0 < s.size) := Lib.hid fun h => by have := of_decide_eq_true h; omega
  have hB := Lib.hid (Below.refl w.heap.size w)
  generalize decide (1 ≤ s.size ∧ s.size ≤ 32) = a at *
  cases a
  · have H : Hid (tagP (numsOf s) = false) := Lib.hid (by rw [HD.out]; rfl)
    clear HD hlt
    generalize tagP (numsOf s) = m at *
    go_enter Try.func47, Try.ntmps47
    go_wp2_with fail
    refine (H1.out _).mono ?_
    rintro e w1 ⟨rfl, rfl⟩
    go_wp2
    go_ret
    exact ⟨by rw [H.out]; rfl, hB.out⟩
  · have hlt := hlt.out rfl
    have hx : ∀ W : World, (Instr.index 9 (.string s) (.int .i64 0)).run Try.prog W = .ok (.int .u8 ((numsOf s).getD 0 0)) W := fun W => run_index_nums W s 0 hlt
    generalize (numsOf s).getD 0 0 = y at *
    generalize nlow y = b at *
    generalize (numsOf s).all nmid = c at *
    cases b
    · generalize tagP (numsOf s) = m at *
      go_enter Try.func47, Try.ntmps47
      go_wp2_with fail
      refine (H1.out _).mono ?_
      rintro e w1 ⟨rfl, rfl⟩
      go_wp2_with fail
      refine (H2.out _).mono ?_
      rintro e w2 ⟨rfl, rfl⟩
      go_wp2
      go_ret
      exact ⟨by rw [HD.out, Bool.and_false]; rfl, hB.out⟩
    · cases c
      all_goals
        generalize tagP (numsOf s) = m at *
        go_enter Try.func47, Try.ntmps47
        go_wp2_with fail
        refine (H1.out _).mono ?_
        rintro e w1 ⟨rfl, rfl⟩
        go_wp2_with fail
        refine (H2.out _).mono ?_
        rintro e w2 ⟨rfl, rfl⟩
        go_wp2_with fail
        refine (H3.out _).mono ?_
        rintro e w3 ⟨rfl, rfl⟩
        go_wp2
        go_ret
        exact ⟨by rw [HD.out]; rfl, hB.out⟩
end Go.Proofs.Ytjdigncieoaglaa
