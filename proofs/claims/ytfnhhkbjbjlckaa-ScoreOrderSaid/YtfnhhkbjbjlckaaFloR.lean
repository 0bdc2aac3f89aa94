/- float64 on plain numbers: twice a word, one by a zero, whole numbers as floats, by zero. -/
import Derived.Test.YtfnhhkbjbjlckaaFloQ
namespace Go.Proofs.Ytfnhhkbjbjlckaa
set_option linter.unusedVariables false
open Ieee

theorem rne_mul (m c : Nat) (hc : 0 < c) : rne (m * c) c = m := by
  unfold rne
  rw [Nat.mul_div_cancel _ hc, Nat.mul_mod_left]
  simp
  omega
theorem log2_of {n k : Nat} (h1 : 2 ^ k ≤ n) (h2 : n < 2 ^ (k + 1)) : n.log2 = k := by
  have hn : n ≠ 0 := by have := Nat.two_pow_pos k; omega
  have a : k ≤ n.log2 := (Nat.le_log2 hn).2 h1
  have b : n.log2 < k + 1 := (Nat.log2_lt hn).2 h2
  omega
theorem read_two : double.read 4611686018427387904 = .number false 4503599627370496 (-51) := by decide
theorem read_one : double.read 4607182418800017408 = .number false 4503599627370496 (-52) := by decide
theorem read_m1 : double.read 13830554455654793216 = .number true 4503599627370496 (-52) := by decide
theorem read_zero : double.read 0 = .number false 0 (-1074) := by decide
theorem bxor_false (s : Bool) : (s ^^ false) = s := by cases s <;> rfl
theorem bfalse_xor (s : Bool) : (false ^^ s) = s := by cases s <;> rfl
theorem feq_iff (a b : Nat) : feq a b = true ↔ (¬ fnan a ∧ ¬ fnan b ∧ fsk a = fsk b) := by unfold feq; exact decide_eq_true_iff

/-- x times 2 is x just where x is an infinity (or a zero) -/
theorem fmul2 {x : Nat} (h : ¬ fnan x) : ∃ r, double.mul x 4611686018427387904 = some r ∧ (frg x = 9218868437227405312 → feq x r = true) ∧ (0 < frg x → frg x < 9218868437227405312 → feq x r = false) := by
  have hle : frg x ≤ 9218868437227405312 := by unfold fnan at h; omega
  by_cases h1 : frg x = 9218868437227405312
  · refine ⟨double.word (fsg x) 9218868437227405312, ?_, fun _ => ?_, fun _ h2 => by omega⟩
    · unfold Format.mul
      rw [read_two, fread_inf h1]
      show Option.map double.write (if 4503599627370496 = 0 then none else some (Datum.infinity (fsg x ^^ false))) = _
      rw [if_neg (by decide), bxor_false]
      show some (double.word (fsg x) double.infRung) = _
      rw [inf47]
    · rw [feq_iff]
      obtain ⟨e1, e2⟩ := fword_rg (fsg x) (r := 9218868437227405312) (by decide)
      refine ⟨h, by unfold fnan; rw [e1]; omega, ?_⟩
      unfold fsk
      rw [e1, e2, h1]
  · by_cases h0 : frg x < 4503599627370496
    · by_cases hz : frg x = 0
      · have hr : double.read x = .number (fsg x) 0 (-1074) := by rw [fread, if_pos h0, hz]
        refine ⟨double.write (.number (fsg x ^^ false) (0 * 4503599627370496) (-1074 + -51)), ?_, fun h => by omega, fun h => by omega⟩
        unfold Format.mul
        rw [read_two, hr]; rfl
      · have hr : double.read x = .number (fsg x) (frg x) (-1074) := by rw [fread, if_pos h0]
        have hm0 : frg x * 4503599627370496 ≠ 0 := by omega
        have hlog : (frg x * 4503599627370496).log2 ≤ 103 := by
          have := (Nat.log2_lt hm0).2 (show frg x * 4503599627370496 < 2 ^ 104 by rw [show (2 : Nat) ^ 104 = 4503599627370496 * 4503599627370496 by decide]; exact Nat.mul_lt_mul_of_pos_right h0 (by decide))
          omega
        have hlog2 : 52 ≤ (frg x * 4503599627370496).log2 := (Nat.le_log2 hm0).2 (by rw [show (2 : Nat) ^ 52 = 4503599627370496 by decide]; omega)
        have e := near_any (fsg x) (frg x * 4503599627370496) (-1074 + -51) 0 hm0 (by omega) (by
          rw [show ((-1074 : Int) + -51 - (-1074 + ((0 : Nat) : Int))).toNat = 0 by decide, show ((-1074 : Int) + ((0 : Nat) : Int) - (-1074 + -51)).toNat = 51 by decide, Nat.shiftLeft_zero]; omega)
        rw [show ((-1074 : Int) + -51 - (-1074 + ((0 : Nat) : Int))).toNat = 0 by decide, show ((-1074 : Int) + ((0 : Nat) : Int) - (-1074 + -51)).toNat = 51 by decide, Nat.shiftLeft_zero, Nat.zero_mul, Nat.zero_add,
          show frg x * 4503599627370496 = frg x * 2 * 2 ^ 51 by rw [show (2 : Nat) ^ 51 = 2251799813685248 by decide]; omega, rne_mul _ _ (Nat.two_pow_pos _), Nat.min_eq_left (by omega)] at e
        refine ⟨double.word (fsg x) (frg x * 2), ?_, fun h => by omega, fun _ _ => ?_⟩
        · unfold Format.mul
          rw [read_two, hr]
          show some (double.nearest (fsg x ^^ false) (frg x * 4503599627370496) (-1074 + -51)) = _
          rw [bxor_false, show frg x * 4503599627370496 = frg x * 2 * 2 ^ 51 by rw [show (2 : Nat) ^ 51 = 2251799813685248 by decide]; omega, e]
        · obtain ⟨e1, e2⟩ := fword_rg (fsg x) (r := frg x * 2) (by omega)
          cases hf : feq x (double.word (fsg x) (frg x * 2))
          · rfl
          · have := ((feq_iff _ _).1 hf).2.2
            unfold fsk at this
            rw [e1, e2] at this
            cases hs : fsg x <;> rw [hs] at this <;> simp only [if_true, if_false, Bool.false_eq_true] at this <;> omega
    · have hr : double.read x = .number (fsg x) (4503599627370496 + frg x % 4503599627370496) (-1074 + (frg x / 4503599627370496 - 1 : Nat)) := by rw [fread, if_neg h0, if_pos (by omega)]
      obtain ⟨k, hk⟩ : ∃ k, frg x / 4503599627370496 - 1 = k := ⟨_, rfl⟩
      obtain ⟨m, hm⟩ : ∃ m, 4503599627370496 + frg x % 4503599627370496 = m := ⟨_, rfl⟩
      have hrr : frg x = k * 4503599627370496 + m := by omega
      have hm1 : 4503599627370496 ≤ m := by omega
      have hm2 : m < 9007199254740992 := by omega
      rw [hk, hm] at hr
      have hlog : (m * 4503599627370496).log2 = 104 := log2_of (by rw [show (2 : Nat) ^ 104 = 4503599627370496 * 4503599627370496 by decide]; exact Nat.mul_le_mul_right _ hm1) (by rw [show (2 : Nat) ^ (104 + 1) = 9007199254740992 * 4503599627370496 by decide]; exact Nat.mul_lt_mul_of_pos_right hm2 (by decide))
      have e := near_wide (fsg x) (m * 4503599627370496) (-1074 + (k : Int) + -51) (k + 1) (by omega) (by omega) (by rw [hlog]; omega)
      rw [hlog, show (2 : Nat) ^ (104 - 52) = 4503599627370496 by decide, rne_mul _ _ (by decide)] at e
      refine ⟨double.word (fsg x) (min ((k + 1) * 4503599627370496 + m) 9218868437227405312), ?_, fun h => by omega, fun _ _ => ?_⟩
      · unfold Format.mul
        rw [read_two, hr]
        show some (double.nearest (fsg x ^^ false) (m * 4503599627370496) (-1074 + (k : Int) + -51)) = _
        rw [bxor_false, e]
      · obtain ⟨e1, e2⟩ := fword_rg (fsg x) (r := min ((k + 1) * 4503599627370496 + m) 9218868437227405312) (by omega)
        cases hf : feq x (double.word (fsg x) (min ((k + 1) * 4503599627370496 + m) 9218868437227405312))
        · rfl
        · have := ((feq_iff _ _).1 hf).2.2
          unfold fsk at this
          rw [e1, e2] at this
          cases hs : fsg x <;> rw [hs] at this <;> simp only [if_true, if_false, Bool.false_eq_true] at this <;> omega

/-- one by a zero -/
theorem fdiv_zero {y x : Nat} {s : Bool} {m : Nat} {i : Int} (hy : double.read y = .number s m i) (hm : m ≠ 0) (hx : frg x = 0) : double.div y x = some (double.word (s ^^ fsg x) 9218868437227405312) := by
  have hr : double.read x = .number (fsg x) 0 (-1074) := by rw [fread, if_pos (by omega), hx]
  have hq : Datum.quotient (double.fractionBits + 2) (.number s m i) (.number (fsg x) 0 (-1074)) = some (.infinity (s ^^ fsg x)) := by
    unfold Datum.quotient
    simp [hm]
  unfold Format.div
  rw [hy, hr, hq]
  show some (double.word (s ^^ fsg x) double.infRung) = _
  rw [inf47]
theorem fdiv_1_zero {x : Nat} (hx : frg x = 0) : double.div 4607182418800017408 x = some (double.word (fsg x) 9218868437227405312) := by
  have := fdiv_zero (x := x) read_one (by decide) hx
  rwa [bfalse_xor] at this
theorem flt_inf0 (s : Bool) : flt (double.word s 9218868437227405312) 0 = s := by cases s <;> decide
theorem fdiv_none : double.div 0 0 = none := by decide
theorem fdiv_m1 : double.div 13830554455654793216 0 = some 18442240474082181120 := by decide
theorem fdiv_p1 : double.div 4607182418800017408 0 = some 9218868437227405312 := by decide

/-- a whole number as a float -/
def fi (n : Int) : Nat := floatOfInt .f64 n
theorem fi_is (n : Int) : fi n = double.nearest (decide (n < 0)) n.natAbs 0 := rfl
theorem fi_zero : fi 0 = 0 := by decide
theorem frg_read_norm {x m u : Nat} {s : Bool} (hm1 : 4503599627370496 ≤ m) (hm2 : m < 9007199254740992) (hu : u ≤ 2044) (hx : x = double.word s (u * 4503599627370496 + m)) : double.read x = .number s m (-1074 + (u : Int)) := by
  obtain ⟨e1, e2⟩ := fword_rg s (r := u * 4503599627370496 + m) (by omega)
  rw [← hx] at e1 e2
  rw [fread, e1, e2, if_neg (by omega), if_pos (by omega)]
  have a1 : 4503599627370496 + (u * 4503599627370496 + m) % 4503599627370496 = m := by omega
  have a2 : (u * 4503599627370496 + m) / 4503599627370496 - 1 = u := by omega
  rw [a1, a2]
theorem fi_read {n : Int} (h0 : n ≠ 0) (h1 : -9223372036854775808 ≤ n) (h2 : n < 9223372036854775808) : ∃ m i, double.read (fi n) = .number (decide (n < 0)) m i ∧ m ≠ 0 := by
  have hn : n.natAbs ≠ 0 := by omega
  have hl : n.natAbs.log2 ≤ 63 := by
    have := (Nat.log2_lt hn).2 (show n.natAbs < 2 ^ 64 by rw [show (2 : Nat) ^ 64 = 18446744073709551616 by decide]; omega)
    omega
  have hlo : 2 ^ n.natAbs.log2 ≤ n.natAbs := Nat.log2_self_le hn
  have hhi : n.natAbs < 2 ^ (n.natAbs.log2 + 1) := Nat.lt_log2_self
  by_cases hL : 52 ≤ n.natAbs.log2
  · have e := near_wide (decide (n < 0)) n.natAbs 0 (n.natAbs.log2 + 1022) hn hL (by omega)
    have ht := rne_top n.natAbs hL
    have hb : 4503599627370496 ≤ rne n.natAbs (2 ^ (n.natAbs.log2 - 52)) := by
      refine Nat.le_trans ?_ (rne_ge _ _)
      rw [Nat.le_div_iff_mul_le (Nat.two_pow_pos _), show (4503599627370496 : Nat) = 2 ^ 52 by decide, ← Nat.pow_add, show 52 + (n.natAbs.log2 - 52) = n.natAbs.log2 by omega]
      exact hlo
    generalize rne n.natAbs (2 ^ (n.natAbs.log2 - 52)) = K at e ht hb
    rw [Nat.min_eq_left (by omega)] at e
    by_cases hK : K = 9007199254740992
    · refine ⟨4503599627370496, _, frg_read_norm (m := 4503599627370496) (u := n.natAbs.log2 + 1023) (by omega) (by omega) (by omega) ?_, by omega⟩
      rw [fi_is, e, show (n.natAbs.log2 + 1022) * 4503599627370496 + K = (n.natAbs.log2 + 1023) * 4503599627370496 + 4503599627370496 by omega]
    · refine ⟨K, _, frg_read_norm (m := K) (u := n.natAbs.log2 + 1022) hb (by omega) (by omega) ?_, by omega⟩
      rw [fi_is, e]
  · have e := near_small (decide (n < 0)) n.natAbs 0 (n.natAbs.log2 + 1022) hn (by omega) (by omega) (by omega)
    have p1 : 2 ^ n.natAbs.log2 * 2 ^ (52 - n.natAbs.log2) = 4503599627370496 := by rw [← Nat.pow_add, show n.natAbs.log2 + (52 - n.natAbs.log2) = 52 by omega]
    have p2 : 2 ^ (n.natAbs.log2 + 1) * 2 ^ (52 - n.natAbs.log2) = 9007199254740992 := by rw [← Nat.pow_add, show n.natAbs.log2 + 1 + (52 - n.natAbs.log2) = 53 by omega]
    have b1 := Nat.mul_le_mul_right (2 ^ (52 - n.natAbs.log2)) hlo
    have b2 := Nat.mul_lt_mul_of_pos_right hhi (Nat.two_pow_pos (52 - n.natAbs.log2))
    rw [p1] at b1
    rw [p2] at b2
    refine ⟨_, _, frg_read_norm b1 b2 (u := n.natAbs.log2 + 1022) (by omega) ?_, by omega⟩
    rw [fi_is, e]
/-- by nought -/
theorem fdiv_by0 {n : Int} (h0 : n ≠ 0) (h1 : -9223372036854775808 ≤ n) (h2 : n < 9223372036854775808) : double.div (fi n) 0 = some (double.word (decide (n < 0)) 9218868437227405312) := by
  obtain ⟨m, i, hr, hm⟩ := fi_read h0 h1 h2
  have := fdiv_zero (x := 0) hr hm (by decide)
  rwa [show fsg 0 = false by decide, bxor_false] at this
end Go.Proofs.Ytfnhhkbjbjlckaa
