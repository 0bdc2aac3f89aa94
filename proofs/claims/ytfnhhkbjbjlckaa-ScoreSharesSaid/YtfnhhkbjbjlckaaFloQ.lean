/- float64 on plain numbers: comparisons, one order of all words, products by two, quotients of whole numbers. -/
import Derived.Test.YtfnhhkbjbjlckaaFloP
namespace Go.Proofs.Ytfnhhkbjbjlckaa
set_option linter.unusedVariables false
open Ieee

def flt (x y : Nat) : Bool := decide (¬ fnan x ∧ ¬ fnan y ∧ fsk x < fsk y)
def feq (x y : Nat) : Bool := decide (¬ fnan x ∧ ¬ fnan y ∧ fsk x = fsk y)
theorem cmp_lt (a b : Int) : (compare a b == Ordering.lt) = decide (a < b) := by
  show (compareOfLessAndEq a b == _) = _
  unfold compareOfLessAndEq
  by_cases h : a < b
  · rw [if_pos h, decide_eq_true h]; rfl
  · rw [if_neg h, decide_eq_false h]
    split <;> rfl
theorem cmp_eq' (a b : Int) : (compare a b == Ordering.eq) = decide (a = b) := by
  show (compareOfLessAndEq a b == _) = _
  unfold compareOfLessAndEq
  by_cases h : a < b
  · rw [if_pos h, decide_eq_false (by omega)]; rfl
  · rw [if_neg h]
    by_cases h2 : a = b
    · rw [if_pos h2, decide_eq_true h2]; rfl
    · rw [if_neg h2, decide_eq_false h2]; rfl
theorem cmp_gt (a b : Int) : (compare a b == Ordering.gt) = decide (b < a) := by
  show (compareOfLessAndEq a b == _) = _
  unfold compareOfLessAndEq
  by_cases h : a < b
  · rw [if_pos h, decide_eq_false (by omega)]; rfl
  · rw [if_neg h]
    by_cases h2 : a = b
    · rw [if_pos h2, decide_eq_false (by omega)]; rfl
    · rw [if_neg h2, decide_eq_true (by omega)]; rfl
theorem flt_is (x y : Nat) : (FloatKind.f64.format.order x y == some .lt) = flt x y := by
  rw [fdouble]
  by_cases h : fnan x ∨ fnan y
  · rw [forder_nan h, flt, decide_eq_false (fun hh => h.elim hh.1 hh.2.1)]; rfl
  · have hx : ¬ fnan x := fun hh => h (Or.inl hh)
    have hy : ¬ fnan y := fun hh => h (Or.inr hh)
    rw [forder hx hy, flt]
    have : (some (compare (fsk x) (fsk y)) == some Ordering.lt) = (compare (fsk x) (fsk y) == Ordering.lt) := rfl
    rw [this, cmp_lt]
    simp [hx, hy]
theorem feq_is (x y : Nat) : (FloatKind.f64.format.order x y == some .eq) = feq x y := by
  rw [fdouble]
  by_cases h : fnan x ∨ fnan y
  · rw [forder_nan h, feq, decide_eq_false (fun hh => h.elim hh.1 hh.2.1)]; rfl
  · have hx : ¬ fnan x := fun hh => h (Or.inl hh)
    have hy : ¬ fnan y := fun hh => h (Or.inr hh)
    rw [forder hx hy, feq]
    have : (some (compare (fsk x) (fsk y)) == some Ordering.eq) = (compare (fsk x) (fsk y) == Ordering.eq) := rfl
    rw [this, cmp_eq']
    simp [hx, hy]
theorem fgt_is (x y : Nat) : (FloatKind.f64.format.order x y == some .gt) = flt y x := by
  rw [fdouble]
  by_cases h : fnan x ∨ fnan y
  · rw [forder_nan h, flt, decide_eq_false (fun hh => h.elim hh.2.1 hh.1)]; rfl
  · have hx : ¬ fnan x := fun hh => h (Or.inl hh)
    have hy : ¬ fnan y := fun hh => h (Or.inr hh)
    rw [forder hx hy, flt]
    have : (some (compare (fsk x) (fsk y)) == some Ordering.gt) = (compare (fsk x) (fsk y) == Ordering.gt) := rfl
    rw [this, cmp_gt]
    simp [hx, hy]
theorem fne_is (x y : Nat) : (FloatKind.f64.format.order x y != some .eq) = !feq x y := by rw [← feq_is]; rfl

/-- the place of a word in the one order -/
def fky (x : Nat) : Int := if fnan x then 18446744073709551616 else if fsg x then -(frg x : Int) - 1 else frg x
def fordP (a b : Nat) : Int := if fky a < fky b then -1 else if fky b < fky a then 1 else 0
def frank (x : Nat) : Int := if fnan x then 6 else if frg x = 0 then (if fsg x then 2 else 3) else if frg x = 9218868437227405312 then (if fsg x then 0 else 5) else if fsg x then 1 else 4
theorem fnan_self (x : Nat) : feq x x = !decide (fnan x) := by
  unfold feq
  by_cases h : fnan x <;> simp [h]
theorem frg_lt (x : Nat) : frg x < 9223372036854775808 := by unfold frg; omega
theorem fclass (x : Nat) : (fnan x ∧ fky x = 18446744073709551616 ∧ frank x = 6) ∨
    (¬ fnan x ∧ fky x = (frg x : Int) ∧ fsk x = (frg x : Int) ∧ (frg x = 0 ∧ frank x = 3 ∨ frg x = 9218868437227405312 ∧ frank x = 5 ∨ 0 < frg x ∧ frg x < 9218868437227405312 ∧ frank x = 4)) ∨
    (¬ fnan x ∧ fky x = -(frg x : Int) - 1 ∧ fsk x = -(frg x : Int) ∧ (frg x = 0 ∧ frank x = 2 ∨ frg x = 9218868437227405312 ∧ frank x = 0 ∨ 0 < frg x ∧ frg x < 9218868437227405312 ∧ frank x = 1)) := by
  unfold fky frank fsk
  by_cases h : fnan x
  · exact Or.inl ⟨h, by rw [if_pos h], by rw [if_pos h]⟩
  · have h' : frg x ≤ 9218868437227405312 := by unfold fnan at h; omega
    simp only [h, if_false]
    by_cases h0 : frg x = 0
    · cases fsg x <;> simp [h0]
    · by_cases h1 : frg x = 9218868437227405312
      · cases fsg x <;> simp [h1]
      · have : frg x < 9218868437227405312 := by omega
        have h2 : 0 < frg x := by omega
        cases fsg x <;> simp [h0, h1, this, h2]
theorem flt_iff (a b : Nat) : flt a b = true ↔ (¬ fnan a ∧ ¬ fnan b ∧ fsk a < fsk b) := by unfold flt; exact decide_eq_true_iff
theorem fky_rank (a b : Nat) : fky a < fky b ↔ (frank a < frank b ∨ (frank a = frank b ∧ flt a b = true)) := by
  rw [flt_iff]
  have ha := frg_lt a
  have hb := frg_lt b
  rcases fclass a with ⟨na, ka, ra⟩ | ⟨na, ka, sa, ra⟩ | ⟨na, ka, sa, ra⟩ <;> rcases fclass b with ⟨nb, kb, rb⟩ | ⟨nb, kb, sb, rb⟩ | ⟨nb, kb, sb, rb⟩ <;>
    simp only [na, nb, not_true_eq_false, not_false_eq_true, true_and, false_and, and_false, or_false] <;> omega
theorem fordP_ref (a b : Nat) : fordP a b = if (decide (frank a < frank b) || (decide (frank a = frank b) && flt a b)) = true then -1 else if (decide (frank b < frank a) || (decide (frank a = frank b) && flt b a)) = true then 1 else 0 := by
  unfold fordP
  have h1 := fky_rank a b
  have h2 := fky_rank b a
  have e1 : (decide (frank a < frank b) || (decide (frank a = frank b) && flt a b)) = true ↔ fky a < fky b := by
    rw [h1]; simp only [Bool.or_eq_true, Bool.and_eq_true, decide_eq_true_eq]
  have e2 : (decide (frank b < frank a) || (decide (frank a = frank b) && flt b a)) = true ↔ fky b < fky a := by
    rw [h2]; simp only [Bool.or_eq_true, Bool.and_eq_true, decide_eq_true_eq, @eq_comm Int (frank a) (frank b)]
  simp only [e1, e2]
theorem fordP_anti (a b : Nat) : fordP a b = -fordP b a := by unfold fordP; (repeat' split) <;> omega
theorem fordP_trans {a b c : Nat} (h1 : fordP a b ≤ 0) (h2 : fordP b c ≤ 0) : fordP a c ≤ 0 := by
  unfold fordP at *
  (repeat' split at h1) <;> (repeat' split at h2) <;> (repeat' split) <;> omega
theorem fordP_lt {a b : Nat} (h : flt a b = true) : fordP a b < 0 := by
  have : fky a < fky b := by
    unfold flt fsk at h
    unfold fky
    simp only [decide_eq_true_eq] at h
    obtain ⟨h1, h2, h3⟩ := h
    rw [if_neg h1, if_neg h2]
    revert h3
    cases fsg a <;> cases fsg b <;> simp only [if_true, if_false, Bool.false_eq_true] <;> omega
  unfold fordP
  rw [if_pos this]; decide
theorem fordP_self (a : Nat) : fordP a a = 0 := by unfold fordP; simp
theorem fordP_nans {a b : Nat} (ha : fnan a) (hb : fnan b) : fordP a b = 0 := by unfold fordP fky; simp [ha, hb]

/-- words of a sign and a rung -/
theorem fword_rg (s : Bool) {r : Nat} (h : r < 9223372036854775808) : frg (double.word s r) = r ∧ fsg (double.word s r) = s := by
  unfold Format.word
  rw [sw63]
  cases s
  · simp only [Bool.false_eq_true, if_false]
    refine ⟨by unfold frg; omega, ?_⟩
    unfold fsg
    have : r / 9223372036854775808 % 2 = 0 := by omega
    rw [this]; rfl
  · simp only [if_true]
    refine ⟨by unfold frg; omega, ?_⟩
    unfold fsg
    have : (9223372036854775808 + r) / 9223372036854775808 % 2 = 1 := by omega
    rw [this]; rfl

/-- rounded to the nearest whole, ties to even -/
def rne (N D : Nat) : Nat := N / D + (decide (D < 2 * (N % D)) || (D == 2 * (N % D) && N / D % 2 == 1)).toNat
theorem rne_le (N D : Nat) : rne N D ≤ N / D + 1 := by unfold rne; have := Bool.toNat_le (decide (D < 2 * (N % D)) || (D == 2 * (N % D) && N / D % 2 == 1)); omega
theorem rne_ge (N D : Nat) : N / D ≤ rne N D := by unfold rne; omega
theorem cut_rne (neg : Bool) (n d : Nat) (h : d ≤ n.log2 + 2) : Toward.even.cut neg n d = rne n (2 ^ d) := by
  unfold Toward.cut rne
  rw [Nat.min_eq_left h, Nat.shiftLeft_eq, Nat.one_mul]
theorem rne_one (n : Nat) : rne n 1 = n := by unfold rne; simp [Nat.mod_one]

theorem rne_top (mag : Nat) (hL : 52 ≤ mag.log2) : rne mag (2 ^ (mag.log2 - 52)) ≤ 9007199254740992 := by
  have h1 := rne_le mag (2 ^ (mag.log2 - 52))
  have h2 : mag / 2 ^ (mag.log2 - 52) < 9007199254740992 := by
    rw [Nat.div_lt_iff_lt_mul (Nat.two_pow_pos _)]
    have h3 : mag < 2 ^ (mag.log2 + 1) := Nat.lt_log2_self
    have h4 : (9007199254740992 : Nat) * 2 ^ (mag.log2 - 52) = 2 ^ (mag.log2 + 1) := by
      rw [show (9007199254740992 : Nat) = 2 ^ 53 by decide, ← Nat.pow_add]; congr 1; omega
    rw [h4]; exact h3
  omega
/-- 'nearest', the last place kept at hand -/
theorem near_any (neg : Bool) (mag : Nat) (place : Int) (u : Nat) (h0 : mag ≠ 0) (hu : max (place + (mag.log2 : Int) - 52) (-1074) = -1074 + (u : Int)) (hd : (-1074 + (u : Int) - place).toNat ≤ (mag <<< (place - (-1074 + (u : Int))).toNat).log2 + 2) :
    double.nearest neg mag place = double.word neg (min (u * 4503599627370496 + rne (mag <<< (place - (-1074 + (u : Int))).toNat) (2 ^ (-1074 + (u : Int) - place).toNat)) 9218868437227405312) := by
  have e1 : (double.fractionBits : Int) = 52 := rfl
  have hlast : max (place + (mag.log2 : Int) - (double.fractionBits : Int)) double.leastPlace = -1074 + (u : Int) := by rw [lp74, e1, hu]
  unfold Format.nearest
  rw [if_neg h0]
  dsimp only
  rw [hlast, lp74, bin52, inf47]
  have e4 : (-1074 + (u : Int) - -1074).toNat = u := by omega
  rw [e4, cut_rne _ _ _ hd]
theorem near_wide (neg : Bool) (mag : Nat) (place : Int) (u : Nat) (h0 : mag ≠ 0) (hL : 52 ≤ mag.log2) (hu : place + (mag.log2 : Int) - 52 = -1074 + (u : Int)) :
    double.nearest neg mag place = double.word neg (min (u * 4503599627370496 + rne mag (2 ^ (mag.log2 - 52))) 9218868437227405312) := by
  have e2 : (place - (-1074 + (u : Int))).toNat = 0 := by omega
  have e3 : (-1074 + (u : Int) - place).toNat = mag.log2 - 52 := by omega
  rw [near_any neg mag place u h0 (by omega) (by rw [e2, e3, Nat.shiftLeft_zero]; omega), e2, e3, Nat.shiftLeft_zero]
theorem near_small (neg : Bool) (mag : Nat) (place : Int) (u : Nat) (h0 : mag ≠ 0) (hL : mag.log2 < 52) (hu : place + (mag.log2 : Int) - 52 = -1074 + (u : Int)) (hmax : u ≤ 2043) :
    double.nearest neg mag place = double.word neg (u * 4503599627370496 + mag * 2 ^ (52 - mag.log2)) := by
  have e1 : (double.fractionBits : Int) = 52 := rfl
  have hlast : max (place + (mag.log2 : Int) - (double.fractionBits : Int)) double.leastPlace = -1074 + (u : Int) := by rw [lp74, e1, hu]; omega
  have hk : mag * 2 ^ (52 - mag.log2) < 9007199254740992 := by
    have h3 : mag < 2 ^ (mag.log2 + 1) := Nat.lt_log2_self
    have h4 : (9007199254740992 : Nat) = 2 ^ (mag.log2 + 1) * 2 ^ (52 - mag.log2) := by
      rw [show (9007199254740992 : Nat) = 2 ^ 53 by decide, ← Nat.pow_add]; congr 1; omega
    rw [h4]
    exact Nat.mul_lt_mul_of_pos_right h3 (Nat.two_pow_pos _)
  unfold Format.nearest
  rw [if_neg h0]
  dsimp only
  rw [hlast, lp74, bin52, inf47]
  have e2 : (place - (-1074 + (u : Int))).toNat = 52 - mag.log2 := by omega
  have e3 : (-1074 + (u : Int) - place).toNat = 0 := by omega
  have e4 : (-1074 + (u : Int) - -1074).toNat = u := by omega
  rw [e2, e3, e4, cut_rne _ _ _ (by omega), Nat.pow_zero, rne_one, Nat.shiftLeft_eq, Nat.min_eq_left]
  omega
end Go.Proofs.Ytfnhhkbjbjlckaa
