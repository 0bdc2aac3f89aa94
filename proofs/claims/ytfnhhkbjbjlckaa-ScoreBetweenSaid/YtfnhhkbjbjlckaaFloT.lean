/- float64 on plain numbers: how shares of whole numbers stand to each other, to nought and to one. -/
import Derived.Test.YtfnhhkbjbjlckaaFloS
namespace Go.Proofs.Ytfnhhkbjbjlckaa
set_option linter.unusedVariables false
open Ieee

def fsh (a b : Nat) : Nat := (double.div (fi (a : Int)) (fi (b : Int))).getD 0
theorem fdiv_0 {b : Nat} (hb1 : 1 ≤ b) (hb : b ≤ 1073741824) : double.div (fi ((0 : Nat) : Int)) (fi (b : Int)) = some 0 := by
  obtain ⟨lb, B1, B2, rb⟩ := fi_small (a := b) (by omega) hb
  have h0 : fi ((0 : Nat) : Int) = 0 := fi_zero
  have hq : Datum.quotient (double.fractionBits + 2) (.number false 0 (-1074)) (.number false (b * 2 ^ (52 - b.log2)) ((b.log2 : Int) - 52)) = some (.number false 0 (-1074 - ((b.log2 : Int) - 52) - ((double.fractionBits + 2 + (b * 2 ^ (52 - b.log2)).log2 - Nat.log2 0 : Nat) : Int) - 1)) := by
    unfold Datum.quotient
    simp only [Nat.shiftLeft_eq, Nat.zero_mul, Nat.zero_div, Nat.zero_mod]
    rw [if_neg (by omega)]
    rfl
  unfold Format.div
  rw [h0, read_zero, rb, hq]
  show some (double.nearest false 0 _) = _
  unfold Format.nearest
  rw [if_pos rfl]
  rfl
theorem fsh_some {a b : Nat} (hab : a ≤ b) (hb1 : 1 ≤ b) (hb : b ≤ 1073741824) : double.div (fi (a : Int)) (fi (b : Int)) = some (fsh a b) := by
  unfold fsh
  by_cases h : a = 0
  · subst h; rw [fdiv_0 hb1 hb]; rfl
  · obtain ⟨S, _, _, _, _, e⟩ := fdiv_frac (a := a) (by omega) hab hb
    rw [e]; rfl
theorem fsh_zero {b : Nat} (hb1 : 1 ≤ b) (hb : b ≤ 1073741824) : fsh 0 b = 0 := by unfold fsh; rw [fdiv_0 hb1 hb]; rfl
theorem fsh_frac {a b : Nat} (ha : 1 ≤ a) (hab : a ≤ b) (hb : b ≤ 1073741824) : ∃ S, 52 ≤ S ∧ S ≤ 82 ∧ 4503599627370496 * b ≤ a * 2 ^ S ∧ a * 2 ^ S < 9007199254740992 * b ∧ fsh a b = (1074 - S) * 4503599627370496 + rne (a * 2 ^ S) b ∧ 4503599627370496 ≤ rne (a * 2 ^ S) b ∧ rne (a * 2 ^ S) b ≤ 9007199254740992 := by
  obtain ⟨S, h1, h2, h3, h4, e⟩ := fdiv_frac ha hab hb
  have hbp : 0 < b := by omega
  refine ⟨S, h1, h2, h3, h4, by unfold fsh; rw [e]; rfl, Nat.le_trans ?_ (rne_ge _ _), Nat.le_trans (rne_le _ _) ?_⟩
  · rw [Nat.le_div_iff_mul_le hbp]; omega
  · have : a * 2 ^ S / b < 9007199254740992 := by rw [Nat.div_lt_iff_lt_mul hbp]; omega
    omega
theorem fsh_le {a b : Nat} (hab : a ≤ b) (hb1 : 1 ≤ b) (hb : b ≤ 1073741824) : fsh a b ≤ 4607182418800017408 ∧ (fsh a b = 4607182418800017408 ↔ a = b) ∧ (fsh a b = 0 ↔ a = 0) := by
  by_cases h : a = 0
  · subst h; rw [fsh_zero hb1 hb]; omega
  · obtain ⟨S, h1, h2, h3, h4, e, k1, k2⟩ := fsh_frac (a := a) (by omega) hab hb
    have hbp : 0 < b := by omega
    by_cases hab2 : a = b
    · subst hab2
      have hS : S = 52 := by
        rcases Nat.lt_or_ge 52 S with h5 | h5
        · exfalso
          have h6 : 9007199254740992 ≤ 2 ^ S := by rw [show (9007199254740992 : Nat) = 2 ^ 53 by decide]; exact Nat.pow_le_pow_right (by decide) h5
          have h7 : a * 9007199254740992 ≤ a * 2 ^ S := Nat.mul_le_mul_left a h6
          omega
        · omega
      subst hS
      have hr : rne (a * 2 ^ 52) a = 4503599627370496 := by rw [Nat.mul_comm, rne_mul _ _ hbp]
      rw [hr] at e
      omega
    · have hlt : a + 1 ≤ b := by omega
      have hS : S ≠ 52 := by
        intro h5
        subst h5
        rw [show (2 : Nat) ^ 52 = 4503599627370496 by decide] at h3
        omega
      have hlt1 : fsh a b < 4607182418800017408 := by
        by_cases h53 : S = 53
        · subst h53
          have hk : a * 2 ^ 53 / b < 9007199254740991 := by
            rw [Nat.div_lt_iff_lt_mul hbp, show (2 : Nat) ^ 53 = 9007199254740992 by decide]
            omega
          have := rne_le (a * 2 ^ 53) b
          omega
        · omega
      omega
theorem fsh_mono {a b c d : Nat} (hab : a ≤ b) (hb1 : 1 ≤ b) (hb : b ≤ 1073741824) (hcd : c ≤ d) (hd1 : 1 ≤ d) (hd : d ≤ 1073741824) (h : a * d ≤ c * b) : fsh a b ≤ fsh c d := by
  by_cases h0 : a = 0
  · subst h0; rw [fsh_zero hb1 hb]; exact Nat.zero_le _
  · have hc : 1 ≤ c := by
      rcases Nat.eq_zero_or_pos c with h1 | h1
      · exfalso; subst h1
        have : 1 * 1 ≤ a * d := Nat.mul_le_mul (by omega) hd1
        omega
      · exact h1
    obtain ⟨S, h1, h2, h3, h4, e, k1, k2⟩ := fsh_frac (a := a) (by omega) hab hb
    obtain ⟨T, g1, g2, g3, g4, e2, l1, l2⟩ := fsh_frac hc hcd hd
    rcases Nat.lt_trichotomy S T with hST | hST | hST
    · exfalso
      -- a/b ≥ 2^(52-S) ≥ 2^(53-T) > c/d
      have x1 : 4503599627370496 * b * (d * 2 ^ T) ≤ a * 2 ^ S * (d * 2 ^ T) := Nat.mul_le_mul_right _ h3
      have x2 : c * 2 ^ T * (b * 2 ^ S) < 9007199254740992 * d * (b * 2 ^ S) := Nat.mul_lt_mul_of_pos_right g4 (Nat.mul_pos (by omega) (Nat.two_pow_pos _))
      have x3 : a * d * (2 ^ S * 2 ^ T) ≤ c * b * (2 ^ S * 2 ^ T) := Nat.mul_le_mul_right _ h
      have y1 : a * 2 ^ S * (d * 2 ^ T) = a * d * (2 ^ S * 2 ^ T) := by ac_rfl
      have y2 : c * 2 ^ T * (b * 2 ^ S) = c * b * (2 ^ S * 2 ^ T) := by ac_rfl
      have y3 : 4503599627370496 * b * (d * 2 ^ T) = 4503599627370496 * (b * d * 2 ^ T) := by ac_rfl
      have y4 : 9007199254740992 * d * (b * 2 ^ S) = 4503599627370496 * (b * d * (2 ^ S * 2)) := by rw [show (9007199254740992 : Nat) = 4503599627370496 * 2 by decide]; ac_rfl
      have y5 : 2 ^ S * 2 ≤ 2 ^ T := by rw [← Nat.pow_succ]; exact Nat.pow_le_pow_right (by decide) hST
      have y6 : b * d * (2 ^ S * 2) ≤ b * d * 2 ^ T := Nat.mul_le_mul_left _ y5
      omega
    · subst hST
      have hm := rne_mono (a := a * 2 ^ S) (b := b) (c := c * 2 ^ S) (d := d) (by omega) (by omega) (by
        have x3 : a * d * 2 ^ S ≤ c * b * 2 ^ S := Nat.mul_le_mul_right _ h
        have y1 : a * 2 ^ S * d = a * d * 2 ^ S := by ac_rfl
        have y2 : c * 2 ^ S * b = c * b * 2 ^ S := by ac_rfl
        omega)
      omega
    · omega

/-- a share as a word: a number, not below nought -/
theorem fsh_word {a b : Nat} (hab : a ≤ b) (hb1 : 1 ≤ b) (hb : b ≤ 1073741824) : ¬ fnan (fsh a b) ∧ fsk (fsh a b) = (fsh a b : Int) := by
  have h := (fsh_le hab hb1 hb).1
  have h1 : frg (fsh a b) = fsh a b := by unfold frg; omega
  have h2 : fsg (fsh a b) = false := by
    unfold fsg
    have : fsh a b / 9223372036854775808 % 2 = 0 := by omega
    rw [this]; rfl
  refine ⟨by unfold fnan; rw [h1]; omega, by unfold fsk; rw [h1, h2]; rfl⟩
end Go.Proofs.Ytfnhhkbjbjlckaa
