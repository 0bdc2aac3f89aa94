/- float64 on plain numbers: what words stand for, their order, rounding of quotients. -/
import Derived.Laws.Cover2
import Derived.Laws.FloatArith
import Derived.Laws.FloatBits
namespace Go.Proofs.Ytfnhhkbjbjlckaa
set_option linter.unusedVariables false
open Ieee

/-- the sign and the rung of a word -/
def fsg (x : Nat) : Bool := x / 9223372036854775808 % 2 == 1
def frg (x : Nat) : Nat := x % 9223372036854775808
/-- no number -/
def fnan (x : Nat) : Prop := 9218868437227405312 < frg x
instance (x : Nat) : Decidable (fnan x) := by unfold fnan; infer_instance
/-- the signed rung -/
def fsk (x : Nat) : Int := if fsg x then -(frg x : Int) else frg x
/-- a rung's magnitude, in units of the least -/
def fmg (r : Nat) : Nat := if r < 4503599627370496 then r else (4503599627370496 + r % 4503599627370496) * 2 ^ (r / 4503599627370496 - 1)

theorem fmg_lt_succ (r : Nat) : fmg r < fmg (r + 1) := by
  unfold fmg
  by_cases h1 : r + 1 < 4503599627370496
  · rw [if_pos (by omega), if_pos h1]; omega
  · by_cases h2 : r < 4503599627370496
    · obtain rfl : r = 4503599627370495 := by omega
      decide
    · rw [if_neg h2, if_neg h1]
      by_cases h3 : (r + 1) % 4503599627370496 = 0
      · have e1 : r % 4503599627370496 = 4503599627370495 := by omega
        have e2 : (r + 1) / 4503599627370496 - 1 = (r / 4503599627370496 - 1) + 1 := by omega
        rw [h3, e1, e2, Nat.pow_succ]
        have := Nat.two_pow_pos (r / 4503599627370496 - 1)
        omega
      · have e1 : (r + 1) % 4503599627370496 = r % 4503599627370496 + 1 := by omega
        have e2 : (r + 1) / 4503599627370496 = r / 4503599627370496 := by omega
        rw [e1, e2]
        exact Nat.mul_lt_mul_of_pos_right (by omega) (Nat.two_pow_pos _)
theorem fmg_lt {r s : Nat} (h : r < s) : fmg r < fmg s := by
  induction s with
  | zero => omega
  | succ s ih =>
    by_cases e : r = s
    · rw [e]; exact fmg_lt_succ s
    · exact Nat.lt_trans (ih (by omega)) (fmg_lt_succ s)
theorem fmg_lt_iff {r s : Nat} : fmg r < fmg s ↔ r < s := by
  constructor
  · intro h
    rcases Nat.lt_trichotomy r s with h1 | h1 | h1
    · exact h1
    · rw [h1] at h; omega
    · have := fmg_lt h1; omega
  · exact fmg_lt
theorem fmg_inj {r s : Nat} : fmg r = fmg s ↔ r = s := by
  constructor
  · intro h
    rcases Nat.lt_trichotomy r s with h1 | h1 | h1
    · have := fmg_lt h1; omega
    · exact h1
    · have := fmg_lt h1; omega
  · intro h; rw [h]
theorem fmg_zero : fmg 0 = 0 := by decide

theorem fdouble : FloatKind.f64.format = double := rfl
theorem sw63 : double.signWeight = 9223372036854775808 := by decide
theorem bin52 : double.binade = 4503599627370496 := by decide
theorem inf47 : double.infRung = 9218868437227405312 := by decide
theorem lp74 : double.leastPlace = -1074 := by decide

/-- what a word stands for -/
theorem fread (x : Nat) : double.read x = if frg x < 4503599627370496 then .number (fsg x) (frg x) (-1074) else if frg x < 9218868437227405312 then .number (fsg x) (4503599627370496 + frg x % 4503599627370496) (-1074 + (frg x / 4503599627370496 - 1 : Nat)) else if frg x = 9218868437227405312 then .infinity (fsg x) else .nan (fsg x) (frg x - 9218868437227405312) := by
  unfold Format.read
  rw [sw63, bin52, inf47, lp74]
  rfl
/-- a finite one: its magnitude and its place -/
theorem fread_fin {x : Nat} (h : frg x < 9218868437227405312) : ∃ m a : Nat, double.read x = .number (fsg x) m (-1074 + (a : Int)) ∧ m * 2 ^ a = fmg (frg x) ∧ (m = 0 ↔ frg x = 0) := by
  rw [fread]
  by_cases h1 : frg x < 4503599627370496
  · refine ⟨frg x, 0, by rw [if_pos h1]; rfl, by rw [fmg, if_pos h1]; omega, Iff.rfl⟩
  · refine ⟨4503599627370496 + frg x % 4503599627370496, frg x / 4503599627370496 - 1, by rw [if_neg h1, if_pos h], by rw [fmg, if_neg h1], by omega⟩
theorem fread_inf {x : Nat} (h : frg x = 9218868437227405312) : double.read x = .infinity (fsg x) := by
  rw [fread, if_neg (by omega), if_neg (by omega), if_pos h]
theorem fread_nan {x : Nat} (h : fnan x) : ∃ f, double.read x = .nan (fsg x) f := by
  unfold fnan at h
  exact ⟨_, by rw [fread, if_neg (by omega), if_neg (by omega), if_neg (by omega)]⟩

theorem signed_eq (s : Bool) (m u : Nat) : signed s m u = if s then -((m * 2 ^ u : Nat) : Int) else ((m * 2 ^ u : Nat) : Int) := by
  unfold signed
  rw [Nat.shiftLeft_eq]
theorem cmp_scale (a b : Int) (c : Nat) (hc : 0 < c) : compare (a * c) (b * c) = compare a b := by
  have hc' : (0 : Int) < (c : Int) := by omega
  have h1 : a * c < b * c ↔ a < b := Int.mul_lt_mul_right hc'
  have h2 : a * c = b * c ↔ a = b := ⟨fun h => Int.eq_of_mul_eq_mul_right (by omega) h, fun h => by rw [h]⟩
  show compareOfLessAndEq _ _ = compareOfLessAndEq _ _
  unfold compareOfLessAndEq
  simp only [h1, h2]
theorem cmp_congr {a b c d : Int} (h1 : a < b ↔ c < d) (h2 : a = b ↔ c = d) : compare a b = compare c d := by
  show compareOfLessAndEq _ _ = compareOfLessAndEq _ _
  unfold compareOfLessAndEq
  simp only [h1, h2]
theorem sg_neg_mul (s : Bool) (m c : Nat) : (if s then -((m * c : Nat) : Int) else ((m * c : Nat) : Int)) = (if s then -(m : Int) else (m : Int)) * (c : Int) := by
  cases s
  · simp
  · simp [Int.neg_mul]

/-- the order of two words that are numbers: that of their signed rungs -/
theorem forder {x y : Nat} (hx : ¬ fnan x) (hy : ¬ fnan y) : double.order x y = some (compare (fsk x) (fsk y)) := by
  unfold fnan at hx hy
  unfold Format.order
  by_cases h1 : frg x = 9218868437227405312
  · rw [fread_inf h1]
    by_cases h2 : frg y = 9218868437227405312
    · rw [fread_inf h2]
      simp only [Datum.order, fsk, h1, h2]
      cases fsg x <;> cases fsg y <;> rfl
    · obtain ⟨m, a, e, _, _⟩ := fread_fin (x := y) (by omega)
      rw [e]
      simp only [Datum.order, fsk, h1]
      have hlt : frg y < 9218868437227405312 := by omega
      congr 1
      cases fsg x <;> cases fsg y <;> simp only [if_true, if_false, Bool.false_eq_true] <;> (show _ = compareOfLessAndEq _ _; unfold compareOfLessAndEq) <;> (first | (rw [if_pos (by omega)]; done) | (rw [if_neg (by omega), if_neg (by omega)]; done))
  · obtain ⟨m, a, e, hm, _⟩ := fread_fin (x := x) (by omega)
    have hltx : frg x < 9218868437227405312 := by omega
    rw [e]
    by_cases h2 : frg y = 9218868437227405312
    · rw [fread_inf h2]
      simp only [Datum.order, fsk, h2]
      congr 1
      cases fsg x <;> cases fsg y <;> simp only [if_true, if_false, Bool.false_eq_true] <;> (show _ = compareOfLessAndEq _ _; unfold compareOfLessAndEq) <;> (first | (rw [if_pos (by omega)]; done) | (rw [if_neg (by omega), if_neg (by omega)]; done))
    · obtain ⟨n, b, e2, hn, _⟩ := fread_fin (x := y) (by omega)
      rw [e2]
      simp only [Datum.order]
      congr 1
      have ea : (-1074 + (a : Int) - min (-1074 + (a : Int)) (-1074 + (b : Int))).toNat = a - min a b := by omega
      have eb : (-1074 + (b : Int) - min (-1074 + (a : Int)) (-1074 + (b : Int))).toNat = b - min a b := by omega
      rw [ea, eb, signed_eq, signed_eq, ← cmp_scale _ _ (2 ^ min a b) (Nat.two_pow_pos _), ← sg_neg_mul, ← sg_neg_mul]
      have e3 : m * 2 ^ (a - min a b) * 2 ^ min a b = fmg (frg x) := by rw [Nat.mul_assoc, ← Nat.pow_add, show a - min a b + min a b = a by omega, hm]
      have e4 : n * 2 ^ (b - min a b) * 2 ^ min a b = fmg (frg y) := by rw [Nat.mul_assoc, ← Nat.pow_add, show b - min a b + min a b = b by omega, hn]
      rw [e3, e4]
      have l1 := @fmg_lt_iff (frg x) (frg y)
      have l2 := @fmg_lt_iff (frg y) (frg x)
      have l3 := @fmg_inj (frg x) (frg y)
      have l4 := @fmg_inj (frg x) 0
      have l5 := @fmg_inj (frg y) 0
      rw [fmg_zero] at l4 l5
      unfold fsk
      cases fsg x <;> cases fsg y <;> simp only [if_true, if_false, Bool.false_eq_true] <;> apply cmp_congr <;> omega
theorem forder_nan {x y : Nat} (h : fnan x ∨ fnan y) : double.order x y = none := by
  unfold Format.order
  rcases h with h | h
  · obtain ⟨f, e⟩ := fread_nan h
    rw [e]; simp only [Datum.order]
  · obtain ⟨f, e⟩ := fread_nan h
    rw [e]
    cases double.read x <;> simp only [Datum.order]
end Go.Proofs.Ytfnhhkbjbjlckaa
