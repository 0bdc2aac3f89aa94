/- Plain mathematics of package fixed. -/
namespace Go.Proofs.Ytfpelocemceffaa
set_option linter.unusedVariables false

/-- The number in the first s of some bytes, the least significant one first. -/
def leN (zs : List Int) (a : Nat) : Nat → Int
  | 0 => 0
  | s + 1 => leN zs a s + zs.getD (a + s) 0 * 256 ^ s

theorem leN_bd (zs : List Int) (hw : ∀ j, 0 ≤ zs.getD j 0 ∧ zs.getD j 0 < 256) (a : Nat) : ∀ s, 0 ≤ leN zs a s ∧ leN zs a s < 256 ^ s
  | 0 => by simp [leN]
  | s + 1 => by
    have h := leN_bd zs hw a s
    have g := hw (a + s)
    have hp : (0 : Int) < 256 ^ s := by exact Int.pow_pos (by omega)
    have h1 : 0 ≤ zs.getD (a + s) 0 * 256 ^ s := Int.mul_nonneg g.1 (Int.le_of_lt hp)
    have h2 : zs.getD (a + s) 0 * 256 ^ s ≤ 255 * 256 ^ s := Int.mul_le_mul_of_nonneg_right (by omega) (Int.le_of_lt hp)
    rw [leN, Int.pow_succ]
    omega

/-- The same from the other end: what stands from place s on. -/
def beN (zs : List Int) (a s : Nat) : Nat → Int
  | 0 => 0
  | k + 1 => beN zs a s k * 256 + zs.getD (a + (s - 1 - k)) 0

theorem leN_split (zs : List Int) (a s : Nat) : ∀ k, k ≤ s → leN zs a s = leN zs a (s - k) + beN zs a s k * 256 ^ (s - k)
  | 0, _ => by simp [beN]
  | k + 1, h => by
    have ih := leN_split zs a s k (by omega)
    have e : s - k = (s - (k + 1)) + 1 := by omega
    rw [ih, e, leN, beN, Int.pow_succ]
    have e2 : s - 1 - k = s - (k + 1) := by omega
    rw [e2, Int.add_mul]
    have e3 : beN zs a s k * 256 * 256 ^ (s - (k + 1)) = beN zs a s k * (256 ^ (s - (k + 1)) * 256) := by rw [Int.mul_assoc, Int.mul_comm 256]
    omega

theorem beN_le (zs : List Int) (a s : Nat) : beN zs a s s = leN zs a s := by
  have h := leN_split zs a s s (Nat.le_refl _)
  simp [leN] at h
  exact h.symm

theorem beN_bd (zs : List Int) (hw : ∀ j, 0 ≤ zs.getD j 0 ∧ zs.getD j 0 < 256) (a s : Nat) : ∀ k, 0 ≤ beN zs a s k ∧ beN zs a s k < 256 ^ k
  | 0 => by simp [beN]
  | k + 1 => by
    have h := beN_bd zs hw a s k
    have g := hw (a + (s - 1 - k))
    rw [beN, Int.pow_succ]
    omega
end Go.Proofs.Ytfpelocemceffaa
