/- Plain mathematics of package fixed; Plain mathematics of package fixed: numbers put and taken -/

set_option linter.unusedSimpArgs false
set_option linter.unusedVariables false
namespace Go.Proofs.Ytjdigncieoaglaa
set_option linter.unusedVariables false

/-- The number in the first s of some bytes, the least significant one first. -/
def leN (zs : List Int) (a : Nat) : Nat → Int
  | 0 => 0
  | s + 1 => leN zs a s + zs.getD (a + s) 0 * 256 ^ s

theorem leN_bd (zs : List Int) (hw : ∀ j, 0 ≤ zs.getD j 0 ∧ zs.getD j 0 < 256) (a : Nat) : ∀ s, 0 ≤ leN zs a s ∧ leN zs a s < 256 ^ s
  | 0 => by simp [leN]
  | s + 1 => by
    have h := leN_bd zs hw a s
    have g := hw (a + s)
    have hp : (0 : Int) < 256 ^ s := by exact Int.pow_pos (by omega)
    have h1 : 0 ≤ zs.getD (a + s) 0 * 256 ^ s := Int.mul_nonneg g.1 (Int.le_of_lt hp)
    have h2 : zs.getD (a + s) 0 * 256 ^ s ≤ 255 * 256 ^ s := Int.mul_le_mul_of_nonneg_right (by omega) (Int.le_of_lt hp)
    rw [leN, Int.pow_succ]
    omega

/-- The same from the other end: what stands from place s on. -/
def beN (zs : List Int) (a s : Nat) : Nat → Int
  | 0 => 0
  | k + 1 => beN zs a s k * 256 + zs.getD (a + (s - 1 - k)) 0

theorem leN_split (zs : List Int) (a s : Nat) : ∀ k, k ≤ s → leN zs a s = leN zs a (s - k) + beN zs a s k * 256 ^ (s - k)
  | 0, _ => by simp [beN]
  | k + 1, h => by
    have ih := leN_split zs a s k (by omega)
    have e : s - k = (s - (k + 1)) + 1 := by omega
    rw [ih, e, leN, beN, Int.pow_succ]
    have e2 : s - 1 - k = s - (k + 1) := by omega
    rw [e2, Int.add_mul]
    have e3 : beN zs a s k * 256 * 256 ^ (s - (k + 1)) = beN zs a s k * (256 ^ (s - (k + 1)) * 256) := by rw [Int.mul_assoc, Int.mul_comm 256]
    omega

theorem beN_le (zs : List Int) (a s : Nat) : beN zs a s s = leN zs a s := by
  have h := leN_split zs a s s (Nat.le_refl _)
  simp [leN] at h
  exact h.symm

theorem beN_bd (zs : List Int) (hw : ∀ j, 0 ≤ zs.getD j 0 ∧ zs.getD j 0 < 256) (a s : Nat) : ∀ k, 0 ≤ beN zs a s k ∧ beN zs a s k < 256 ^ k
  | 0 => by simp [beN]
  | k + 1 => by
    have h := beN_bd zs hw a s k
    have g := hw (a + (s - 1 - k))
    rw [beN, Int.pow_succ]
    omega
end Go.Proofs.Ytjdigncieoaglaa

namespace Go.Proofs.Ytjdigncieoaglaa
set_option linter.unusedVariables false

/-- The first s bytes of a number, the least significant one first. -/
def putN (n : Int) : Nat → List Int
  | 0 => []
  | s + 1 => putN n s ++ [n / 256 ^ s % 256]

theorem putN_length (n : Int) : ∀ s, (putN n s).length = s
  | 0 => rfl
  | s + 1 => by simp [putN, putN_length n s]

theorem getD_append_left {xs ys : List Int} {j : Nat} (h : j < xs.length) : (xs ++ ys).getD j 0 = xs.getD j 0 := by
  simp only [List.getD_eq_getElem?_getD, List.getElem?_append, if_pos h]
theorem getD_append_right {xs ys : List Int} {j : Nat} : (xs ++ ys).getD (xs.length + j) 0 = ys.getD j 0 := by
  rw [List.getD_eq_getElem?_getD, List.getElem?_append_right (by omega), Nat.add_sub_cancel_left, List.getD_eq_getElem?_getD]

theorem leN_shift (zs ys : List Int) : ∀ s, leN (zs ++ ys) zs.length s = leN ys 0 s
  | 0 => rfl
  | s + 1 => by rw [leN, leN, leN_shift zs ys s, getD_append_right, Nat.zero_add]

theorem putN_getD (n : Int) : ∀ s j, j < s → (putN n s).getD j 0 = n / 256 ^ j % 256
  | 0, j, h => by omega
  | s + 1, j, h => by
    rw [putN]
    by_cases hj : j < s
    · rw [getD_append_left (by rw [putN_length]; exact hj), putN_getD n s j hj]
    · obtain rfl : j = s := by omega
      have := getD_append_right (xs := putN n j) (ys := [n / 256 ^ j % 256]) (j := 0)
      rw [putN_length, Nat.add_zero] at this
      rw [this]; rfl

theorem leN_putN (n : Int) (hn : 0 ≤ n) (rest : List Int) (m : Nat) : ∀ s, s ≤ m → leN (putN n m ++ rest) 0 s = n % 256 ^ s
  | 0, _ => by simp [leN]
  | s + 1, h => by
    rw [leN, leN_putN n hn rest m s (by omega), Nat.zero_add, getD_append_left (by rw [putN_length]; omega), putN_getD n m s (by omega), Int.pow_succ]
    have hp : (0 : Int) < 256 ^ s := Int.pow_pos (by omega)
    have h4 : n / 256 ^ s / 256 = n / (256 ^ s * 256) := Int.ediv_ediv_of_nonneg (Int.le_of_lt hp)
    rw [Int.emod_def n (256 ^ s), Int.emod_def (n / 256 ^ s) 256, Int.emod_def n (256 ^ s * 256), h4, Int.sub_mul, Int.mul_comm (n / 256 ^ s) (256 ^ s)]
    have h6 : 256 * (n / (256 ^ s * 256)) * 256 ^ s = 256 ^ s * 256 * (n / (256 ^ s * 256)) := by
      rw [Int.mul_comm (256 * _), ← Int.mul_assoc]
    omega


theorem leN_digit (zs : List Int) (hw : ∀ j, 0 ≤ zs.getD j 0 ∧ zs.getD j 0 < 256) (a : Nat) : ∀ s j, j < s → leN zs a s / 256 ^ j % 256 = zs.getD (a + j) 0
  | 0, j, h => by omega
  | s + 1, j, h => by
    have hl := leN_bd zs hw a s
    have hd := hw (a + s)
    have hp : (0 : Int) < 256 ^ j := Int.pow_pos (by omega)
    rw [leN]
    by_cases hj : j = s
    · subst hj
      rw [Int.add_mul_ediv_right _ _ (Int.ne_of_gt hp), Int.ediv_eq_zero_of_lt hl.1 hl.2]
      omega
    · obtain ⟨k, rfl⟩ : ∃ k, s = j + 1 + k := ⟨s - j - 1, by omega⟩
      have e : zs.getD (a + (j + 1 + k)) 0 * 256 ^ (j + 1 + k) = 256 * (zs.getD (a + (j + 1 + k)) 0 * 256 ^ k) * 256 ^ j := by
        have e2 : (256 : Int) ^ (j + 1 + k) = 256 ^ j * 256 * 256 ^ k := by rw [Int.pow_add, Int.pow_succ]
        rw [e2]
        generalize (256 : Int) ^ j = x
        generalize (256 : Int) ^ k = y
        generalize zs.getD (a + (j + 1 + k)) 0 = z
        rw [Int.mul_comm x 256, ← Int.mul_assoc, ← Int.mul_assoc, Int.mul_comm z, ← Int.mul_assoc, Int.mul_assoc (256 * z), Int.mul_comm x y, Int.mul_assoc (256 * z)]
      rw [e, Int.add_mul_ediv_right _ _ (Int.ne_of_gt hp), Int.add_mul_emod_self_left]
      exact leN_digit zs hw a (j + 1 + k) j (by omega)

/-- What is taken and put again is what stands there. -/
theorem putN_leN (zs : List Int) (hw : ∀ j, 0 ≤ zs.getD j 0 ∧ zs.getD j 0 < 256) (a s : Nat) (h : a + s ≤ zs.length) : putN (leN zs a s) s = (zs.drop a).take s := by
  apply List.ext_getElem
  · rw [putN_length]; simp; omega
  · intro j h1 h2
    have hj : j < s := by rw [putN_length] at h1; exact h1
    have e1 := putN_getD (leN zs a s) s j hj
    rw [leN_digit zs hw a s j hj, List.getD_eq_getElem?_getD, List.getElem?_eq_getElem h1] at e1
    simp only [Option.getD_some] at e1
    rw [e1, List.getD_eq_getElem?_getD, List.getElem?_eq_getElem (by omega)]
    simp

theorem putN_byte (n : Int) (s : Nat) : ∀ j, 0 ≤ (putN n s).getD j 0 ∧ (putN n s).getD j 0 < 256 := by
  intro j
  by_cases h : j < s
  · rw [putN_getD n s j h]; omega
  · rw [List.getD_eq_getElem?_getD, List.getElem?_eq_none (by rw [putN_length]; omega)]; simp

theorem leN_congr (xs ys : List Int) (a : Nat) : ∀ s, (∀ j, j < s → xs.getD (a + j) 0 = ys.getD (a + j) 0) → leN xs a s = leN ys a s
  | 0, _ => rfl
  | s + 1, h => by rw [leN, leN, leN_congr xs ys a s (fun j hj => h j (by omega)), h s (by omega)]
theorem leN_take (zs : List Int) (a s n : Nat) (h : a + s ≤ n) : leN (zs.take n) a s = leN zs a s := by
  apply leN_congr
  intro j hj
  simp only [List.getD_eq_getElem?_getD, List.getElem?_take, if_pos (show a + j < n by omega)]
theorem leN_app (xs ys : List Int) (a s : Nat) (h : a + s ≤ xs.length) : leN (xs ++ ys) a s = leN xs a s := by
  apply leN_congr
  intro j hj
  rw [getD_append_left (by omega)]
theorem leN_drop (zs : List Int) (d a : Nat) : ∀ s, leN (zs.drop d) a s = leN zs (d + a) s
  | 0 => rfl
  | s + 1 => by rw [leN, leN, leN_drop zs d a s]; simp [List.getD_eq_getElem?_getD, List.getElem?_drop, Nat.add_assoc]
theorem leN_shift' (xs ys : List Int) (k : Nat) (s : Nat) (hk : xs.length = k) : leN (xs ++ ys) k s = leN ys 0 s := by subst hk; exact leN_shift xs ys s
theorem leN_putN' (n : Int) (s : Nat) (rest : List Int) (h0 : 0 ≤ n) (h1 : n < 256 ^ s) : leN (putN n s ++ rest) 0 s = n := by
  rw [leN_putN n h0 rest s s (Nat.le_refl _), Int.emod_eq_of_lt h0 h1]
end Go.Proofs.Ytjdigncieoaglaa
