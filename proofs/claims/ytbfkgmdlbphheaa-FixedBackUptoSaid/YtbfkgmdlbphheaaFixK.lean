/- The statement FixedBack of layer 1, where what came in is of bulk at most 1048576: what Put and PutText wrote is what Take and TakeText read, whatever stands ahead and behind; the law returns true. -/
import Derived.Test.YtbfkgmdlbphheaaFixL
namespace Go.Proofs.Ytbfkgmdlbphheaa
set_option linter.unusedVariables false
open Go.RowKit Go.Lib Go.ChangeShapes Go.WideShapes Go.ChangeAt

theorem getD_append_left {xs ys : List Int} {j : Nat} (h : j < xs.length) : (xs ++ ys).getD j 0 = xs.getD j 0 := by
  simp only [List.getD_eq_getElem?_getD, List.getElem?_append, if_pos h]
theorem getD_append_right {xs ys : List Int} {j : Nat} : (xs ++ ys).getD (xs.length + j) 0 = ys.getD j 0 := by
  rw [List.getD_eq_getElem?_getD, List.getElem?_append_right (by omega), Nat.add_sub_cancel_left, List.getD_eq_getElem?_getD]

theorem leN_shift (zs ys : List Int) : ∀ s, leN (zs ++ ys) zs.length s = leN ys 0 s
  | 0 => rfl
  | s + 1 => by rw [leN, leN, leN_shift zs ys s, getD_append_right, Nat.zero_add]

theorem putN_getD (n : Int) : ∀ s j, j < s → (putN n s).getD j 0 = n / 256 ^ j % 256
  | 0, j, h => by omega
  | s + 1, j, h => by
    rw [putN]
    by_cases hj : j < s
    · rw [getD_append_left (by rw [putN_length]; exact hj), putN_getD n s j hj]
    · obtain rfl : j = s := by omega
      have := getD_append_right (xs := putN n j) (ys := [n / 256 ^ j % 256]) (j := 0)
      rw [putN_length, Nat.add_zero] at this
      rw [this]; rfl

theorem leN_putN (n : Int) (hn : 0 ≤ n) (rest : List Int) (m : Nat) : ∀ s, s ≤ m → leN (putN n m ++ rest) 0 s = n % 256 ^ s
  | 0, _ => by simp [leN]
  | s + 1, h => by
    rw [leN, leN_putN n hn rest m s (by omega), Nat.zero_add, getD_append_left (by rw [putN_length]; omega), putN_getD n m s (by omega), Int.pow_succ]
    have hp : (0 : Int) < 256 ^ s := Int.pow_pos (by omega)
    have h4 : n / 256 ^ s / 256 = n / (256 ^ s * 256) := Int.ediv_ediv_of_nonneg (Int.le_of_lt hp)
    rw [Int.emod_def n (256 ^ s), Int.emod_def (n / 256 ^ s) 256, Int.emod_def n (256 ^ s * 256), h4, Int.sub_mul, Int.mul_comm (n / 256 ^ s) (256 ^ s)]
    have h6 : 256 * (n / (256 ^ s * 256)) * 256 ^ s = 256 ^ s * 256 * (n / (256 ^ s * 256)) := by
      rw [Int.mul_comm (256 * _), ← Int.mul_assoc]
    omega

theorem back_num (zs rest : List Int) (n : Int) (hn : 0 ≤ n) (hn2 : n < 18446744073709551616) : takeB ((zs ++ putN n 8 ++ rest).length : Nat) (zs.length : Nat) 8 = true ∧ takeN (zs ++ putN n 8 ++ rest) (zs.length : Nat) 8 = n := by
  have hb : takeB ((zs ++ putN n 8 ++ rest).length : Nat) (zs.length : Nat) 8 = true := by
    simp only [takeB, isSizeB, holdsB, List.length_append, putN_length, Bool.and_eq_true, decide_eq_true_eq]
    omega
  refine ⟨hb, ?_⟩
  rw [takeN, if_pos hb, Int.toNat_natCast, List.append_assoc, leN_shift]
  have := leN_putN n hn rest 8 8 (Nat.le_refl _)
  rw [show ((8 : Int).toNat) = 8 from rfl, this]
  exact Int.emod_eq_of_lt hn (by simpa using hn2)

theorem back_text (xs ms : List Int) (s : ByteArray) (h : s.size ≤ 255) : textB (xs ++ textP s ++ ms) (xs.length : Nat) = true ∧ strOfNums (textS (xs ++ textP s ++ ms) (xs.length : Nat)) = s ∧ textE (xs ++ textP s ++ ms) (xs.length : Nat) = xs.length + 1 + s.size := by
  have e1 : textP s = (s.size : Int) :: numsOf s := by rw [textP, if_pos h]
  have hg : (xs ++ textP s ++ ms).getD xs.length 0 = s.size := by
    rw [List.append_assoc]
    have := getD_append_right (xs := xs) (ys := textP s ++ ms) (j := 0)
    rw [Nat.add_zero] at this
    rw [this, e1]; rfl
  have hl : (xs ++ textP s ++ ms).length = xs.length + (s.size + 1) + ms.length := by
    rw [List.length_append, List.length_append, e1, List.length_cons, numsOf_length]
  have hb : textB (xs ++ textP s ++ ms) (xs.length : Nat) = true := by
    simp only [textB, takeB, isSizeB, holdsB, Bool.and_eq_true, decide_eq_true_eq, Int.toNat_natCast, hg, hl]
    omega
  refine ⟨hb, ?_, ?_⟩
  · rw [textS, if_pos hb, Int.toNat_natCast, hg, Int.toNat_natCast, e1]
    have : (xs ++ (s.size : Int) :: numsOf s ++ ms).drop (xs.length + 1) = numsOf s ++ ms := by
      rw [List.append_assoc, List.drop_append]
      simp
    rw [this, ← numsOf_length s, List.take_left, strOfNums_numsOf]
  · rw [textE, if_pos hb, Int.toNat_natCast, hg]
end Go.Proofs.Ytbfkgmdlbphheaa
