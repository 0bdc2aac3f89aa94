/- The reference's slow sums: primes. -/
import Derived.Test.YtmhijcciblhjbaaDoorShaE
namespace Go.Proofs.YtmhijcciblhjbaaDoor
set_option linter.unusedVariables false
open Go.RowKit Go.Lib

/-- has a number no factors? -/
def primeN (n : Nat) : Bool := (List.range (n - 2)).all fun j => n % (j + 2) != 0
theorem primeN_no {n m : Nat} (h1 : 2 ≤ m) (h2 : m < n) (h : n % m = 0) : primeN n = false := by
  unfold primeN
  rw [List.all_eq_false]
  exact ⟨m - 2, List.mem_range.2 (by omega), by rw [show m - 2 + 2 = m by omega]; simp [h]⟩
theorem primeN_yes {n : Nat} (h : ∀ j, 2 ≤ j → j < n → n % j ≠ 0) : primeN n = true := by
  unfold primeN
  rw [List.all_eq_true]
  intro x hx
  have := List.mem_range.1 hx
  have := h (x + 2) (by omega) (by omega)
  simpa using this

theorem prime_any (n : Nat) (w : World) (hn : n < 1048576) : Calls Tryd.prog 18 #[.int .u64 (n : Int)] w fun e w' => e = .returned (.bool (primeN n)) ∧ w' = w := by
  go_enter Tryd.func18, Tryd.ntmps18
  go_wp2
  go_loopw [3] (fun i wr => ∃ m : Nat, i = .int .u64 (m : Int) ∧ Hid (2 ≤ m ∧ m < 1048577 ∧ (m ≤ n ∨ m = 2) ∧ ∀ j, 2 ≤ j → j < m → n % j ≠ 0) ∧ wr = w) (fun i _ => n - (intOf i).toNat)
  case atStart => exact ⟨2, rfl, Lib.hid ⟨by omega, by omega, Or.inr rfl, fun j hj _ => by omega⟩, rfl⟩
  case round =>
    obtain ⟨m, rfl, hk, rfl⟩ := hrel
    have hm0 : 2 ≤ m := hk.out.1
    have hm1 : m < 1048577 := hk.out.2.1
    by_cases hlt : m < n
    · by_cases hd : n % m = 0
      · have hz : ((n : Int) % (m : Int) == 0) = true := by simp; omega
        have HP := Lib.hid (primeN_no hm0 hlt hd)
        go_wp2
        go_ret
        exact ⟨by rw [HP.out]; rfl, rfl⟩
      · have hz : ((n : Int) % (m : Int) == 0) = false := by simp; omega
        have HD := Lib.hid hd
        go_wp2
        refine ⟨?_, by simp [intOf]; omega⟩
        refine ⟨m + 1, by go_num, Lib.hid ⟨by omega, by omega, Or.inl (by omega), fun j h1 h2 => ?_⟩, trivial⟩
        rcases Nat.lt_or_ge j m with h | h
        · exact hk.out.2.2.2 j h1 h
        · obtain rfl : j = m := by omega
          exact HD.out
    · have HP : Hid (primeN n = true) := Lib.hid (primeN_yes fun j h1 h2 => hk.out.2.2.2 j h1 (by omega))
      go_wp2
      go_ret
      exact ⟨by rw [HP.out]; rfl, rfl⟩
end Go.Proofs.YtmhijcciblhjbaaDoor
