/- Bits of u64 in sums. -/
import Derived.Test.YtfpelocemceffaaLib
import Derived.Laws.BitsAllLaws
namespace Go.Proofs.Ytfpelocemceffaa
set_option linter.unusedVariables false

theorem pow256 (k : Nat) : (2 : Int) ^ (8 * k) = 256 ^ k := by rw [Int.pow_mul]; rfl

theorem or_shift (x c : Int) (k : Nat) (hx0 : 0 ≤ x) (hx : x < 256 ^ k) (hc0 : 0 ≤ c) (hc : c < 256) (hk : k ≤ 7) :
    bits .or .u64 x (IntKind.u64.wrap (IntKind.u64.wrap c * 2 ^ (8 * k))) = x + c * 256 ^ k := by
  rw [wrap_u64_in (x := c) hc0 (by omega), pow256]
  obtain ⟨n, rfl⟩ := Int.eq_ofNat_of_zero_le hx0
  obtain ⟨m, rfl⟩ := Int.eq_ofNat_of_zero_le hc0
  have hp : (256 : Int) ^ k = ((256 ^ k : Nat) : Int) := by simp
  have h7 : (256 : Nat) ^ k ≤ 72057594037927936 := by
    have : (256 : Nat) ^ k ≤ 256 ^ 7 := Nat.pow_le_pow_right (by omega) hk
    omega
  have hm : m * 256 ^ k ≤ 255 * 256 ^ k := Nat.mul_le_mul_right _ (by omega)
  have hn : n < 256 ^ k := by rw [hp] at hx; omega
  rw [hp, wrap_u64_in (by omega) (by rw [← Int.natCast_mul]; omega), ← Int.natCast_mul]
  rw [u64_or_nat n (m * 256 ^ k) (by omega) (by omega)]
  have e : n ||| m * 256 ^ k = n + m * 256 ^ k := by
    have := Nat.two_pow_add_eq_or_of_lt (i := 8 * k) (b := n) (by rw [Nat.pow_mul]; exact hn) m
    rw [Nat.pow_mul] at this
    rw [Nat.or_comm, Nat.mul_comm m, show (256 : Nat) = 2 ^ 8 from rfl, ← this, Nat.add_comm]
  rw [e]; rfl
end Go.Proofs.Ytfpelocemceffaa
