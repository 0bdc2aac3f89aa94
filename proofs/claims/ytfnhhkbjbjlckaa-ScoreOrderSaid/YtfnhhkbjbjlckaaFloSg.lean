/- Layer 7, where the program asks math.Signbit: what it answers. -/
import Derived.Test.YtfnhhkbjbjlckaaFloL
import Derived.Laws.Externs
namespace Go.Proofs.Ytfnhhkbjbjlckaa
set_option linter.unusedVariables false
open Go.RowKit Go.Lib

theorem run_float64bits {P : Program} (x : Nat) (w : World) : (Extern.MathFloatBits.float64bits #[.float .f64 x]).run P w = .ok (.int .u64 (x : Int)) w := rfl
set_option maxRecDepth 100000 in
theorem signbit_any (x : Nat) (hx : x < 18446744073709551616) (w : World) : Calls Try.prog 19 #[.float .f64 x] w fun e w' => e = .returned (.bool (fsg x)) ∧ w' = w := by
  have hf : fsg x = decide (9223372036854775808 ≤ x) := by
    unfold fsg
    by_cases h : 9223372036854775808 ≤ x
    · rw [decide_eq_true h, show x / 9223372036854775808 % 2 = 1 by omega]; rfl
    · rw [decide_eq_false h, show x / 9223372036854775808 % 2 = 0 by omega]; rfl
  have hw : IntKind.i64.wrap (x : Int) = if 9223372036854775808 ≤ x then (x : Int) - 18446744073709551616 else (x : Int) := by
    by_cases h : 9223372036854775808 ≤ x
    · rw [if_pos h]; simp [IntKind.wrap, IntKind.bits, IntKind.signed] <;> omega
    · rw [if_neg h]; simp [IntKind.wrap, IntKind.bits, IntKind.signed] <;> omega
  rw [hf]
  by_cases h : 9223372036854775808 ≤ x
  · have hx2 : (x : Int) < 18446744073709551616 := by omega
    rw [decide_eq_true h]
    rw [if_pos h] at hw
    obtain ⟨y, hy⟩ : ∃ y : Int, (x : Int) - 18446744073709551616 = y := ⟨_, rfl⟩
    have hneg : y < 0 := by omega
    rw [hy] at hw
    clear hf h hy hx hx2
    go_enter Try.func19, Try.ntmps19
    go_wp2
    rw [run_callFunc_extern Try.func20 (by kernel_rfl) (by kernel_rfl) (by kernel_rfl) (e := Extern.MathFloatBits.float64bits) (by kernel_rfl), run_float64bits]
    simp only [Result.andThen]
    rw [Oper.upon_value]
    go_wp2
    go_ret
    exact ⟨rfl, rfl⟩
  · have hneg : ¬ (x : Int) < 0 := by omega
    rw [decide_eq_false h]
    rw [if_neg h] at hw
    clear hf h hx
    go_enter Try.func19, Try.ntmps19
    go_wp2
    rw [run_callFunc_extern Try.func20 (by kernel_rfl) (by kernel_rfl) (by kernel_rfl) (e := Extern.MathFloatBits.float64bits) (by kernel_rfl), run_float64bits]
    simp only [Result.andThen]
    rw [Oper.upon_value]
    go_wp2
    go_ret
    exact ⟨rfl, rfl⟩
end Go.Proofs.Ytfnhhkbjbjlckaa
