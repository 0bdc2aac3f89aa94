/- Walks of package fixed: isSize, holds. -/
import Derived.Test.YtfpelocemceffaaLib
namespace Go.Proofs.Ytfpelocemceffaa
set_option linter.unusedVariables false
open Go.RowKit

def holdsB (n at_ size : Int) : Bool := decide (0 ≤ at_) && decide (at_ ≤ n - size)
def isSizeB (n : Int) : Bool := decide (1 ≤ n) && decide (n ≤ 8)

theorem isSize_any (n : Int) (w : World) : Calls Try.prog 33 #[.int .i64 n] w fun e w' => e = .returned (.bool (isSizeB n)) ∧ w = w' := by
  go_enter Try.func33, Try.ntmps33
  go_wp2
  all_goals go_ret
  · have h : 1 ≤ n := by assumption
    exact ⟨ret_bool (by simp [isSizeB, h]), rfl⟩
  · have h : n < 1 := by assumption
    exact ⟨ret_bool (by simp [isSizeB]; omega), rfl⟩

theorem holds_any (p : Option Addr) (len cap : Nat) (at_ size : Int) (w : World) (hlen : len ≤ maxLen) (hs : 0 ≤ size ∧ size ≤ 300) :
    Calls Try.prog 35 #[.slice p len cap, .int .i64 at_, .int .i64 size] w fun e w' => e = .returned (.bool (holdsB len at_ size)) ∧ w = w' := by
  unfold maxLen at hlen
  go_enter Try.func35, Try.ntmps35
  go_wp2
  all_goals go_ret
  · have h : 0 ≤ at_ := by assumption
    exact ⟨ret_bool (by simp [holdsB, h]), rfl⟩
  · have h : at_ < 0 := by assumption
    exact ⟨ret_bool (by simp [holdsB]; omega), rfl⟩
end Go.Proofs.Ytfpelocemceffaa
