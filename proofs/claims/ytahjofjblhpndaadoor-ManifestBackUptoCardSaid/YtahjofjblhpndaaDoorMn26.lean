/- What the variables of package strconv hold -/
import Derived.Test.YtahjofjblhpndaaDoorMn2
import Derived.Test.YtahjofjblhpndaaDoorMn6
import Derived.Lib.LaidTab
import Derived.Lib.ItoaMem
import Derived.Lib.SmallJoins
import Derived.KernelRfl
set_option linter.unusedSimpArgs false
set_option linter.unusedVariables false
namespace Go.Proofs.YtahjofjblhpndaaDoor
set_option linter.unusedVariables false
open Go.RowKit Go.Lib

theorem gPow : Tryd.prog.globalNamed "internal/strconv.uint64pow10" = some 1 := by kernel_rfl
theorem gRange : Tryd.prog.globalNamed "strconv.ErrRange" = some 3 := by kernel_rfl
theorem gSyntax : Tryd.prog.globalNamed "strconv.ErrSyntax" = some 2 := by kernel_rfl
/-- what the variables of package strconv hold -/
def Lw (w : World) : Prop := Lib.TabIs Tryd.prog w "internal/strconv.uint64pow10" .u64 Lib.pow10Tab ∧ (∃ tp p, w.var? Tryd.prog "strconv.ErrRange" = some #[.iface tp p]) ∧ (∃ tp p, w.var? Tryd.prog "strconv.ErrSyntax" = some #[.iface tp p])
theorem Lw.later {w w' : World} (h : Lw w) (hb : Below w.heap.size w w') : Lw w' := by
  obtain ⟨h1, ⟨tp, p, h2⟩, tq, q, h3⟩ := h
  exact ⟨Go.Joins.var_stays gPow h1 hb (Nat.le_refl _), ⟨tp, p, Go.Joins.var_stays gRange h2 hb (Nat.le_refl _)⟩, tq, q, Go.Joins.var_stays gSyntax h3 hb (Nat.le_refl _)⟩


end Go.Proofs.YtahjofjblhpndaaDoor
