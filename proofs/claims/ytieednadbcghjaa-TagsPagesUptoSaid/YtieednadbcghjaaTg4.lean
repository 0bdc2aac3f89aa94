/- Facts on uint8, for layers without the reference's Same -/
import Derived.Test.YtieednadbcghjaaTg2
import Derived.Laws.Rows
set_option linter.unusedSimpArgs false
set_option linter.unusedVariables false
namespace Go.Proofs.Ytieednadbcghjaa
set_option linter.unusedVariables false
open Go.RowKit Go.Lib
theorem info8 : (Try.prog.info? 5).map (fun i => (i.zero, i.size, i.bytes)) = some (some (.int .u8 0), 1, 1) := by kernel_rfl
theorem size8 : (Try.prog.info? 5).map (·.size) = some 1 := by kernel_rfl
theorem cells8 : Try.prog.cellsOf 5 = 1 := by kernel_rfl
theorem bs_lit_fr (w : World) (e : TypeId) (cs : Array Value) (fr : Nat × Nat) (xs : List Int) (n : Nat) (hn : xs.length = n) (hx : ∀ j, 0 ≤ xs.getD j 0 ∧ xs.getD j 0 < 256) (hcs : cs.toList = xs.map (Value.int .u8)) :
    Bs (w.alloc (.cells cs e fr)) (some ⟨w.heap.size, 0, none⟩) n xs := by
  refine ⟨hn, hx, Or.inr ⟨w.heap.size, 0, rfl, fun j hj => ?_⟩⟩
  rw [Nat.zero_add, cell_of_row _ _ _ cs e fr (heap_alloc_new _ _), ← Array.getElem?_toList, hcs]
  have : j < xs.length := by omega
  simp [List.getD_eq_getElem?_getD, this]
end Go.Proofs.Ytieednadbcghjaa
