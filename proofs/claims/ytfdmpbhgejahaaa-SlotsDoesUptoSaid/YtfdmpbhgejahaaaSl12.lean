/- Blocks that are rows of numbers of any kind: arrays in memory -/
import Derived.Test.YtfdmpbhgejahaaaSl6
import Derived.Laws.Rows
import Derived.Deep.MidRow
set_option linter.unusedSimpArgs false
set_option linter.unusedVariables false
namespace Go.Proofs.Ytfdmpbhgejahaaa
set_option linter.unusedVariables false
open Go.RowKit Go.Lib

def rcs (k : IntKind) (l : List Nat) : Array Value := (l.map (nv k)).toArray
/-- block b is a row of these numbers -/
def Rw (k : IntKind) (w : World) (b : Nat) (t : TypeId) (l : List Nat) : Prop := w.heap[b]? = some (.cells (rcs k l) t (0, 0))
variable {k : IntKind}
theorem rcs_size (l : List Nat) : (rcs k l).size = l.length := by simp [rcs]
theorem Rw.cell {w : World} {b : Nat} {t : TypeId} {l : List Nat} (h : Rw k w b t l) (j : Nat) (hj : j < l.length) : w.cell? ⟨b, j, none⟩ = some (.int k ((l.getD j 0 : Nat) : Int)) := by
  rw [cell_of_row w b j _ t _ h]
  simp [rcs, hj, nv, List.getD_eq_getElem?_getD]
theorem Rw.frozen {w : World} {b : Nat} {t : TypeId} {l : List Nat} (h : Rw k w b t l) (j : Nat) : w.frozen? ⟨b, j, none⟩ = false := frozen_of_row w b j _ t h
theorem Rw.set {w : World} {b : Nat} {t : TypeId} {l : List Nat} (h : Rw k w b t l) (j x : Nat) : Rw k (w.setCell ⟨b, j, none⟩ (.int k (x : Int))) b t (l.set j x) := by
  unfold Rw
  rw [heap_setCell_same w b j _ t _ h]
  simp [rcs, List.map_set, nv]
theorem Rw.lt {w : World} {b : Nat} {t : TypeId} {l : List Nat} (h : Rw k w b t l) : b < w.heap.size := (Array.getElem?_eq_some_iff.1 h).1
theorem Rw.keep {w w' : World} {b : Nat} {t : TypeId} {l : List Nat} (h : Rw k w b t l) (e : w'.heap[b]? = w.heap[b]?) : Rw k w' b t l := e.trans h
theorem Rw.later {w w' : World} {b : Nat} {t : TypeId} {l : List Nat} (h : Rw k w b t l) (hb : Below w.heap.size w w') : Rw k w' b t l := h.keep (hb.block b h.lt)
theorem Rw.other {w : World} {b : Nat} {t : TypeId} {l : List Nat} (h : Rw k w b t l) (a : Addr) (v : Value) (hne : b ≠ a.block) : Rw k (w.setCell a v) b t l := h.keep (heap_setCell_other w a b v hne)
theorem Rw.row {w : World} {g : Nat} {t : TypeId} {l l' : List Nat} (h : Rw k w g t l) : Rw k (w.setRow g (rcs k l')) g t l' := setRow_heap w g _ _ t _ h
theorem Rw.rowOther {w : World} {g b : Nat} {t : TypeId} {l : List Nat} (h : Rw k w b t l) (cs : Array Value) (hne : b ≠ g) : Rw k (w.setRow g cs) b t l := h.keep (setRow_other w g b cs hne)
theorem rcs_one (l : List Nat) : (rcs k l).all (·.oneCell') = true := all_oneCell_toArray (fun v hv => by
  obtain ⟨x, _, rfl⟩ := List.mem_map.1 hv
  rfl)
theorem Rw.results {P : Program} {fn : Func} {p : Tmp} {ty : TypeId} {w : World} {g : Nat} {t : TypeId} {l : List Nat} (hg : Rw k w g t l) (h : fn.results = #[.cell p ty]) (tmps : Array Value)
    (hp : tmps.getD p undef = .pointer (some ⟨g, 0, none⟩)) (d : TypeDesc) (hu : P.underlying ty = some d) (hd : (match d with | .struct _ | .array _ _ => true | _ => false) = true) (hi : (P.info? ty).map (·.size) = some l.length) :
    (results fn tmps).run P w = .ok (.agg (rcs k l)) w := results_cell_row h tmps w g t _ _ d hp hg hu hd (by rw [rcs_size]; exact hi)
theorem below_setRowR {B : Nat} {w w' : World} (h : Below B w w') (g : Nat) (cs : Array Value) (hB : B ≤ g) : Below B w (w'.setRow g cs) :=
  h.trans ⟨rfl, rfl, rfl, by simp, fun k hk => setRow_other w' g k cs (by omega)⟩
end Go.Proofs.Ytfdmpbhgejahaaa
