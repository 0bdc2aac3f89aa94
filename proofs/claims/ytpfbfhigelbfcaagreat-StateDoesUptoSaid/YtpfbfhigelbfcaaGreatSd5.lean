/- Blocks that are rows of bytes: digests in memory -/
import Derived.Test.YtpfbfhigelbfcaaGreatSd4
import Derived.Deep.MidRow
import Derived.Laws.ResultCell
set_option linter.unusedSimpArgs false
set_option linter.unusedVariables false
namespace Go.Proofs.YtpfbfhigelbfcaaGreat
open Go.RowKit Go.Lib
def bcs (l : List Int) : Array Value := (l.map (Value.int .u8)).toArray
/-- block b is a row of these bytes -/
def Yw (w : World) (b : Nat) (t : TypeId) (l : List Int) : Prop := w.heap[b]? = some (.cells (bcs l) t (0, 0))
theorem bcs_size (l : List Int) : (bcs l).size = l.length := by simp [bcs]
theorem Yw.cell {w : World} {b : Nat} {t : TypeId} {l : List Int} (h : Yw w b t l) (j : Nat) (hj : j < l.length) : w.cell? ⟨b, j, none⟩ = some (.int .u8 (l.getD j 0)) := by
 rw [cell_of_row w b j _ t _ h]
 simp [bcs, hj, List.getD_eq_getElem?_getD]
theorem Yw.frozen {w : World} {b : Nat} {t : TypeId} {l : List Int} (h : Yw w b t l) (j : Nat) : w.frozen? ⟨b, j, none⟩ = false := frozen_of_row w b j _ t h
theorem Yw.set {w : World} {b : Nat} {t : TypeId} {l : List Int} (h : Yw w b t l) (j : Nat) (x : Int) : Yw (w.setCell ⟨b, j, none⟩ (.int .u8 x)) b t (l.set j x) := by
 unfold Yw
 rw [heap_setCell_same w b j _ t _ h]
 simp [bcs, List.map_set]
theorem Yw.lt {w : World} {b : Nat} {t : TypeId} {l : List Int} (h : Yw w b t l) : b < w.heap.size := (Array.getElem?_eq_some_iff.1 h).1
theorem Yw.keep {w w' : World} {b : Nat} {t : TypeId} {l : List Int} (h : Yw w b t l) (e : w'.heap[b]? = w.heap[b]?) : Yw w' b t l := e.trans h
theorem Yw.later {w w' : World} {b : Nat} {t : TypeId} {l : List Int} (h : Yw w b t l) (hb : Below w.heap.size w w') : Yw w' b t l := h.keep (hb.block b h.lt)
theorem Yw.other {w : World} {b : Nat} {t : TypeId} {l : List Int} (h : Yw w b t l) (a : Addr) (v : Value) (hne : b ≠ a.block) : Yw (w.setCell a v) b t l := h.keep (heap_setCell_other w a b v hne)
theorem Yw.row {w : World} {g : Nat} {t : TypeId} {l l' : List Int} (h : Yw w g t l) : Yw (w.setRow g (bcs l')) g t l' := setRow_heap w g _ _ t _ h
theorem bcs_one (l : List Int) : (bcs l).all (·.oneCell') = true := all_oneCell_toArray (fun v hv => by
 obtain ⟨x, _, rfl⟩ := List.mem_map.1 hv
 rfl)
theorem Yw.results {P : Program} {fn : Func} {p : Tmp} {ty : TypeId} {w : World} {g : Nat} {t : TypeId} {l : List Int} (hg : Yw w g t l) (h : fn.results = #[.cell p ty]) (tmps : Array Value)
 (hp : tmps.getD p undef = .pointer (some ⟨g, 0, none⟩)) (d : TypeDesc) (hu : P.underlying ty = some d) (hd : (match d with | .struct _ | .array _ _ => true | _ => false) = true) (hi : (P.info? ty).map (·.size) = some l.length) :
 (results fn tmps).run P w = .ok (.agg (bcs l)) w := results_cell_row h tmps w g t _ _ d hp hg hu hd (by rw [bcs_size]; exact hi)
theorem size32 : (Tryz.prog.info? 35).map (·.size) = some 32 := by kernel_rfl
theorem below_setRow8 {B : Nat} {w w' : World} (h : Below B w w') (g : Nat) (cs : Array Value) (hB : B ≤ g) : Below B w (w'.setRow g cs) :=
 h.trans ⟨rfl, rfl, rfl, by simp, fun k hk => setRow_other w' g k cs (by omega)⟩
end Go.Proofs.YtpfbfhigelbfcaaGreat

