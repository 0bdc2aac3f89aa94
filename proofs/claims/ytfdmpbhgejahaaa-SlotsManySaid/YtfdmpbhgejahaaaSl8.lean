/- Blocks that hold a struct with a digest among its fields: some cells, 32 bytes, some cells -/
import Derived.Test.YtfdmpbhgejahaaaSl5
import Derived.Test.YtfdmpbhgejahaaaSl6
set_option linter.unusedSimpArgs false
set_option linter.unusedVariables false
namespace Go.Proofs.Ytfdmpbhgejahaaa
set_option linter.unusedVariables false
open Go.RowKit Go.Lib

def mixL (a : List Value) (dg : List Int) (z : List Value) : List Value := a ++ (dg.map (Value.int .u8) ++ z)
def mixC (a : List Value) (dg : List Int) (z : List Value) : Array Value := (mixL a dg z).toArray
theorem mixL_length (a : List Value) (dg : List Int) (z : List Value) : (mixL a dg z).length = a.length + dg.length + z.length := by
  unfold mixL
  rw [List.length_append, List.length_append, List.length_map, Nat.add_assoc]
theorem mixC_size (a : List Value) (dg : List Int) (z : List Value) : (mixC a dg z).size = a.length + dg.length + z.length := by
  unfold mixC
  rw [List.size_toArray, mixL_length]
/-- block b holds such a struct -/
def Mx (w : World) (b : Nat) (t : TypeId) (a : List Value) (dg : List Int) (z : List Value) : Prop := w.heap[b]? = some (.cells (mixC a dg z) t (0, 0))
section
variable {w w' : World} {b : Nat} {t : TypeId} {a z : List Value} {dg : List Int}
theorem Mx.lt (h : Mx w b t a dg z) : b < w.heap.size := (Array.getElem?_eq_some_iff.1 h).1
theorem Mx.keep (h : Mx w b t a dg z) (e : w'.heap[b]? = w.heap[b]?) : Mx w' b t a dg z := e.trans h
theorem Mx.later (h : Mx w b t a dg z) (hb : Below w.heap.size w w') : Mx w' b t a dg z := h.keep (hb.block b h.lt)
theorem Mx.below {B : Nat} (h : Mx w b t a dg z) (hB : b < B) (hb : Below B w w') : Mx w' b t a dg z := h.keep (hb.block b hB)
theorem Mx.other (h : Mx w b t a dg z) (x : Addr) (v : Value) (hne : b ≠ x.block) : Mx (w.setCell x v) b t a dg z := h.keep (heap_setCell_other w x b v hne)
theorem Mx.at (h : Mx w b t a dg z) (j : Nat) : w.cell? ⟨b, j, none⟩ = (mixL a dg z)[j]? := by
  rw [cell_of_row w b j _ t _ h]
  simp [mixC]
theorem Mx.first (h : Mx w b t a dg z) (j : Nat) (v : Value) (hv : a[j]? = some v) : w.cell? ⟨b, j, none⟩ = some v := by
  rw [h.at, mixL, List.getElem?_append_left (List.getElem?_eq_some_iff.1 hv).1, hv]
theorem Mx.dig (h : Mx w b t a dg z) (j : Nat) (hj : j < dg.length) : w.cell? ⟨b, a.length + j, none⟩ = some (.int .u8 (dg.getD j 0)) := by
  rw [h.at, mixL, List.getElem?_append_right (by omega), Nat.add_sub_cancel_left, List.getElem?_append_left (by rw [List.length_map]; exact hj), List.getElem?_map, List.getD_eq_getElem?_getD, List.getElem?_eq_getElem hj]
  rfl
theorem Mx.last (h : Mx w b t a dg z) (hd : dg.length = 32) (j : Nat) (v : Value) (hv : z[j]? = some v) : w.cell? ⟨b, a.length + 32 + j, none⟩ = some v := by
  rw [h.at, mixL, List.getElem?_append_right (by omega), List.getElem?_append_right (by rw [List.length_map]; omega), List.length_map, hd, show a.length + 32 + j - a.length - 32 = j by omega, hv]
theorem Mx.frozen (h : Mx w b t a dg z) (j : Nat) : w.frozen? ⟨b, j, none⟩ = false := frozen_of_row w b j _ t h
theorem Mx.range (h : Mx w b t a dg z) : w.rangeAt b 0 (mixL a dg z) := by
  intro k v hv
  rw [Nat.zero_add, h.at, hv]
theorem Mx.digRange (h : Mx w b t a dg z) : w.rangeAt b a.length (dg.map (Value.int .u8)) := by
  intro k v hv
  rw [List.getElem?_map] at hv
  obtain ⟨x, hx, rfl⟩ := Option.map_eq_some_iff.1 hv
  rw [h.dig k (List.getElem?_eq_some_iff.1 hx).1, List.getD_eq_getElem?_getD, hx]
  rfl
/-- a field ahead of the digest is stored -/
theorem Mx.setFirst (h : Mx w b t a dg z) (j : Nat) (hj : j < a.length) (v : Value) : Mx (w.setCell ⟨b, j, none⟩ v) b t (a.set j v) dg z := by
  unfold Mx
  rw [heap_setCell_same w b j _ t _ h]
  unfold mixC mixL
  rw [List.setIfInBounds_toArray, List.set_append_left _ _ hj]
/-- .. behind it -/
theorem Mx.setLast (h : Mx w b t a dg z) (hd : dg.length = 32) (j : Nat) (v : Value) : Mx (w.setCell ⟨b, a.length + 32 + j, none⟩ v) b t a dg (z.set j v) := by
  unfold Mx
  rw [heap_setCell_same w b _ _ t _ h]
  unfold mixC mixL
  rw [List.setIfInBounds_toArray, List.set_append_right _ _ (by omega), List.set_append_right _ _ (by rw [List.length_map]; omega), List.length_map, hd, show a.length + 32 + j - a.length - 32 = j by omega]
theorem Mx.row {a' z' : List Value} {dg' : List Int} (h : Mx w b t a dg z) : Mx (w.setRow b (mixC a' dg' z')) b t a' dg' z' := setRow_heap w b _ _ t _ h
end
theorem mixC_one {a z : List Value} {dg : List Int} (ha : ∀ v ∈ a, v.oneCell' = true) (hz : ∀ v ∈ z, v.oneCell' = true) : (mixC a dg z).all (·.oneCell') = true :=
  all_oneCell_toArray fun v hv => by
    unfold mixL at hv
    rcases List.mem_append.1 hv with h | h
    · exact ha v h
    · rcases List.mem_append.1 h with h | h
      · obtain ⟨x, _, rfl⟩ := List.mem_map.1 h
        rfl
      · exact hz v h
/-- a whole struct is read -/
theorem Mx.load {P : Program} {w : World} {b : Nat} {t : TypeId} {a z : List Value} {dg : List Int} (h : Mx w b t a dg z) (ty : TypeId) {d : TypeDesc} (hu : P.underlying ty = some d) (hd : d.isRow = true) (hi : (P.info? ty).map (·.size) = some (mixC a dg z).size) :
    (Instr.loadAt ty (.pointer (some ⟨b, 0, none⟩))).run P w = .ok (.agg (mixC a dg z)) w :=
  run_loadAt_mid w b 0 ty (mixL a dg z) d h.range hu hd (by rw [hi]; rfl)
/-- the digest is read -/
theorem Mx.loadDig {P : Program} {w : World} {b : Nat} {t : TypeId} {a z : List Value} {dg : List Int} (h : Mx w b t a dg z) (ty : TypeId) {d : TypeDesc} (hu : P.underlying ty = some d) (hd : d.isRow = true) (hi : (P.info? ty).map (·.size) = some dg.length) (k : Nat) (hk : k = a.length) :
    (Instr.loadAt ty (.pointer (some ⟨b, k, none⟩))).run P w = .ok (.agg (bcs dg)) w := by
  subst hk
  exact run_loadAt_mid w b a.length ty (dg.map (Value.int .u8)) d h.digRange hu hd (by rw [hi, List.length_map])
theorem setCells_row (b : Nat) (t : TypeId) (s : List Value) : ∀ (vs p old : List Value) (w : World), w.heap[b]? = some (.cells (p ++ (old ++ s)).toArray t (0, 0)) → old.length = vs.length → (w.setCells b p.length vs).heap[b]? = some (.cells (p ++ (vs ++ s)).toArray t (0, 0))
  | [], p, old, w, h, hl => by
    obtain rfl : old = [] := List.length_eq_zero_iff.1 hl
    exact h
  | v :: vs, p, [], w, h, hl => by simp at hl
  | v :: vs, p, o :: old, w, h, hl => by
    have h1 : (w.setCell ⟨b, p.length, none⟩ v).heap[b]? = some (.cells ((p ++ [v]) ++ (old ++ s)).toArray t (0, 0)) := by
      rw [heap_setCell_same w b _ _ t _ h, List.setIfInBounds_toArray, List.set_append_right _ _ (Nat.le_refl _), Nat.sub_self]
      simp
    have h2 := setCells_row b t s vs (p ++ [v]) old (w.setCell ⟨b, p.length, none⟩ v) h1 (by simpa using hl)
    rw [List.length_append, List.length_singleton] at h2
    rw [World.setCells, h2]
    simp
theorem setCells_other (b k : Nat) (hk : k ≠ b) : ∀ (vs : List Value) (o : Nat) (w : World), (w.setCells b o vs).heap[k]? = w.heap[k]?
  | [], _, _ => rfl
  | v :: vs, o, w => by rw [World.setCells, setCells_other b k hk vs, heap_setCell_other _ ⟨b, o, none⟩ k v hk]
theorem below_setCells {B : Nat} {w0 : World} {b : Nat} (hB : B ≤ b) : ∀ (vs : List Value) (o : Nat) (w : World), Below B w0 w → Below B w0 (w.setCells b o vs)
  | [], _, _, h => h
  | v :: vs, o, w, h => below_setCells hB vs (o + 1) _ (h.setCell hB _)
/-- the digest is stored -/
theorem Mx.setDig {w : World} {b : Nat} {t : TypeId} {a z : List Value} {dg dg' : List Int} (h : Mx w b t a dg z) (hl : dg'.length = dg.length) (k : Nat) (hk : k = a.length) : Mx (w.setCells b k (dg'.map (Value.int .u8))) b t a dg' z := by
  subst hk
  exact setCells_row b t z _ a _ w h (by rw [List.length_map, List.length_map, hl])
theorem Mx.there {w : World} {b : Nat} {t : TypeId} {a z : List Value} {dg : List Int} (h : Mx w b t a dg z) (k n : Nat) (hk : k + n ≤ a.length + dg.length + z.length) : w.there b k n := fun j hj => by
  refine ⟨?_, h.frozen _⟩
  rw [h.at, List.getElem?_eq_getElem (by rw [mixL_length]; omega)]
  rfl
end Go.Proofs.Ytfdmpbhgejahaaa
