/- Rows of plain values behind a sort (cut out of FolS) -/
import Derived.Test.YtpfbfhigelbfcaaGreatSd10
import Derived.Shelf.SlSortCmp.InsertionK
set_option linter.unusedSimpArgs false
set_option linter.unusedVariables false
namespace Go.Proofs.YtpfbfhigelbfcaaGreat
open Go.RowKit Go.Lib Go.Shelf
/-! ### rows of plain values behind a sort -/
variable {α : Type}
theorem flat_cellsE [Inhabited α] (E : Ec α) (d : Array α) : (Go.Sort.flatK E.f E.k d).toList = E.flat d.toList := by
 have hln : (E.flat d.toList).length = d.size * E.k := by rw [E.flat_length, Array.length_toList]
 apply List.ext_getElem?
 intro t
 by_cases ht : t < d.size * E.k
 ·have hj : t / E.k < d.size := Nat.div_lt_of_lt_mul (by rw [Nat.mul_comm]; exact ht)
  have hk : t % E.k < E.k := Nat.mod_lt _ E.pos
  have e0 : t / E.k * E.k + t % E.k = t := by rw [Nat.mul_comm]; exact Nat.div_add_mod t E.k
  have e1 := E.flat_get d.toList (t / E.k) (t % E.k) (by rw [Array.length_toList]; exact hj) hk
  rw [e0] at e1
  rw [e1, Array.getElem?_toList, getElem?_pos _ t (by rw [Go.Sort.size_flatK]; exact ht), ← getElem!_pos _ t (by rw [Go.Sort.size_flatK]; exact ht), Go.Sort.get_flatK E.f E.k d t ht]
  have e2 : d[t / E.k]! = d[t / E.k]'hj := getElem!_pos d _ hj
  have e3 : d.toList.getD (t / E.k) E.d = d[t / E.k]'hj := by
   rw [List.getD_eq_getElem?_getD, Array.getElem?_toList, getElem?_pos d _ hj]; rfl
  rw [e2, e3]
  have hl := E.len (d[t / E.k]'hj)
  rw [getElem!_pos (E.f _) _ (by rw [hl]; exact hk), List.getElem?_eq_getElem (by rw [hl]; exact hk)]
 ·rw [List.getElem?_eq_none (by rw [Array.length_toList, Go.Sort.size_flatK]; omega), List.getElem?_eq_none (by rw [hln]; omega)]
theorem holdsE [Inhabited α] {E : Ec α} {w : World} {B g n c : Nat} {L : List α} (h : Gw E w B (.slice (some ⟨g, 0, none⟩) n c) L) : Go.Sort.HoldsK E.f E.k w g 0 L.toArray := by
 obtain ⟨hn, hB, hc, hm, cur, hg, hs, ht⟩ := h.block
 have hf := flat_cellsE E L.toArray
 rw [List.toList_toArray] at hf
 intro t htt
 refine ⟨?_, by simp [World.frozen?, hg]⟩
 have h1 : (Go.Sort.flatK E.f E.k L.toArray).size = n * E.k := by rw [Go.Sort.size_flatK]; simp [hn]
 have h2 : cur[t]? = (Go.Sort.flatK E.f E.k L.toArray)[t]? := by
  rw [← Array.getElem?_toList, ← Array.getElem?_toList, hf, ← ht, List.getElem?_take_of_lt (by omega)]
 rw [show (0 + t) = t by omega]
 have h3 : w.cell? ⟨g, t, none⟩ = cur[t]? := by simp [World.cell?, hg]
 rw [h3, h2, getElem?_pos _ t htt, getElem!_pos _ t htt]
 rfl
theorem take_putE (F cur : Array Value) (h : F.size ≤ cur.size) : (Go.Sort.putCells id 0 F cur).toList.take F.size = F.toList := by
 apply List.ext_getElem?
 intro j
 by_cases hj : j < F.size
 ·rw [List.getElem?_take_of_lt hj, Array.getElem?_toList, Array.getElem?_toList]
  simp [Go.Sort.putCells, hj, show j < cur.size by omega]
 ·rw [List.getElem?_take_eq_none (by omega), List.getElem?_eq_none (by simp; omega)]
/-- what a sort's world is to a row of the call's own -/
theorem sorted_gw [Inhabited α] {E : Ec α} {w : World} {B g n c : Nat} {L : List α} (h : Gw E w B (.slice (some ⟨g, 0, none⟩) n c) L) (hB : B ≤ w.heap.size) (d' : Array α) (hd : d'.size = n) (m : Nat) (os : Array Obj) :
 Gw E (sortWorldK E.f E.k w g 0 m d' os) B (.slice (some ⟨g, 0, none⟩) n c) d'.toList ∧ Below B w (sortWorldK E.f E.k w g 0 m d' os) := by
 obtain ⟨hnl, hBg, hc, hm, cur, hg, hs, ht⟩ := h.block
 have hgl : g < w.heap.size := (Array.getElem?_eq_some_iff.1 hg).1
 constructor
 ·have hgw : (sortWorldK E.f E.k w g 0 m d' os).heap[g]? = some (.cells (Go.Sort.putCells id 0 (Go.Sort.flatK E.f E.k d') cur) E.t (0, 0)) := by
   unfold sortWorldK
   rw [Go.Sort.heap_grow_old _ _ (by simpa [Go.Sort.putRowK] using hgl)]
   simp [Go.Sort.putRowK, Go.Sort.putRow, Go.Sort.mapBlock, Go.Sort.ahead, Array.getElem?_modify, hg, Go.Sort.onCells]
  have hl : d'.toList.length = n := by rw [Array.length_toList, hd]
  have hF : (Go.Sort.flatK E.f E.k d').size = n * E.k := by rw [Go.Sort.size_flatK, hd]
  have hcs : n * E.k ≤ c * E.k := Nat.mul_le_mul_right _ hc
  have := Gw.mk (E := E) (w := sortWorldK E.f E.k w g 0 m d' os) (B := B) (g := g) (c := c) (L := d'.toList) hBg (by rw [hl]; exact hc) hm hgw (by simpa [Go.Sort.putCells] using hs) (by rw [hl, ← hF, take_putE _ _ (by rw [hF, hs]; exact hcs), flat_cellsE])
  rwa [hl] at this
 ·refine (Below.refl _ _).grown (row := some g) ⟨rfl, rfl, rfl, ?_, fun k hk hne => ?_⟩ hB (fun k hk => by injection hk with hk; omega)
  ·unfold sortWorldK
   simp [Go.Sort.grow, Go.Sort.putRowK, Go.Sort.putRow, Go.Sort.mapBlock, Go.Sort.ahead]
  ·unfold sortWorldK
   rw [Go.Sort.heap_grow_old _ _ (by simpa [Go.Sort.putRowK] using hk)]
   have : g ≠ k := fun e => hne (by rw [e])
   simp [Go.Sort.putRowK, Go.Sort.putRow, Go.Sort.mapBlock, Go.Sort.ahead, Array.getElem?_modify, this]
end Go.Proofs.YtpfbfhigelbfcaaGreat

