/- Own rows of digests behind stores into them; what a sorted row's own row is -/
import Derived.Test.YtpfbfhigelbfcaaGreatSd18
import Derived.Test.YtpfbfhigelbfcaaGreatSd43
import Derived.Deep.MidRow
set_option linter.unusedSimpArgs false
set_option linter.unusedVariables false
namespace Go.Proofs.YtpfbfhigelbfcaaGreat
open Go.RowKit Go.Lib
theorem setCells_block : ∀ (vs : List Value) (o : Nat) (w : World) (g : Nat) (cur : Array Value) (t : TypeId), w.heap[g]? = some (.cells cur t (0, 0)) → o + vs.length ≤ cur.size →
 ∃ cur', (w.setCells g o vs).heap[g]? = some (.cells cur' t (0, 0)) ∧ cur'.toList = cur.toList.take o ++ vs ++ cur.toList.drop (o + vs.length)
 | [], o, w, g, cur, t, h, hl => ⟨cur, h, by simp⟩
 | v :: r, o, w, g, cur, t, h, hl => by
   have hlt : o < cur.size := by simp at hl; omega
   have h1 : (w.setCell ⟨g, o, none⟩ v).heap[g]? = some (.cells (cur.setIfInBounds o v) t (0, 0)) := by
    simp [World.setCell, Array.getElem?_modify, h]
   obtain ⟨cur', h2, h3⟩ := setCells_block r (o + 1) (w.setCell ⟨g, o, none⟩ v) g (cur.setIfInBounds o v) t h1 (by simp at hl ⊢; omega)
   refine ⟨cur', h2, ?_⟩
   rw [h3, Array.toList_setIfInBounds]
   have e1 : (cur.toList.set o v).take (o + 1) = cur.toList.take o ++ [v] := by
    rw [List.take_set, List.take_succ_eq_append_getElem (by simpa using hlt), List.set_append_right _ _ (by rw [List.length_take]; exact Nat.min_le_left _ _)]
    simp [Nat.min_eq_left (Nat.le_of_lt hlt)]
   have e2 : (cur.toList.set o v).drop (o + 1 + r.length) = cur.toList.drop (o + (v :: r).length) := by
    rw [List.drop_set_of_lt (by omega)]
    congr 1
    simp; omega
   rw [e1, e2]
   simp
theorem below_cells {B g : Nat} {a : World} (hb : B ≤ g) : ∀ (vs : List Value) (o : Nat) (w : World), Below B a w → Below B a (w.setCells g o vs)
 | [], _, _, h => h
 | v :: r, o, w, h => below_cells hb r (o + 1) _ (h.setCell (p := ⟨g, o, none⟩) hb v)
/-- What an own row's block is. -/
theorem Od.block {w : World} {B g n c : Nat} {L : List (List Int)} (h : Od w B (.slice (some ⟨g, 0, none⟩) n c) L) :
 n = L.length ∧ B ≤ g ∧ n ≤ c ∧ c ≤ maxLen ∧ ∃ cur, w.heap[g]? = some (.cells cur 35 (0, 0)) ∧ cur.size = c * 32 ∧ cur.toList.take (n * 32) = dcells L := by
 obtain ⟨hok, hl, h2⟩ := h
 rcases h2 with ⟨h3, _⟩ | ⟨g', c', cur, hv, hB, hg, hn, hm, hs, ht⟩
 ·cases h3
 ·simp only [Value.slice.injEq, Option.some.injEq, Addr.mk.injEq, and_true] at hv
  obtain ⟨rfl, rfl, rfl⟩ := hv
  exact ⟨rfl, hB, hn, hm, cur, hg, hs, ht⟩
theorem Od.mk {w : World} {B g c : Nat} {L : List (List Int)} (hok : ∀ d ∈ L, dok d) (hB : B ≤ g) (hn : L.length ≤ c) (hm : c ≤ maxLen) {cur : Array Value} (hg : w.heap[g]? = some (.cells cur 35 (0, 0))) (hs : cur.size = c * 32) (ht : cur.toList.take (L.length * 32) = dcells L) :
 Od w B (.slice (some ⟨g, 0, none⟩) L.length c) L := ⟨hok, dcells_length hok, Or.inr ⟨g, c, cur, rfl, hB, hg, hn, hm, hs, ht⟩⟩
/-- cut off behind -/
theorem Od.cut {w : World} {B g n c : Nat} {C D : List (List Int)} (h : Od w B (.slice (some ⟨g, 0, none⟩) n c) (C ++ D)) : Od w B (.slice (some ⟨g, 0, none⟩) C.length c) C := by
 obtain ⟨hn, hB, hc, hm, cur, hg, hs, ht⟩ := h.block
 have hok : ∀ d ∈ C, dok d := fun d hd => h.1 d (List.mem_append_left _ hd)
 refine Od.mk hok hB (by rw [List.length_append] at hn; omega) hm hg hs ?_
 have e : cur.toList.take (C.length * 32) = (cur.toList.take (n * 32)).take (C.length * 32) := by
  rw [List.take_take, Nat.min_eq_left (by rw [hn, List.length_append]; omega)]
 rw [e, ht, dcells_append, List.take_append_of_le_length (by rw [dcells_length hok]; omega), List.take_of_length_le (by rw [dcells_length hok]; omega)]
theorem Od.there {w : World} {B g n c : Nat} {L : List (List Int)} (h : Od w B (.slice (some ⟨g, 0, none⟩) n c) L) (o m : Nat) (hl : o + m ≤ c * 32) : w.there g o m := by
 obtain ⟨hn, hB, hc, hm, cur, hg, hs, ht⟩ := h.block
 intro j hj
 refine ⟨?_, by simp [World.frozen?, hg]⟩
 have : o + j < cur.size := by omega
 simp [World.cell?, hg, this]
/-- one element laid -/
theorem Od.setAt {w : World} {B g n c : Nat} {C D : List (List Int)} {y : List Int} (x : List Int) (h : Od w B (.slice (some ⟨g, 0, none⟩) n c) (C ++ y :: D)) (hx : dok x) :
 Od (w.setCells g (C.length * 32) (x.map (Value.int .u8))) B (.slice (some ⟨g, 0, none⟩) n c) (C ++ x :: D) := by
 obtain ⟨hn, hB, hc, hm, cur, hg, hs, ht⟩ := h.block
 have hn' : n = C.length + (D.length + 1) := by rw [hn]; simp
 have hC : ∀ d ∈ C, dok d := fun d hd => h.1 d (List.mem_append_left _ hd)
 have hD : ∀ d ∈ D, dok d := fun d hd => h.1 d (List.mem_append_right _ (List.mem_cons_of_mem _ hd))
 have hy : dok y := h.1 y (by simp)
 have hxl : (x.map (Value.int .u8)).length = 32 := by rw [List.length_map, hx.1]
 obtain ⟨cur', h1, h2⟩ := setCells_block (x.map (Value.int .u8)) (C.length * 32) w g cur _ hg (by rw [hxl]; omega)
 have hl2 : (C ++ x :: D).length = n := by rw [hn']; simp
 have hts : cur.toList.take (C.length * 32) = dcells C := by
  have e : cur.toList.take (C.length * 32) = (cur.toList.take (n * 32)).take (C.length * 32) := by rw [List.take_take, Nat.min_eq_left (by omega)]
  rw [e, ht, dcells_append, List.take_append_of_le_length (by rw [dcells_length hC]; omega), List.take_of_length_le (by rw [dcells_length hC]; omega)]
 have hdr : (cur.toList.drop (C.length * 32 + 32)).take (D.length * 32) = dcells D := by
  have e : (cur.toList.drop (C.length * 32 + 32)).take (D.length * 32) = (cur.toList.take (n * 32)).drop (C.length * 32 + 32) := by
   rw [List.drop_take]; congr 1; omega
  rw [e, ht, dcells_append, List.drop_append, dcells_length hC, List.drop_of_length_le (by rw [dcells_length hC]; omega), List.nil_append]
  rw [show C.length * 32 + 32 - C.length * 32 = 32 by omega, dcells, List.drop_append, List.length_map, hy.1, List.drop_of_length_le (by rw [List.length_map, hy.1]; omega)]
  simp
 rw [← hl2]
 refine Od.mk (fun d hd => ?_) hB (by rw [hl2]; exact hc) hm h1 ?_ ?_
 ·rcases List.mem_append.1 hd with h3 | h3
  ·exact hC d h3
  ·rcases List.mem_cons.1 h3 with rfl | h3
   ·exact hx
   ·exact hD d h3
 ·have hc' : cur.toList.length = c * 32 := by rw [Array.length_toList]; exact hs
  have hl' : cur'.toList.length = c * 32 := by rw [h2, List.length_append, List.length_append, List.length_take, List.length_drop, hxl, hc']; omega
  rw [← hl', Array.length_toList]
 ·rw [h2, hts, hxl, hl2, List.append_assoc, List.take_append, dcells_length hC, List.take_of_length_le (by rw [dcells_length hC]; omega), List.take_append, hxl,
   List.take_of_length_le (by rw [hxl]; omega), dcells_append, dcells, show n * 32 - C.length * 32 - 32 = D.length * 32 by omega, hdr]
/-- stores behind the elements -/
theorem Od.over {w : World} {B g n c : Nat} {L : List (List Int)} (h : Od w B (.slice (some ⟨g, 0, none⟩) n c) L) (o : Nat) (vs : List Value) (ho : n * 32 ≤ o) (hl : o + vs.length ≤ c * 32) :
 Od (w.setCells g o vs) B (.slice (some ⟨g, 0, none⟩) n c) L := by
 obtain ⟨hn, hB, hc, hm, cur, hg, hs, ht⟩ := h.block
 obtain ⟨cur', h1, h2⟩ := setCells_block vs o w g cur _ hg (by omega)
 subst hn
 refine Od.mk h.1 hB hc hm h1 ?_ ?_
 ·have hc' : cur.toList.length = c * 32 := by rw [Array.length_toList]; exact hs
  have hl' : cur'.toList.length = c * 32 := by rw [h2, List.length_append, List.length_append, List.length_take, List.length_drop, hc']; omega
  rw [← hl', Array.length_toList]
 ·have hc' : cur.toList.length = c * 32 := by rw [Array.length_toList]; exact hs
  rw [h2, List.append_assoc, List.take_append_of_le_length (by rw [List.length_take, hc']; omega), List.take_take, Nat.min_eq_left (by omega), ht]
/-- clear(s) of digests -/
theorem run_clear_digs {P : Program} {w : World} {T E ty : TypeId} (hT : P.underlying T = some (.slice E)) (hz : ∀ w, (zeroValue E).run P w = .ok (.agg (bcs dzero)) w) (g o m c : Nat) (hm : 0 < m) (ht : w.there g o (m * 32)) :
 (Builtin.clear_ #[T] ty #[.slice (some ⟨g, o, none⟩) m c]).run P w = .ok (.tuple #[]) (w.setCells g o (Builtin.zeroCells (bcs dzero) m).toList) := by
 have hsz : (Builtin.zeroCells (bcs dzero) m).size = m * 32 := by simp [Builtin.zeroCells, bcs_size, dzero]
 have h := run_storeCells_cells (P := P) g o (Builtin.zeroCells (bcs dzero) m).toList 0 w (fun j hj => by simpa using (ht j (by rw [Array.length_toList, hsz] at hj; exact hj)).1) (fun j hj => by simpa using (ht j (by rw [Array.length_toList, hsz] at hj; exact hj)).2)
  (fun v hv => by
   simp only [Builtin.zeroCells, Array.toList_map, List.mem_map] at hv
   obtain ⟨i, _, rfl⟩ := hv
   have hb : i % (bcs dzero).size < (bcs dzero).size := Nat.mod_lt _ (by rw [bcs_size]; decide)
   rw [getElem!_pos (bcs dzero) _ hb]
   simp [bcs, Value.oneCell'])
 have e0 : m ≠ 0 := by omega
 obtain ⟨m', rfl⟩ : ∃ m', m = m' + 1 := ⟨m - 1, by omega⟩
 simp [Builtin.clear_, run_underlying hT, hz, Value.cells, h, Result.andThen]
/-- rows on plain lists: one more element -/
theorem drises_snoc {C : List (List Int)} {x : List Int} (h : drises C) (hx : ∀ y ∈ C, dlt y x = true) : drises (C ++ [x]) := by
 induction C with
 | nil => exact ⟨by simp, trivial⟩
 | cons y ys ih =>
   refine ⟨fun z hz => ?_, ih h.2 fun z hz => hx z (List.mem_cons_of_mem _ hz)⟩
   rcases List.mem_append.1 hz with h1 | h1
   ·exact h.1 z h1
   ·rw [List.mem_singleton] at h1; subst h1; exact hx y (by simp)
def dsorted (L : List (List Int)) : Prop := ∀ i j, i < j → j < L.length → dlt (L.getD j []) (L.getD i []) = false
theorem drow_new {n m : Nat} {L : List (List Int)} (hL : ∀ x ∈ L, x.length = n) (hs : dsorted L) (hm : m + 1 < L.length) (hne : L.getD (m + 1) [] ≠ L.getD m []) : drow (L.take (m + 2)) = drow (L.take (m + 1)) ++ [L.getD (m + 1) []] := by
 have hg : ∀ i, i < L.length → (L.getD i []).length = n := fun i hi => by
  rw [List.getD_eq_getElem?_getD, List.getElem?_eq_getElem hi]; exact hL _ (List.getElem_mem hi)
 have hmem : ∀ y, y ∈ L.take (m + 1) → dlt y (L.getD (m + 1) []) = true := by
  intro y hy
  obtain ⟨i, hi, rfl⟩ := List.getElem_of_mem hy
  have hi' : i < m + 1 := by rw [List.length_take] at hi; omega
  rw [List.getElem_take]
  have e : L[i]'(by omega) = L.getD i [] := by rw [List.getD_eq_getElem?_getD, List.getElem?_eq_getElem (by omega)]; rfl
  rw [e]
  have h1 : dlt (L.getD m []) (L.getD (m + 1) []) = true := by
   cases h : dlt (L.getD m []) (L.getD (m + 1) [])
   ·exact absurd (dlt_total (by rw [hg _ hm, hg _ (by omega)]) (hs m (m + 1) (by omega) hm) h) hne
   ·rfl
  by_cases him : i = m
  ·rw [him]; exact h1
  ·have h2 := hs i m (by omega) (by omega)
   cases h : dlt (L.getD i []) (L.getD m [])
   ·rw [← dlt_total (by rw [hg _ (by omega), hg _ (by omega)]) h2 h]; exact h1
   ·exact dlt_trans h h1
 have htl : ∀ k, ∀ x ∈ L.take k, x.length = n := fun k x hx => hL x (List.mem_of_mem_take hx)
 have e2 : L.take (m + 2) = L.take (m + 1) ++ [L.getD (m + 1) []] := by
  rw [List.take_succ_eq_append_getElem hm, List.getD_eq_getElem?_getD, List.getElem?_eq_getElem hm]; rfl
 refine drises_ext (drow_rises (htl _)) (drises_snoc (drow_rises (htl _)) fun y hy => hmem y ((drow_mem _ _).1 hy)) fun x => ?_
 rw [drow_mem, e2, List.mem_append, List.mem_append, drow_mem]
theorem drow_old {n m : Nat} {L : List (List Int)} (hL : ∀ x ∈ L, x.length = n) (hm : m + 1 < L.length) (heq : L.getD (m + 1) [] = L.getD m []) : drow (L.take (m + 2)) = drow (L.take (m + 1)) := by
 have htl : ∀ k, ∀ x ∈ L.take k, x.length = n := fun k x hx => hL x (List.mem_of_mem_take hx)
 have e2 : L.take (m + 2) = L.take (m + 1) ++ [L.getD (m + 1) []] := by
  rw [List.take_succ_eq_append_getElem hm, List.getD_eq_getElem?_getD, List.getElem?_eq_getElem hm]; rfl
 have hin : L.getD m [] ∈ L.take (m + 1) := by
  have hm' : m < L.length := by omega
  rw [List.take_succ_eq_append_getElem hm', List.getD_eq_getElem?_getD, List.getElem?_eq_getElem hm']
  exact List.mem_append_right _ (List.mem_singleton.2 rfl)
 refine drises_ext (drow_rises (htl _)) (drow_rises (htl _)) fun x => ?_
 rw [drow_mem, drow_mem, e2, List.mem_append, List.mem_singleton]
 exact ⟨fun h => h.elim id fun h => by rw [h, heq]; exact hin, Or.inl⟩
theorem drow_short {L : List (List Int)} (h : L.length < 2) : drow L = L := by
 match L, h with
 | [], _ => rfl
 | [x], _ => rfl
end Go.Proofs.YtpfbfhigelbfcaaGreat

