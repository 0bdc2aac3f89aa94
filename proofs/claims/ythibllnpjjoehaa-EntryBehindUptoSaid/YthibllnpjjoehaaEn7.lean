/- Blocks that hold a struct with a digest among its fields: some cells, 32 bytes, some cells; Words as they lie in memory: what a record says; Layer 19, plainly: entries of digests and of names -/
import Derived.Test.YthibllnpjjoehaaEn1
import Derived.Test.YthibllnpjjoehaaEn3
import Derived.Test.YthibllnpjjoehaaEn6
import Derived.Laws.ResultCell
set_option linter.unusedSimpArgs false
set_option linter.unusedVariables false
namespace Go.Proofs.Ythibllnpjjoehaa
set_option linter.unusedVariables false
open Go.RowKit Go.Lib

def mixL (a : List Value) (dg : List Int) (z : List Value) : List Value := a ++ (dg.map (Value.int .u8) ++ z)
def mixC (a : List Value) (dg : List Int) (z : List Value) : Array Value := (mixL a dg z).toArray
theorem mixL_length (a : List Value) (dg : List Int) (z : List Value) : (mixL a dg z).length = a.length + dg.length + z.length := by
  unfold mixL
  rw [List.length_append, List.length_append, List.length_map, Nat.add_assoc]
theorem mixC_size (a : List Value) (dg : List Int) (z : List Value) : (mixC a dg z).size = a.length + dg.length + z.length := by
  unfold mixC
  rw [List.size_toArray, mixL_length]
/-- block b holds such a struct -/
def Mx (w : World) (b : Nat) (t : TypeId) (a : List Value) (dg : List Int) (z : List Value) : Prop := w.heap[b]? = some (.cells (mixC a dg z) t (0, 0))
section
variable {w w' : World} {b : Nat} {t : TypeId} {a z : List Value} {dg : List Int}
theorem Mx.lt (h : Mx w b t a dg z) : b < w.heap.size := (Array.getElem?_eq_some_iff.1 h).1
theorem Mx.keep (h : Mx w b t a dg z) (e : w'.heap[b]? = w.heap[b]?) : Mx w' b t a dg z := e.trans h
theorem Mx.later (h : Mx w b t a dg z) (hb : Below w.heap.size w w') : Mx w' b t a dg z := h.keep (hb.block b h.lt)
theorem Mx.below {B : Nat} (h : Mx w b t a dg z) (hB : b < B) (hb : Below B w w') : Mx w' b t a dg z := h.keep (hb.block b hB)
theorem Mx.other (h : Mx w b t a dg z) (x : Addr) (v : Value) (hne : b ≠ x.block) : Mx (w.setCell x v) b t a dg z := h.keep (heap_setCell_other w x b v hne)
theorem Mx.at (h : Mx w b t a dg z) (j : Nat) : w.cell? ⟨b, j, none⟩ = (mixL a dg z)[j]? := by
  rw [cell_of_row w b j _ t _ h]
  simp [mixC]
theorem Mx.first (h : Mx w b t a dg z) (j : Nat) (v : Value) (hv : a[j]? = some v) : w.cell? ⟨b, j, none⟩ = some v := by
  rw [h.at, mixL, List.getElem?_append_left (List.getElem?_eq_some_iff.1 hv).1, hv]
theorem Mx.dig (h : Mx w b t a dg z) (j : Nat) (hj : j < dg.length) : w.cell? ⟨b, a.length + j, none⟩ = some (.int .u8 (dg.getD j 0)) := by
  rw [h.at, mixL, List.getElem?_append_right (by omega), Nat.add_sub_cancel_left, List.getElem?_append_left (by rw [List.length_map]; exact hj), List.getElem?_map, List.getD_eq_getElem?_getD, List.getElem?_eq_getElem hj]
  rfl
theorem Mx.last (h : Mx w b t a dg z) (hd : dg.length = 32) (j : Nat) (v : Value) (hv : z[j]? = some v) : w.cell? ⟨b, a.length + 32 + j, none⟩ = some v := by
  rw [h.at, mixL, List.getElem?_append_right (by omega), List.getElem?_append_right (by rw [List.length_map]; omega), List.length_map, hd, show a.length + 32 + j - a.length - 32 = j by omega, hv]
theorem Mx.frozen (h : Mx w b t a dg z) (j : Nat) : w.frozen? ⟨b, j, none⟩ = false := frozen_of_row w b j _ t h
theorem Mx.range (h : Mx w b t a dg z) : w.rangeAt b 0 (mixL a dg z) := by
  intro k v hv
  rw [Nat.zero_add, h.at, hv]
theorem Mx.digRange (h : Mx w b t a dg z) : w.rangeAt b a.length (dg.map (Value.int .u8)) := by
  intro k v hv
  rw [List.getElem?_map] at hv
  obtain ⟨x, hx, rfl⟩ := Option.map_eq_some_iff.1 hv
  rw [h.dig k (List.getElem?_eq_some_iff.1 hx).1, List.getD_eq_getElem?_getD, hx]
  rfl
/-- a field ahead of the digest is stored -/
theorem Mx.setFirst (h : Mx w b t a dg z) (j : Nat) (hj : j < a.length) (v : Value) : Mx (w.setCell ⟨b, j, none⟩ v) b t (a.set j v) dg z := by
  unfold Mx
  rw [heap_setCell_same w b j _ t _ h]
  unfold mixC mixL
  rw [List.setIfInBounds_toArray, List.set_append_left _ _ hj]
/-- .. behind it -/
theorem Mx.setLast (h : Mx w b t a dg z) (hd : dg.length = 32) (j : Nat) (v : Value) : Mx (w.setCell ⟨b, a.length + 32 + j, none⟩ v) b t a dg (z.set j v) := by
  unfold Mx
  rw [heap_setCell_same w b _ _ t _ h]
  unfold mixC mixL
  rw [List.setIfInBounds_toArray, List.set_append_right _ _ (by omega), List.set_append_right _ _ (by rw [List.length_map]; omega), List.length_map, hd, show a.length + 32 + j - a.length - 32 = j by omega]
theorem Mx.row {a' z' : List Value} {dg' : List Int} (h : Mx w b t a dg z) : Mx (w.setRow b (mixC a' dg' z')) b t a' dg' z' := setRow_heap w b _ _ t _ h
end
theorem mixC_one {a z : List Value} {dg : List Int} (ha : ∀ v ∈ a, v.oneCell' = true) (hz : ∀ v ∈ z, v.oneCell' = true) : (mixC a dg z).all (·.oneCell') = true :=
  all_oneCell_toArray fun v hv => by
    unfold mixL at hv
    rcases List.mem_append.1 hv with h | h
    · exact ha v h
    · rcases List.mem_append.1 h with h | h
      · obtain ⟨x, _, rfl⟩ := List.mem_map.1 h
        rfl
      · exact hz v h
/-- a whole struct is read -/
theorem Mx.load {P : Program} {w : World} {b : Nat} {t : TypeId} {a z : List Value} {dg : List Int} (h : Mx w b t a dg z) (ty : TypeId) {d : TypeDesc} (hu : P.underlying ty = some d) (hd : d.isRow = true) (hi : (P.info? ty).map (·.size) = some (mixC a dg z).size) :
    (Instr.loadAt ty (.pointer (some ⟨b, 0, none⟩))).run P w = .ok (.agg (mixC a dg z)) w :=
  run_loadAt_mid w b 0 ty (mixL a dg z) d h.range hu hd (by rw [hi]; rfl)
/-- the digest is read -/
theorem Mx.loadDig {P : Program} {w : World} {b : Nat} {t : TypeId} {a z : List Value} {dg : List Int} (h : Mx w b t a dg z) (ty : TypeId) {d : TypeDesc} (hu : P.underlying ty = some d) (hd : d.isRow = true) (hi : (P.info? ty).map (·.size) = some dg.length) (k : Nat) (hk : k = a.length) :
    (Instr.loadAt ty (.pointer (some ⟨b, k, none⟩))).run P w = .ok (.agg (bcs dg)) w := by
  subst hk
  exact run_loadAt_mid w b a.length ty (dg.map (Value.int .u8)) d h.digRange hu hd (by rw [hi, List.length_map])
theorem setCells_row (b : Nat) (t : TypeId) (s : List Value) : ∀ (vs p old : List Value) (w : World), w.heap[b]? = some (.cells (p ++ (old ++ s)).toArray t (0, 0)) → old.length = vs.length → (w.setCells b p.length vs).heap[b]? = some (.cells (p ++ (vs ++ s)).toArray t (0, 0))
  | [], p, old, w, h, hl => by
    obtain rfl : old = [] := List.length_eq_zero_iff.1 hl
    exact h
  | v :: vs, p, [], w, h, hl => by simp at hl
  | v :: vs, p, o :: old, w, h, hl => by
    have h1 : (w.setCell ⟨b, p.length, none⟩ v).heap[b]? = some (.cells ((p ++ [v]) ++ (old ++ s)).toArray t (0, 0)) := by
      rw [heap_setCell_same w b _ _ t _ h, List.setIfInBounds_toArray, List.set_append_right _ _ (Nat.le_refl _), Nat.sub_self]
      simp
    have h2 := setCells_row b t s vs (p ++ [v]) old (w.setCell ⟨b, p.length, none⟩ v) h1 (by simpa using hl)
    rw [List.length_append, List.length_singleton] at h2
    rw [World.setCells, h2]
    simp
theorem setCells_other (b k : Nat) (hk : k ≠ b) : ∀ (vs : List Value) (o : Nat) (w : World), (w.setCells b o vs).heap[k]? = w.heap[k]?
  | [], _, _ => rfl
  | v :: vs, o, w => by rw [World.setCells, setCells_other b k hk vs, heap_setCell_other _ ⟨b, o, none⟩ k v hk]
theorem below_setCells {B : Nat} {w0 : World} {b : Nat} (hB : B ≤ b) : ∀ (vs : List Value) (o : Nat) (w : World), Below B w0 w → Below B w0 (w.setCells b o vs)
  | [], _, _, h => h
  | v :: vs, o, w, h => below_setCells hB vs (o + 1) _ (h.setCell hB _)
/-- the digest is stored -/
theorem Mx.setDig {w : World} {b : Nat} {t : TypeId} {a z : List Value} {dg dg' : List Int} (h : Mx w b t a dg z) (hl : dg'.length = dg.length) (k : Nat) (hk : k = a.length) : Mx (w.setCells b k (dg'.map (Value.int .u8))) b t a dg' z := by
  subst hk
  exact setCells_row b t z _ a _ w h (by rw [List.length_map, List.length_map, hl])
theorem Mx.there {w : World} {b : Nat} {t : TypeId} {a z : List Value} {dg : List Int} (h : Mx w b t a dg z) (k n : Nat) (hk : k + n ≤ a.length + dg.length + z.length) : w.there b k n := fun j hj => by
  refine ⟨?_, h.frozen _⟩
  rw [h.at, List.getElem?_eq_getElem (by rw [mixL_length]; omega)]
  rfl
end Go.Proofs.Ythibllnpjjoehaa

namespace Go.Proofs.Ythibllnpjjoehaa
set_option linter.unusedVariables false
open Go.RowKit Go.Lib

/-- a word -/
structure Wq where
  k : Int
  s : Int
  dg : List Int
  nm : ByteArray
  z : Int
  seg : Int
  off : Int
  len : Int
def Wq.a (x : Wq) : List Value := [.int .i64 x.k, .int .u64 x.s]
def Wq.t (x : Wq) : List Value := [.string x.nm, .int .i64 x.z, .int .i64 x.seg, .int .i64 x.off, .int .i64 x.len]
def Wq.v (x : Wq) : Value := .agg (mixC x.a x.dg x.t)
def wq0 : Wq := ⟨0, 0, (List.replicate 32 0), ⟨#[]⟩, 0, 0, 0, 0⟩
theorem wq0C : mixC wq0.a wq0.dg wq0.t = #[.int .i64 0, .int .u64 0, .int .u8 0, .int .u8 0, .int .u8 0, .int .u8 0, .int .u8 0, .int .u8 0, .int .u8 0, .int .u8 0, .int .u8 0, .int .u8 0, .int .u8 0, .int .u8 0, .int .u8 0, .int .u8 0, .int .u8 0, .int .u8 0, .int .u8 0, .int .u8 0, .int .u8 0, .int .u8 0, .int .u8 0, .int .u8 0, .int .u8 0, .int .u8 0, .int .u8 0, .int .u8 0, .int .u8 0, .int .u8 0, .int .u8 0, .int .u8 0, .int .u8 0, .int .u8 0, .string ⟨#[]⟩, .int .i64 0, .int .i64 0, .int .i64 0, .int .i64 0] := rfl
/-- block b holds a word -/
def Wm (w : World) (b : Nat) (x : Wq) : Prop := Mx w b 33 x.a x.dg x.t
theorem size39 : (Try.prog.info? 33).map (·.size) = some 39 := by kernel_rfl
theorem Wq.size (x : Wq) (hd : x.dg.length = 32) : (mixC x.a x.dg x.t).size = 39 := by rw [mixC_size, hd]; rfl
theorem Wq.sizeOf (x : Wq) (hd : x.dg.length = 32) : (Try.prog.info? 33).map (·.size) = some (mixC x.a x.dg x.t).size := by rw [x.size hd]; exact size39
theorem Wq.sizes (x y : Wq) (hx : x.dg.length = 32) (hy : y.dg.length = 32) : (mixC x.a x.dg x.t).size = (mixC y.a y.dg y.t).size := by rw [x.size hx, y.size hy]
theorem Wq.one (x : Wq) : (mixC x.a x.dg x.t).all (·.oneCell') = true := mixC_one (by simp [Wq.a, Value.oneCell']) (by simp [Wq.t, Value.oneCell'])
theorem Wm.later {w w' : World} {b : Nat} {x : Wq} (h : Wm w b x) (hb : Below w.heap.size w w') : Wm w' b x := Mx.later h hb
theorem Wm.load {w : World} {b : Nat} {x : Wq} (h : Wm w b x) (hd : x.dg.length = 32) : (Instr.loadAt 33 (.pointer (some ⟨b, 0, none⟩))).run Try.prog w = .ok (.agg (mixC x.a x.dg x.t)) w :=
  Mx.load h _ Try.underlying33 rfl (x.sizeOf hd)
theorem Wm.res1 {fn : Func} {p : Tmp} {w : World} {g : Nat} {x : Wq} (hg : Wm w g x) (hd : x.dg.length = 32) (h : fn.results = #[.cell p 33]) (tmps : Array Value)
    (hp : tmps.getD p undef = .pointer (some ⟨g, 0, none⟩)) : (Go.results fn tmps).run Try.prog w = .ok x.v w :=
  results_cell_row h tmps w g _ _ _ _ hp hg Try.underlying33 rfl (x.sizeOf hd)
theorem Wm.cells {w : World} {b : Nat} {x : Wq} (h : Wm w b x) (hd : x.dg.length = 32) : w.cell? ⟨b, 34, none⟩ = some (.string x.nm) ∧ w.cell? ⟨b, 35, none⟩ = some (.int .i64 x.z) := ⟨Mx.last h hd 0 _ rfl, Mx.last h hd 1 _ rfl⟩
theorem Wm.setNm {w : World} {b : Nat} {x : Wq} (h : Wm w b x) (hd : x.dg.length = 32) (nm : ByteArray) : Wm (w.setCell ⟨b, 34, none⟩ (.string nm)) b { x with nm := nm } := Mx.setLast h hd 0 _
theorem Wm.setZ {w : World} {b : Nat} {x : Wq} (h : Wm w b x) (hd : x.dg.length = 32) (z : Int) : Wm (w.setCell ⟨b, 35, none⟩ (.int .i64 z)) b { x with z := z } := Mx.setLast h hd 1 _
theorem Wm.setDg {w : World} {b : Nat} {x : Wq} (h : Wm w b x) (hd : x.dg.length = 32) (dg : List Int) (hl : dg.length = 32) : Wm (w.setCells b 2 (bcs dg).toList) b { x with dg := dg } := by
  rw [show (bcs dg).toList = dg.map (Value.int .u8) by simp [bcs]]
  exact Mx.setDig h (by rw [hl, hd]) 2 rfl
end Go.Proofs.Ythibllnpjjoehaa

namespace Go.Proofs.Ythibllnpjjoehaa
set_option linter.unusedVariables false
open Go.RowKit Go.Lib

def rowI (l : List Int) : List Int := l.foldl putI []
theorem foldI_rises (l : List Int) {o : List Int} (h : irises o) : irises (l.foldl putI o) ∧ ∀ y, y ∈ l.foldl putI o ↔ y ∈ o ∨ y ∈ l := by
  induction l generalizing o with
  | nil => exact ⟨h, fun y => by simp⟩
  | cons x l ih =>
    obtain ⟨h1, h2⟩ := ih (putI_rises h x)
    refine ⟨h1, fun y => ?_⟩
    rw [List.foldl_cons, h2, mem_putI, List.mem_cons]
    constructor
    · rintro ((a | a) | a)
      · exact Or.inr (Or.inl a)
      · exact Or.inl a
      · exact Or.inr (Or.inr a)
    · rintro (a | a | a)
      · exact Or.inl (Or.inr a)
      · exact Or.inl (Or.inl a)
      · exact Or.inr a
theorem rowI_rises (l : List Int) : irises (rowI l) := (foldI_rises l List.Pairwise.nil).1
theorem mem_rowI {l : List Int} {y : Int} : y ∈ rowI l ↔ y ∈ l := by rw [rowI, (foldI_rises l List.Pairwise.nil).2]; simp
theorem putI_length (l : List Int) (n : Int) : (putI l n).length ≤ l.length + 1 := putIR_length n l false
theorem rowI_length (l : List Int) : (rowI l).length ≤ l.length := irises_len (rowI_rises l) fun i hi => mem_rowI.1 hi
theorem putrow_length (l : List Int) (n : Int) : (putI (rowI l) n).length ≤ l.length + 1 := Nat.le_trans (putI_length _ _) (Nat.succ_le_succ (rowI_length l))
/-- those of a that are among b -/
def bothI (a b : List Int) : List Int := (a.filter fun x => decide (x ∈ b)).foldl putI []
theorem bothI_rises (a b : List Int) : irises (bothI a b) := (foldI_rises _ List.Pairwise.nil).1
theorem mem_bothI {a b : List Int} {y : Int} : y ∈ bothI a b ↔ y ∈ a ∧ y ∈ b := by
  rw [bothI, (foldI_rises _ List.Pairwise.nil).2, List.mem_filter]
  simp
theorem bothI_length (a b : List Int) : (bothI a b).length ≤ a.length := irises_len (bothI_rises a b) fun i hi => (mem_bothI.1 hi).1
def aliveB (gone : Bool) (l : List Int) (seg : Int) : Bool := !gone || l.any fun x => decide (x ≠ seg)
/-- an entry of a digest -/
structure Pe where
  dg : List Int
  k : Int
  z : Int
  seg : Int
  off : Int
  len : Int
  ins : List Int
/-- an entry of a name -/
structure Pt where
  nm : ByteArray
  dg : List Int
  gone : Bool
  seg : Int
  off : Int
  len : Int
  ins : List Int
def dz32 : List Int := List.replicate 32 0
def zeroE : Pe := ⟨dz32, 0, 0, 0, 0, 0, []⟩
def zeroT : Pt := ⟨⟨#[]⟩, dz32, false, 0, 0, 0, []⟩
def putE (e : Pe) (w : Wq) : Pe := ⟨w.dg, w.k, w.z, w.seg, w.off, w.len, putI (rowI e.ins) w.seg⟩
def delE (e : Pe) (w : Wq) : Pe := ⟨e.dg, 5, 0, w.seg, w.off, w.len, rowI e.ins⟩
def tagT (t : Pt) (w : Wq) : Pt := ⟨w.nm, w.dg, false, w.seg, w.off, w.len, putI (rowI t.ins) w.seg⟩
def untT (t : Pt) (w : Wq) : Pt := ⟨t.nm, dz32, true, w.seg, w.off, w.len, rowI t.ins⟩
def keepE (e : Pe) (b : List Int) : Pe × Bool :=
  if e.seg ∈ b ∧ (e.k ≠ 5 ∨ bothI e.ins b ≠ []) then ({ e with ins := bothI e.ins b }, true)
  else if bothI e.ins b ≠ [] then (⟨e.dg, 5, 0, 0, 0, 0, bothI e.ins b⟩, true) else (zeroE, false)
def keepT (t : Pt) (b : List Int) : Pt × Bool :=
  if t.seg ∈ b ∧ (t.gone = false ∨ bothI t.ins b ≠ []) then ({ t with ins := bothI t.ins b }, true)
  else if bothI t.ins b ≠ [] then (⟨t.nm, dz32, true, 0, 0, 0, bothI t.ins b⟩, true) else (zeroT, false)
theorem bothI_more (l a b : List Int) : bothI (bothI l (a ++ b)) a = bothI l a :=
  irises_ext (bothI_rises _ _) (bothI_rises _ _) fun x => by
    rw [mem_bothI, mem_bothI, mem_bothI, List.mem_append]
    constructor
    · rintro ⟨⟨h1, _⟩, h2⟩
      exact ⟨h1, h2⟩
    · rintro ⟨h1, h2⟩
      exact ⟨⟨h1, Or.inl h2⟩, h2⟩
theorem bothI_none {l a b : List Int} (h : bothI l (a ++ b) = []) : bothI l a = [] := by
  rw [← bothI_more l a b, h]
  rfl
/-- P19.4 -/
theorem keepE_fewer (e : Pe) (a b : List Int) : ((keepE e (a ++ b)).2 = false ∧ (keepE e a).2 = false) ∨ ((keepE e (a ++ b)).2 = true ∧ keepE (keepE e (a ++ b)).1 a = keepE e a) := by
  by_cases h1 : e.seg ∈ a ++ b ∧ (e.k ≠ 5 ∨ bothI e.ins (a ++ b) ≠ [])
  · right
    have e1 : keepE e (a ++ b) = ({ e with ins := bothI e.ins (a ++ b) }, true) := by unfold keepE; rw [if_pos h1]
    rw [e1]
    refine ⟨rfl, ?_⟩
    unfold keepE
    dsimp only
    rw [bothI_more]
  · by_cases h2 : bothI e.ins (a ++ b) ≠ []
    · right
      have h3 : e.seg ∉ a ++ b := fun h => h1 ⟨h, Or.inr h2⟩
      have h4 : e.seg ∉ a := fun h => h3 (List.mem_append_left _ h)
      have e1 : keepE e (a ++ b) = (⟨e.dg, 5, 0, 0, 0, 0, bothI e.ins (a ++ b)⟩, true) := by unfold keepE; rw [if_neg h1, if_pos h2]
      rw [e1]
      refine ⟨rfl, ?_⟩
      have e2 : keepE e a = if bothI e.ins a ≠ [] then (⟨e.dg, 5, 0, 0, 0, 0, bothI e.ins a⟩, true) else (zeroE, false) := by
        unfold keepE
        rw [if_neg (fun h => h4 h.1)]
      rw [e2]
      show keepE ⟨e.dg, 5, 0, 0, 0, 0, bothI e.ins (a ++ b)⟩ a = _
      unfold keepE
      dsimp only
      rw [bothI_more]
      by_cases h5 : bothI e.ins a ≠ []
      · rw [if_pos h5]
        by_cases h6 : (0 : Int) ∈ a ∧ ((5 : Int) ≠ 5 ∨ bothI e.ins a ≠ [])
        · rw [if_pos h6]
        · rw [if_neg h6]
      · rw [if_neg h5, if_neg]
        rintro ⟨_, h7 | h7⟩
        · exact h7 rfl
        · exact h5 h7
    · left
      have h3 : bothI e.ins (a ++ b) = [] := Classical.not_not.1 h2
      have h4 := bothI_none h3
      refine ⟨by unfold keepE; rw [if_neg h1, if_neg h2], ?_⟩
      unfold keepE
      rw [if_neg, if_neg (fun h => h h4)]
      rintro ⟨h5, h6 | h6⟩
      · exact h1 ⟨List.mem_append_left _ h5, Or.inl h6⟩
      · exact h6 h4
theorem keepE_length (e : Pe) (b : List Int) : (keepE e b).1.ins.length ≤ e.ins.length := by
  have := bothI_length e.ins b
  unfold keepE
  split
  · exact this
  · split
    · exact this
    · exact Nat.zero_le _
theorem keepT_length (e : Pt) (b : List Int) : (keepT e b).1.ins.length ≤ e.ins.length := by
  have := bothI_length e.ins b
  unfold keepT
  split
  · exact this
  · split
    · exact this
    · exact Nat.zero_le _
end Go.Proofs.Ythibllnpjjoehaa
