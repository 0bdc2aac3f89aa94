/- Blocks that hold a struct with a digest among its fields: some cells, 32 bytes, some cells; Words as they lie in memory: what a record says; Layer 19, plainly: entries of digests and of names; Layer 20, plainly: rows of entries, rising by their digests -/
import Derived.Test.YtclfghmgcioilaaGreatId1
import Derived.Test.YtclfghmgcioilaaGreatId2
import Derived.Test.YtclfghmgcioilaaGreatId3
import Derived.Test.YtclfghmgcioilaaGreatId6
import Derived.Laws.ResultCell
set_option linter.unusedSimpArgs false
set_option linter.unusedVariables false
namespace Go.Proofs.YtclfghmgcioilaaGreat
set_option linter.unusedVariables false
open Go.RowKit Go.Lib

def mixL (a : List Value) (dg : List Int) (z : List Value) : List Value := a ++ (dg.map (Value.int .u8) ++ z)
def mixC (a : List Value) (dg : List Int) (z : List Value) : Array Value := (mixL a dg z).toArray
theorem mixL_length (a : List Value) (dg : List Int) (z : List Value) : (mixL a dg z).length = a.length + dg.length + z.length := by
  unfold mixL
  rw [List.length_append, List.length_append, List.length_map, Nat.add_assoc]
theorem mixC_size (a : List Value) (dg : List Int) (z : List Value) : (mixC a dg z).size = a.length + dg.length + z.length := by
  unfold mixC
  rw [List.size_toArray, mixL_length]
/-- block b holds such a struct -/
def Mx (w : World) (b : Nat) (t : TypeId) (a : List Value) (dg : List Int) (z : List Value) : Prop := w.heap[b]? = some (.cells (mixC a dg z) t (0, 0))
section
variable {w w' : World} {b : Nat} {t : TypeId} {a z : List Value} {dg : List Int}
theorem Mx.lt (h : Mx w b t a dg z) : b < w.heap.size := (Array.getElem?_eq_some_iff.1 h).1
theorem Mx.keep (h : Mx w b t a dg z) (e : w'.heap[b]? = w.heap[b]?) : Mx w' b t a dg z := e.trans h
theorem Mx.later (h : Mx w b t a dg z) (hb : Below w.heap.size w w') : Mx w' b t a dg z := h.keep (hb.block b h.lt)
theorem Mx.below {B : Nat} (h : Mx w b t a dg z) (hB : b < B) (hb : Below B w w') : Mx w' b t a dg z := h.keep (hb.block b hB)
theorem Mx.other (h : Mx w b t a dg z) (x : Addr) (v : Value) (hne : b ≠ x.block) : Mx (w.setCell x v) b t a dg z := h.keep (heap_setCell_other w x b v hne)
theorem Mx.at (h : Mx w b t a dg z) (j : Nat) : w.cell? ⟨b, j, none⟩ = (mixL a dg z)[j]? := by
  rw [cell_of_row w b j _ t _ h]
  simp [mixC]
theorem Mx.first (h : Mx w b t a dg z) (j : Nat) (v : Value) (hv : a[j]? = some v) : w.cell? ⟨b, j, none⟩ = some v := by
  rw [h.at, mixL, List.getElem?_append_left (List.getElem?_eq_some_iff.1 hv).1, hv]
theorem Mx.dig (h : Mx w b t a dg z) (j : Nat) (hj : j < dg.length) : w.cell? ⟨b, a.length + j, none⟩ = some (.int .u8 (dg.getD j 0)) := by
  rw [h.at, mixL, List.getElem?_append_right (by omega), Nat.add_sub_cancel_left, List.getElem?_append_left (by rw [List.length_map]; exact hj), List.getElem?_map, List.getD_eq_getElem?_getD, List.getElem?_eq_getElem hj]
  rfl
theorem Mx.last (h : Mx w b t a dg z) (hd : dg.length = 32) (j : Nat) (v : Value) (hv : z[j]? = some v) : w.cell? ⟨b, a.length + 32 + j, none⟩ = some v := by
  rw [h.at, mixL, List.getElem?_append_right (by omega), List.getElem?_append_right (by rw [List.length_map]; omega), List.length_map, hd, show a.length + 32 + j - a.length - 32 = j by omega, hv]
theorem Mx.frozen (h : Mx w b t a dg z) (j : Nat) : w.frozen? ⟨b, j, none⟩ = false := frozen_of_row w b j _ t h
theorem Mx.range (h : Mx w b t a dg z) : w.rangeAt b 0 (mixL a dg z) := by
  intro k v hv
  rw [Nat.zero_add, h.at, hv]
theorem Mx.digRange (h : Mx w b t a dg z) : w.rangeAt b a.length (dg.map (Value.int .u8)) := by
  intro k v hv
  rw [List.getElem?_map] at hv
  obtain ⟨x, hx, rfl⟩ := Option.map_eq_some_iff.1 hv
  rw [h.dig k (List.getElem?_eq_some_iff.1 hx).1, List.getD_eq_getElem?_getD, hx]
  rfl
/-- a field ahead of the digest is stored -/
theorem Mx.setFirst (h : Mx w b t a dg z) (j : Nat) (hj : j < a.length) (v : Value) : Mx (w.setCell ⟨b, j, none⟩ v) b t (a.set j v) dg z := by
  unfold Mx
  rw [heap_setCell_same w b j _ t _ h]
  unfold mixC mixL
  rw [List.setIfInBounds_toArray, List.set_append_left _ _ hj]
/-- .. behind it -/
theorem Mx.setLast (h : Mx w b t a dg z) (hd : dg.length = 32) (j : Nat) (v : Value) : Mx (w.setCell ⟨b, a.length + 32 + j, none⟩ v) b t a dg (z.set j v) := by
  unfold Mx
  rw [heap_setCell_same w b _ _ t _ h]
  unfold mixC mixL
  rw [List.setIfInBounds_toArray, List.set_append_right _ _ (by omega), List.set_append_right _ _ (by rw [List.length_map]; omega), List.length_map, hd, show a.length + 32 + j - a.length - 32 = j by omega]
theorem Mx.row {a' z' : List Value} {dg' : List Int} (h : Mx w b t a dg z) : Mx (w.setRow b (mixC a' dg' z')) b t a' dg' z' := setRow_heap w b _ _ t _ h
end
theorem mixC_one {a z : List Value} {dg : List Int} (ha : ∀ v ∈ a, v.oneCell' = true) (hz : ∀ v ∈ z, v.oneCell' = true) : (mixC a dg z).all (·.oneCell') = true :=
  all_oneCell_toArray fun v hv => by
    unfold mixL at hv
    rcases List.mem_append.1 hv with h | h
    · exact ha v h
    · rcases List.mem_append.1 h with h | h
      · obtain ⟨x, _, rfl⟩ := List.mem_map.1 h
        rfl
      · exact hz v h
/-- a whole struct is read -/
theorem Mx.load {P : Program} {w : World} {b : Nat} {t : TypeId} {a z : List Value} {dg : List Int} (h : Mx w b t a dg z) (ty : TypeId) {d : TypeDesc} (hu : P.underlying ty = some d) (hd : d.isRow = true) (hi : (P.info? ty).map (·.size) = some (mixC a dg z).size) :
    (Instr.loadAt ty (.pointer (some ⟨b, 0, none⟩))).run P w = .ok (.agg (mixC a dg z)) w :=
  run_loadAt_mid w b 0 ty (mixL a dg z) d h.range hu hd (by rw [hi]; rfl)
/-- the digest is read -/
theorem Mx.loadDig {P : Program} {w : World} {b : Nat} {t : TypeId} {a z : List Value} {dg : List Int} (h : Mx w b t a dg z) (ty : TypeId) {d : TypeDesc} (hu : P.underlying ty = some d) (hd : d.isRow = true) (hi : (P.info? ty).map (·.size) = some dg.length) (k : Nat) (hk : k = a.length) :
    (Instr.loadAt ty (.pointer (some ⟨b, k, none⟩))).run P w = .ok (.agg (bcs dg)) w := by
  subst hk
  exact run_loadAt_mid w b a.length ty (dg.map (Value.int .u8)) d h.digRange hu hd (by rw [hi, List.length_map])
theorem setCells_row (b : Nat) (t : TypeId) (s : List Value) : ∀ (vs p old : List Value) (w : World), w.heap[b]? = some (.cells (p ++ (old ++ s)).toArray t (0, 0)) → old.length = vs.length → (w.setCells b p.length vs).heap[b]? = some (.cells (p ++ (vs ++ s)).toArray t (0, 0))
  | [], p, old, w, h, hl => by
    obtain rfl : old = [] := List.length_eq_zero_iff.1 hl
    exact h
  | v :: vs, p, [], w, h, hl => by simp at hl
  | v :: vs, p, o :: old, w, h, hl => by
    have h1 : (w.setCell ⟨b, p.length, none⟩ v).heap[b]? = some (.cells ((p ++ [v]) ++ (old ++ s)).toArray t (0, 0)) := by
      rw [heap_setCell_same w b _ _ t _ h, List.setIfInBounds_toArray, List.set_append_right _ _ (Nat.le_refl _), Nat.sub_self]
      simp
    have h2 := setCells_row b t s vs (p ++ [v]) old (w.setCell ⟨b, p.length, none⟩ v) h1 (by simpa using hl)
    rw [List.length_append, List.length_singleton] at h2
    rw [World.setCells, h2]
    simp
theorem setCells_other (b k : Nat) (hk : k ≠ b) : ∀ (vs : List Value) (o : Nat) (w : World), (w.setCells b o vs).heap[k]? = w.heap[k]?
  | [], _, _ => rfl
  | v :: vs, o, w => by rw [World.setCells, setCells_other b k hk vs, heap_setCell_other _ ⟨b, o, none⟩ k v hk]
theorem below_setCells {B : Nat} {w0 : World} {b : Nat} (hB : B ≤ b) : ∀ (vs : List Value) (o : Nat) (w : World), Below B w0 w → Below B w0 (w.setCells b o vs)
  | [], _, _, h => h
  | v :: vs, o, w, h => below_setCells hB vs (o + 1) _ (h.setCell hB _)
/-- the digest is stored -/
theorem Mx.setDig {w : World} {b : Nat} {t : TypeId} {a z : List Value} {dg dg' : List Int} (h : Mx w b t a dg z) (hl : dg'.length = dg.length) (k : Nat) (hk : k = a.length) : Mx (w.setCells b k (dg'.map (Value.int .u8))) b t a dg' z := by
  subst hk
  exact setCells_row b t z _ a _ w h (by rw [List.length_map, List.length_map, hl])
theorem Mx.there {w : World} {b : Nat} {t : TypeId} {a z : List Value} {dg : List Int} (h : Mx w b t a dg z) (k n : Nat) (hk : k + n ≤ a.length + dg.length + z.length) : w.there b k n := fun j hj => by
  refine ⟨?_, h.frozen _⟩
  rw [h.at, List.getElem?_eq_getElem (by rw [mixL_length]; omega)]
  rfl
end Go.Proofs.YtclfghmgcioilaaGreat

namespace Go.Proofs.YtclfghmgcioilaaGreat
set_option linter.unusedVariables false
open Go.RowKit Go.Lib

/-- a word -/
structure Wq where
  k : Int
  s : Int
  dg : List Int
  nm : ByteArray
  z : Int
  seg : Int
  off : Int
  len : Int
def Wq.a (x : Wq) : List Value := [.int .i64 x.k, .int .u64 x.s]
def Wq.t (x : Wq) : List Value := [.string x.nm, .int .i64 x.z, .int .i64 x.seg, .int .i64 x.off, .int .i64 x.len]
def Wq.v (x : Wq) : Value := .agg (mixC x.a x.dg x.t)
def wq0 : Wq := ⟨0, 0, (List.replicate 32 0), ⟨#[]⟩, 0, 0, 0, 0⟩
theorem wq0C : mixC wq0.a wq0.dg wq0.t = #[.int .i64 0, .int .u64 0, .int .u8 0, .int .u8 0, .int .u8 0, .int .u8 0, .int .u8 0, .int .u8 0, .int .u8 0, .int .u8 0, .int .u8 0, .int .u8 0, .int .u8 0, .int .u8 0, .int .u8 0, .int .u8 0, .int .u8 0, .int .u8 0, .int .u8 0, .int .u8 0, .int .u8 0, .int .u8 0, .int .u8 0, .int .u8 0, .int .u8 0, .int .u8 0, .int .u8 0, .int .u8 0, .int .u8 0, .int .u8 0, .int .u8 0, .int .u8 0, .int .u8 0, .int .u8 0, .string ⟨#[]⟩, .int .i64 0, .int .i64 0, .int .i64 0, .int .i64 0] := rfl
/-- block b holds a word -/
def Wm (w : World) (b : Nat) (x : Wq) : Prop := Mx w b 33 x.a x.dg x.t
theorem size39 : (Tryz.prog.info? 33).map (·.size) = some 39 := by kernel_rfl
theorem Wq.size (x : Wq) (hd : x.dg.length = 32) : (mixC x.a x.dg x.t).size = 39 := by rw [mixC_size, hd]; rfl
theorem Wq.sizeOf (x : Wq) (hd : x.dg.length = 32) : (Tryz.prog.info? 33).map (·.size) = some (mixC x.a x.dg x.t).size := by rw [x.size hd]; exact size39
theorem Wq.sizes (x y : Wq) (hx : x.dg.length = 32) (hy : y.dg.length = 32) : (mixC x.a x.dg x.t).size = (mixC y.a y.dg y.t).size := by rw [x.size hx, y.size hy]
theorem Wq.one (x : Wq) : (mixC x.a x.dg x.t).all (·.oneCell') = true := mixC_one (by simp [Wq.a, Value.oneCell']) (by simp [Wq.t, Value.oneCell'])
theorem Wm.later {w w' : World} {b : Nat} {x : Wq} (h : Wm w b x) (hb : Below w.heap.size w w') : Wm w' b x := Mx.later h hb
theorem Wm.load {w : World} {b : Nat} {x : Wq} (h : Wm w b x) (hd : x.dg.length = 32) : (Instr.loadAt 33 (.pointer (some ⟨b, 0, none⟩))).run Tryz.prog w = .ok (.agg (mixC x.a x.dg x.t)) w :=
  Mx.load h _ Tryz.underlying33 rfl (x.sizeOf hd)
theorem Wm.res1 {fn : Func} {p : Tmp} {w : World} {g : Nat} {x : Wq} (hg : Wm w g x) (hd : x.dg.length = 32) (h : fn.results = #[.cell p 33]) (tmps : Array Value)
    (hp : tmps.getD p undef = .pointer (some ⟨g, 0, none⟩)) : (Go.results fn tmps).run Tryz.prog w = .ok x.v w :=
  results_cell_row h tmps w g _ _ _ _ hp hg Tryz.underlying33 rfl (x.sizeOf hd)
theorem Wm.cells {w : World} {b : Nat} {x : Wq} (h : Wm w b x) (hd : x.dg.length = 32) : w.cell? ⟨b, 34, none⟩ = some (.string x.nm) ∧ w.cell? ⟨b, 35, none⟩ = some (.int .i64 x.z) := ⟨Mx.last h hd 0 _ rfl, Mx.last h hd 1 _ rfl⟩
theorem Wm.setNm {w : World} {b : Nat} {x : Wq} (h : Wm w b x) (hd : x.dg.length = 32) (nm : ByteArray) : Wm (w.setCell ⟨b, 34, none⟩ (.string nm)) b { x with nm := nm } := Mx.setLast h hd 0 _
theorem Wm.setZ {w : World} {b : Nat} {x : Wq} (h : Wm w b x) (hd : x.dg.length = 32) (z : Int) : Wm (w.setCell ⟨b, 35, none⟩ (.int .i64 z)) b { x with z := z } := Mx.setLast h hd 1 _
theorem Wm.setDg {w : World} {b : Nat} {x : Wq} (h : Wm w b x) (hd : x.dg.length = 32) (dg : List Int) (hl : dg.length = 32) : Wm (w.setCells b 2 (bcs dg).toList) b { x with dg := dg } := by
  rw [show (bcs dg).toList = dg.map (Value.int .u8) by simp [bcs]]
  exact Mx.setDig h (by rw [hl, hd]) 2 rfl
end Go.Proofs.YtclfghmgcioilaaGreat

namespace Go.Proofs.YtclfghmgcioilaaGreat
set_option linter.unusedVariables false
open Go.RowKit Go.Lib

def rowI (l : List Int) : List Int := l.foldl putI []
theorem foldI_rises (l : List Int) {o : List Int} (h : irises o) : irises (l.foldl putI o) ∧ ∀ y, y ∈ l.foldl putI o ↔ y ∈ o ∨ y ∈ l := by
  induction l generalizing o with
  | nil => exact ⟨h, fun y => by simp⟩
  | cons x l ih =>
    obtain ⟨h1, h2⟩ := ih (putI_rises h x)
    refine ⟨h1, fun y => ?_⟩
    rw [List.foldl_cons, h2, mem_putI, List.mem_cons]
    constructor
    · rintro ((a | a) | a)
      · exact Or.inr (Or.inl a)
      · exact Or.inl a
      · exact Or.inr (Or.inr a)
    · rintro (a | a | a)
      · exact Or.inl (Or.inr a)
      · exact Or.inl (Or.inl a)
      · exact Or.inr a
theorem rowI_rises (l : List Int) : irises (rowI l) := (foldI_rises l List.Pairwise.nil).1
theorem mem_rowI {l : List Int} {y : Int} : y ∈ rowI l ↔ y ∈ l := by rw [rowI, (foldI_rises l List.Pairwise.nil).2]; simp
theorem putI_length (l : List Int) (n : Int) : (putI l n).length ≤ l.length + 1 := putIR_length n l false
theorem rowI_length (l : List Int) : (rowI l).length ≤ l.length := irises_len (rowI_rises l) fun i hi => mem_rowI.1 hi
theorem putrow_length (l : List Int) (n : Int) : (putI (rowI l) n).length ≤ l.length + 1 := Nat.le_trans (putI_length _ _) (Nat.succ_le_succ (rowI_length l))
/-- those of a that are among b -/
def bothI (a b : List Int) : List Int := (a.filter fun x => decide (x ∈ b)).foldl putI []
theorem bothI_rises (a b : List Int) : irises (bothI a b) := (foldI_rises _ List.Pairwise.nil).1
theorem mem_bothI {a b : List Int} {y : Int} : y ∈ bothI a b ↔ y ∈ a ∧ y ∈ b := by
  rw [bothI, (foldI_rises _ List.Pairwise.nil).2, List.mem_filter]
  simp
theorem bothI_length (a b : List Int) : (bothI a b).length ≤ a.length := irises_len (bothI_rises a b) fun i hi => (mem_bothI.1 hi).1
def aliveB (gone : Bool) (l : List Int) (seg : Int) : Bool := !gone || l.any fun x => decide (x ≠ seg)
/-- an entry of a digest -/
structure Pe where
  dg : List Int
  k : Int
  z : Int
  seg : Int
  off : Int
  len : Int
  ins : List Int
/-- an entry of a name -/
structure Pt where
  nm : ByteArray
  dg : List Int
  gone : Bool
  seg : Int
  off : Int
  len : Int
  ins : List Int
def dz32 : List Int := List.replicate 32 0
def zeroE : Pe := ⟨dz32, 0, 0, 0, 0, 0, []⟩
def zeroT : Pt := ⟨⟨#[]⟩, dz32, false, 0, 0, 0, []⟩
def putE (e : Pe) (w : Wq) : Pe := ⟨w.dg, w.k, w.z, w.seg, w.off, w.len, putI (rowI e.ins) w.seg⟩
def delE (e : Pe) (w : Wq) : Pe := ⟨e.dg, 5, 0, w.seg, w.off, w.len, rowI e.ins⟩
def tagT (t : Pt) (w : Wq) : Pt := ⟨w.nm, w.dg, false, w.seg, w.off, w.len, putI (rowI t.ins) w.seg⟩
def untT (t : Pt) (w : Wq) : Pt := ⟨t.nm, dz32, true, w.seg, w.off, w.len, rowI t.ins⟩
def keepE (e : Pe) (b : List Int) : Pe × Bool :=
  if e.seg ∈ b ∧ (e.k ≠ 5 ∨ bothI e.ins b ≠ []) then ({ e with ins := bothI e.ins b }, true)
  else if bothI e.ins b ≠ [] then (⟨e.dg, 5, 0, 0, 0, 0, bothI e.ins b⟩, true) else (zeroE, false)
def keepT (t : Pt) (b : List Int) : Pt × Bool :=
  if t.seg ∈ b ∧ (t.gone = false ∨ bothI t.ins b ≠ []) then ({ t with ins := bothI t.ins b }, true)
  else if bothI t.ins b ≠ [] then (⟨t.nm, dz32, true, 0, 0, 0, bothI t.ins b⟩, true) else (zeroT, false)
theorem bothI_more (l a b : List Int) : bothI (bothI l (a ++ b)) a = bothI l a :=
  irises_ext (bothI_rises _ _) (bothI_rises _ _) fun x => by
    rw [mem_bothI, mem_bothI, mem_bothI, List.mem_append]
    constructor
    · rintro ⟨⟨h1, _⟩, h2⟩
      exact ⟨h1, h2⟩
    · rintro ⟨h1, h2⟩
      exact ⟨⟨h1, Or.inl h2⟩, h2⟩
theorem bothI_none {l a b : List Int} (h : bothI l (a ++ b) = []) : bothI l a = [] := by
  rw [← bothI_more l a b, h]
  rfl
/-- P19.4 -/
theorem keepE_fewer (e : Pe) (a b : List Int) : ((keepE e (a ++ b)).2 = false ∧ (keepE e a).2 = false) ∨ ((keepE e (a ++ b)).2 = true ∧ keepE (keepE e (a ++ b)).1 a = keepE e a) := by
  by_cases h1 : e.seg ∈ a ++ b ∧ (e.k ≠ 5 ∨ bothI e.ins (a ++ b) ≠ [])
  · right
    have e1 : keepE e (a ++ b) = ({ e with ins := bothI e.ins (a ++ b) }, true) := by unfold keepE; rw [if_pos h1]
    rw [e1]
    refine ⟨rfl, ?_⟩
    unfold keepE
    dsimp only
    rw [bothI_more]
  · by_cases h2 : bothI e.ins (a ++ b) ≠ []
    · right
      have h3 : e.seg ∉ a ++ b := fun h => h1 ⟨h, Or.inr h2⟩
      have h4 : e.seg ∉ a := fun h => h3 (List.mem_append_left _ h)
      have e1 : keepE e (a ++ b) = (⟨e.dg, 5, 0, 0, 0, 0, bothI e.ins (a ++ b)⟩, true) := by unfold keepE; rw [if_neg h1, if_pos h2]
      rw [e1]
      refine ⟨rfl, ?_⟩
      have e2 : keepE e a = if bothI e.ins a ≠ [] then (⟨e.dg, 5, 0, 0, 0, 0, bothI e.ins a⟩, true) else (zeroE, false) := by
        unfold keepE
        rw [if_neg (fun h => h4 h.1)]
      rw [e2]
      show keepE ⟨e.dg, 5, 0, 0, 0, 0, bothI e.ins (a ++ b)⟩ a = _
      unfold keepE
      dsimp only
      rw [bothI_more]
      by_cases h5 : bothI e.ins a ≠ []
      · rw [if_pos h5]
        by_cases h6 : (0 : Int) ∈ a ∧ ((5 : Int) ≠ 5 ∨ bothI e.ins a ≠ [])
        · rw [if_pos h6]
        · rw [if_neg h6]
      · rw [if_neg h5, if_neg]
        rintro ⟨_, h7 | h7⟩
        · exact h7 rfl
        · exact h5 h7
    · left
      have h3 : bothI e.ins (a ++ b) = [] := Classical.not_not.1 h2
      have h4 := bothI_none h3
      refine ⟨by unfold keepE; rw [if_neg h1, if_neg h2], ?_⟩
      unfold keepE
      rw [if_neg, if_neg (fun h => h h4)]
      rintro ⟨h5, h6 | h6⟩
      · exact h1 ⟨List.mem_append_left _ h5, Or.inl h6⟩
      · exact h6 h4
theorem keepE_length (e : Pe) (b : List Int) : (keepE e b).1.ins.length ≤ e.ins.length := by
  have := bothI_length e.ins b
  unfold keepE
  split
  · exact this
  · split
    · exact this
    · exact Nat.zero_le _
theorem keepT_length (e : Pt) (b : List Int) : (keepT e b).1.ins.length ≤ e.ins.length := by
  have := bothI_length e.ins b
  unfold keepT
  split
  · exact this
  · split
    · exact this
    · exact Nat.zero_le _
end Go.Proofs.YtclfghmgcioilaaGreat

namespace Go.Proofs.YtclfghmgcioilaaGreat
set_option linter.unusedVariables false
open Go.RowKit Go.Lib

/-- the entry of a digest -/
def getE (l : List Pe) (d : List Int) : Option Pe := match l with
  | [] => none
  | x :: M => if x.dg = d then some x else getE M d
def getR (l : List Pe) (d : List Int) : Pe × Bool := match getE l d with
  | some x => (x, true)
  | none => (zeroE, false)
/-- an entry in its place: t: it was put already -/
def setB (e : Pe) : List Pe → Bool → List Pe
  | [], t => if t then [] else [e]
  | x :: M, t => (if t = false ∧ dlt x.dg e.dg = false then [e] else []) ++ ((if x.dg = e.dg then [] else [x]) ++ setB e M (t || !dlt x.dg e.dg))
def setE (l : List Pe) (e : Pe) : List Pe := setB e l false
def newE (l : List Pe) : List Pe := l.foldl setE []
def applyE (l : List Pe) (w : Wq) : List Pe :=
  if w.k = 1 ∨ w.k = 2 then setE l (putE (getR l w.dg).1 w)
  else if w.k = 5 ∧ (getR l w.dg).2 = true then setE l (delE (getR l w.dg).1 w) else l
def keepR (l : List Pe) (b : List Int) : List Pe := l.flatMap fun e => if (keepE e b).2 then [(keepE e b).1] else []
def cntE (l : List Pe) : Nat := (l.filter fun e => decide (e.k ≠ 5)).length
def sumE (l : List Pe) : Int := ((l.filter fun e => decide (e.k ≠ 5)).map (·.z)).sum
/-- by their digests, each once -/
def rowE (l : List Pe) : Prop := l.Pairwise fun a b => dlt a.dg b.dg = true
def dgsOk (l : List Pe) : Prop := ∀ x ∈ l, x.dg.length = 32
theorem getE_mem {l : List Pe} {d : List Int} {x : Pe} (h : getE l d = some x) : x ∈ l ∧ x.dg = d := by
  induction l with
  | nil => cases h
  | cons y M ih =>
    unfold getE at h
    split at h
    · cases h; exact ⟨List.mem_cons_self, by assumption⟩
    · obtain ⟨h1, h2⟩ := ih h
      exact ⟨List.mem_cons_of_mem _ h1, h2⟩
theorem getE_none {l : List Pe} {d : List Int} : getE l d = none ↔ ∀ x ∈ l, x.dg ≠ d := by
  induction l with
  | nil => simp [getE]
  | cons y M ih =>
    unfold getE
    by_cases h : y.dg = d
    · rw [if_pos h]
      constructor
      · intro h2; cases h2
      · intro h2; exact absurd h (h2 y List.mem_cons_self)
    · rw [if_neg h, ih]
      constructor
      · intro h2 x hx
        rcases List.mem_cons.1 hx with rfl | hx
        · exact h
        · exact h2 x hx
      · intro h2 x hx
        exact h2 x (List.mem_cons_of_mem _ hx)
theorem getE_is {l : List Pe} (hr : rowE l) {x : Pe} (hx : x ∈ l) : getE l x.dg = some x := by
  induction l with
  | nil => cases hx
  | cons y M ih =>
    obtain ⟨h1, h2⟩ := List.pairwise_cons.1 hr
    unfold getE
    rcases List.mem_cons.1 hx with rfl | hx
    · rw [if_pos rfl]
    · have h3 := h1 x hx
      rw [if_neg (fun e => by rw [e, dlt_self] at h3; cases h3)]
      exact ih h2 hx
theorem mem_setB (e : Pe) : ∀ l t y, y ∈ setB e l t ↔ (t = false ∧ y = e) ∨ (y ∈ l ∧ y.dg ≠ e.dg)
  | [], t, y => by cases t <;> simp [setB]
  | x :: M, t, y => by
    have ih := mem_setB e M (t || !dlt x.dg e.dg) y
    simp only [setB, List.mem_append, ih]
    by_cases h1 : x.dg = e.dg
    · rw [if_pos h1, h1, dlt_self]
      cases t <;> simp [h1] <;> grind
    · rw [if_neg h1]
      cases h2 : dlt x.dg e.dg <;> cases t <;> simp [h2] <;> grind
theorem mem_setE {l : List Pe} {e y : Pe} : y ∈ setE l e ↔ y = e ∨ (y ∈ l ∧ y.dg ≠ e.dg) := by rw [setE, mem_setB]; simp
theorem setB_length (e : Pe) : ∀ l t, (setB e l t).length ≤ l.length + (if t then 0 else 1)
  | [], t => by cases t <;> simp [setB]
  | x :: M, t => by
    have ih := setB_length e M (t || !dlt x.dg e.dg)
    simp only [setB, List.length_append, List.length_cons]
    by_cases h2 : x.dg = e.dg
    · have h : dlt x.dg e.dg = false := by rw [h2, dlt_self]
      rw [if_pos h2]
      rw [h] at ih ⊢
      cases t <;> simp at ih ⊢ <;> omega
    · rw [if_neg h2]
      cases h : dlt x.dg e.dg <;> rw [h] at ih <;> cases t <;> simp at ih ⊢ <;> omega
theorem setE_length (l : List Pe) (e : Pe) : (setE l e).length ≤ l.length + 1 := setB_length e l false
theorem setB_row (e : Pe) (he : e.dg.length = 32) : ∀ l t, rowE l → dgsOk l → (t = true → ∀ y ∈ l, dlt e.dg y.dg = true) → rowE (setB e l t)
  | [], t, _, _, _ => by
    cases t
    · exact List.pairwise_singleton _ _
    · exact List.Pairwise.nil
  | x :: M, t, hr, hd, ht => by
    obtain ⟨h1, h2⟩ := List.pairwise_cons.1 hr
    have hd2 : dgsOk M := fun y hy => hd y (List.mem_cons_of_mem _ hy)
    have hx := hd x List.mem_cons_self
    cases h3 : dlt x.dg e.dg with
    | true =>
      have htf : t = false := by
        cases t
        · rfl
        · have h4 := ht rfl x List.mem_cons_self
          rw [dlt_asymm h4] at h3
          cases h3
      subst htf
      have hne : x.dg ≠ e.dg := fun h => by rw [h, dlt_self] at h3; cases h3
      have ih := setB_row e he M false h2 hd2 (fun h => by cases h)
      simp only [setB, h3, Bool.not_true, Bool.or_false]
      rw [if_neg (fun h => by cases h.2), if_neg hne]
      refine List.pairwise_cons.2 ⟨fun y hy => ?_, ih⟩
      rcases (mem_setB e M false y).1 hy with ⟨_, rfl⟩ | ⟨hy, _⟩
      · exact h3
      · exact h1 y hy
    | false =>
      have hlt : ∀ y ∈ M, dlt e.dg y.dg = true := fun y hy => by
        cases h4 : dlt e.dg x.dg with
        | true => exact dlt_trans h4 (h1 y hy)
        | false => rw [dlt_total (by rw [he, hx]) h4 h3]; exact h1 y hy
      have ih := setB_row e he M true h2 hd2 (fun _ => hlt)
      have hlow : ∀ y ∈ setB e M true, dlt e.dg y.dg = true := fun y hy => by
        rcases (mem_setB e M true y).1 hy with ⟨h, _⟩ | ⟨hy, _⟩
        · cases h
        · exact hlt y hy
      simp only [setB, h3, Bool.not_false, Bool.or_true]
      by_cases h5 : x.dg = e.dg
      · rw [if_pos h5, List.nil_append]
        cases t
        · rw [if_pos ⟨rfl, trivial⟩]
          exact List.pairwise_cons.2 ⟨hlow, ih⟩
        · rw [if_neg (fun h => by cases h.1)]
          exact ih
      · have h6 : dlt e.dg x.dg = true := by
          cases h4 : dlt e.dg x.dg with
          | true => rfl
          | false => exact absurd (dlt_total (by rw [he, hx]) h3 h4) h5
        have hx2 : rowE (x :: setB e M true) := List.pairwise_cons.2 ⟨fun y hy => by
          rcases (mem_setB e M true y).1 hy with ⟨h, _⟩ | ⟨hy, _⟩
          · cases h
          · exact h1 y hy, ih⟩
        rw [if_neg h5]
        cases t
        · rw [if_pos ⟨rfl, trivial⟩]
          exact List.pairwise_cons.2 ⟨fun y hy => by
            rcases List.mem_cons.1 hy with rfl | hy
            · exact h6
            · exact hlow y hy, hx2⟩
        · rw [if_neg (fun h => by cases h.1)]
          exact hx2
theorem setE_row {l : List Pe} {e : Pe} (he : e.dg.length = 32) (hr : rowE l) (hd : dgsOk l) : rowE (setE l e) := setB_row e he l false hr hd (fun h => by cases h)
theorem setE_dgs {l : List Pe} {e : Pe} (he : e.dg.length = 32) (hd : dgsOk l) : dgsOk (setE l e) := fun y hy => by
  rcases mem_setE.1 hy with rfl | ⟨h, _⟩
  · exact he
  · exact hd y h
theorem rowE_ext {l m : List Pe} (hl : rowE l) (hm : rowE m) (h : ∀ x, x ∈ l ↔ x ∈ m) : l = m := by
  induction l generalizing m with
  | nil => cases m with
    | nil => rfl
    | cons y m => have := (h y).2 List.mem_cons_self; cases this
  | cons x l ih => cases m with
    | nil => have := (h x).1 List.mem_cons_self; cases this
    | cons y m =>
      obtain ⟨a1, a2⟩ := List.pairwise_cons.1 hl
      obtain ⟨b1, b2⟩ := List.pairwise_cons.1 hm
      have hxy : x = y := by
        rcases List.mem_cons.1 ((h x).1 List.mem_cons_self) with e | hx
        · exact e
        · rcases List.mem_cons.1 ((h y).2 List.mem_cons_self) with e | hy
          · exact e.symm
          · have h1 := b1 x hx
            have h2 := a1 y hy
            rw [dlt_asymm h1] at h2
            cases h2
      subst hxy
      congr 1
      refine ih a2 b2 fun z => ⟨fun hz => ?_, fun hz => ?_⟩
      · rcases List.mem_cons.1 ((h z).1 (List.mem_cons_of_mem _ hz)) with e | h1
        · subst e
          have := a1 _ hz
          rw [dlt_self] at this
          cases this
        · exact h1
      · rcases List.mem_cons.1 ((h z).2 (List.mem_cons_of_mem _ hz)) with e | h1
        · subst e
          have := b1 _ hz
          rw [dlt_self] at this
          cases this
        · exact h1
theorem newE_both (l : List Pe) (hd : dgsOk l) {o : List Pe} (ho : rowE o) (hod : dgsOk o) : rowE (l.foldl setE o) ∧ dgsOk (l.foldl setE o) := by
  induction l generalizing o with
  | nil => exact ⟨ho, hod⟩
  | cons x l ih =>
    have hx := hd x List.mem_cons_self
    exact ih (fun y hy => hd y (List.mem_cons_of_mem _ hy)) (setE_row hx ho hod) (setE_dgs hx hod)
theorem newE_row {l : List Pe} (hd : dgsOk l) : rowE (newE l) := (newE_both l hd List.Pairwise.nil (fun _ h => by cases h)).1
theorem newE_dgs {l : List Pe} (hd : dgsOk l) : dgsOk (newE l) := (newE_both l hd List.Pairwise.nil (fun _ h => by cases h)).2
theorem newE_snoc (l : List Pe) (x : Pe) : newE (l ++ [x]) = setE (newE l) x := by simp [newE, List.foldl_append]
theorem newE_length (l : List Pe) : (newE l).length ≤ l.length := by
  have : ∀ (l o : List Pe), (l.foldl setE o).length ≤ o.length + l.length := by
    intro l
    induction l with
    | nil => intro o; simp
    | cons x l ih =>
      intro o
      have h1 := ih (setE o x)
      have h2 := setE_length o x
      rw [List.foldl_cons, List.length_cons]
      omega
  simpa [newE] using this l []
/-- a rising row put anew is itself -/
theorem setE_last {l : List Pe} {x : Pe} (h : ∀ y ∈ l, dlt y.dg x.dg = true) : setE l x = l ++ [x] := by
  unfold setE
  induction l with
  | nil => rfl
  | cons y M ih =>
    have h1 := h y List.mem_cons_self
    have hne : y.dg ≠ x.dg := fun e => by rw [e, dlt_self] at h1; cases h1
    simp only [setB, h1, Bool.not_true, Bool.or_false]
    rw [if_neg (fun h => by cases h.2), if_neg hne, ih (fun z hz => h z (List.mem_cons_of_mem _ hz))]
    rfl
theorem newE_self {l : List Pe} (h : rowE l) : newE l = l := by
  have : ∀ (m o : List Pe), rowE (o ++ m) → m.foldl setE o = o ++ m := by
    intro m
    induction m with
    | nil => intro o _; simp
    | cons x m ih =>
      intro o ho
      rw [List.foldl_cons, setE_last (fun y hy => (List.pairwise_append.1 ho).2.2 y hy x List.mem_cons_self), ih (o ++ [x]) (by simpa using ho)]
      simp
  simpa [newE] using this l [] h
theorem getR_dok {l : List Pe} {d : List Int} (hl : dgsOk l) : (getR l d).1.dg.length = 32 := by
  unfold getR
  cases h : getE l d with
  | none => rfl
  | some x => exact hl x (getE_mem h).1
theorem keepE_dg {e : Pe} {b : List Int} (h : (keepE e b).2 = true) : (keepE e b).1.dg = e.dg := by
  unfold keepE at h ⊢
  split
  · rfl
  · split
    · rfl
    · rename_i h1 h2
      rw [if_neg h1, if_neg h2] at h
      cases h
theorem keepR_cons (e : Pe) (l : List Pe) (b : List Int) : keepR (e :: l) b = (if (keepE e b).2 then [(keepE e b).1] else []) ++ keepR l b := by
  unfold keepR
  rw [List.flatMap_cons]
theorem mem_keepR {l : List Pe} {b : List Int} {y : Pe} : y ∈ keepR l b ↔ ∃ x ∈ l, (keepE x b).2 = true ∧ y = (keepE x b).1 := by
  unfold keepR
  rw [List.mem_flatMap]
  constructor
  · rintro ⟨x, hx, hy⟩
    split at hy
    · rw [List.mem_singleton] at hy; exact ⟨x, hx, by assumption, hy⟩
    · cases hy
  · rintro ⟨x, hx, h1, h2⟩
    exact ⟨x, hx, by rw [if_pos h1, h2]; exact List.mem_singleton.2 rfl⟩
theorem keepR_row {l : List Pe} (h : rowE l) (b : List Int) : rowE (keepR l b) := by
  induction l with
  | nil => exact List.Pairwise.nil
  | cons x l ih =>
    obtain ⟨h1, h2⟩ := List.pairwise_cons.1 h
    rw [keepR_cons]
    split
    · rename_i hk
      refine List.pairwise_cons.2 ⟨fun y hy => ?_, ih h2⟩
      obtain ⟨z, hz, h3, rfl⟩ := mem_keepR.1 hy
      rw [keepE_dg hk, keepE_dg h3]
      exact h1 z hz
    · exact ih h2
theorem keepR_dgs {l : List Pe} (h : dgsOk l) (b : List Int) : dgsOk (keepR l b) := fun y hy => by
  obtain ⟨x, hx, h1, rfl⟩ := mem_keepR.1 hy
  rw [keepE_dg h1]
  exact h x hx
theorem keepR_length (l : List Pe) (b : List Int) : (keepR l b).length ≤ l.length := by
  induction l with
  | nil => exact Nat.le_refl _
  | cons x l ih =>
    rw [keepR_cons, List.length_append, List.length_cons]
    split <;> simp <;> omega
theorem applyE_both {l : List Pe} {w : Wq} (hr : rowE l) (hd : dgsOk l) (hw : w.dg.length = 32) : rowE (applyE l w) ∧ dgsOk (applyE l w) := by
  unfold applyE
  split
  · exact ⟨setE_row (by exact hw) hr hd, setE_dgs (by exact hw) hd⟩
  · split
    · exact ⟨setE_row (getR_dok hd) hr hd, setE_dgs (getR_dok hd) hd⟩
    · exact ⟨hr, hd⟩
theorem applyE_length (l : List Pe) (w : Wq) : (applyE l w).length ≤ l.length + 1 := by
  unfold applyE
  split
  · exact setE_length _ _
  · split
    · exact setE_length _ _
    · omega
/-- how long the rows of segments may be -/
def insLe (l : List Pe) (k : Nat) : Prop := ∀ x ∈ l, x.ins.length ≤ k
theorem getR_ins {l : List Pe} {k : Nat} (h : insLe l k) (d : List Int) : (getR l d).1.ins.length ≤ k := by
  unfold getR
  cases h2 : getE l d with
  | none => exact Nat.zero_le _
  | some x => exact h x (getE_mem h2).1
theorem setE_ins {l : List Pe} {e : Pe} {k : Nat} (h : insLe l k) (he : e.ins.length ≤ k) : insLe (setE l e) k := fun y hy => by
  rcases mem_setE.1 hy with rfl | ⟨h1, _⟩
  · exact he
  · exact h y h1
theorem newE_ins {l : List Pe} {k : Nat} (h : insLe l k) : insLe (newE l) k := by
  have : ∀ (m o : List Pe), insLe m k → insLe o k → insLe (m.foldl setE o) k := by
    intro m
    induction m with
    | nil => intro o _ ho; exact ho
    | cons x m ih => intro o hm ho; exact ih _ (fun y hy => hm y (List.mem_cons_of_mem _ hy)) (setE_ins ho (hm x List.mem_cons_self))
  exact this l [] h (fun _ hx => by cases hx)
theorem applyE_ins {l : List Pe} {w : Wq} {k : Nat} (h : insLe l k) : insLe (applyE l w) (k + 1) := by
  have h' : insLe l (k + 1) := fun y hy => Nat.le_succ_of_le (h y hy)
  have hg := getR_ins h w.dg
  unfold applyE
  split
  · exact setE_ins h' (Nat.le_trans (putrow_length _ _) (by omega))
  · split
    · exact setE_ins h' (Nat.le_trans (rowI_length _) (by omega))
    · exact h'
theorem keepR_ins {l : List Pe} {k : Nat} (h : insLe l k) (b : List Int) : insLe (keepR l b) k := fun y hy => by
  obtain ⟨x, hx, h1, rfl⟩ := mem_keepR.1 hy
  exact Nat.le_trans (keepE_length x b) (h x hx)
end Go.Proofs.YtclfghmgcioilaaGreat
