/- Blocks that hold a struct with a digest among its fields: some cells, 32 bytes, some cells; Words as they lie in memory: what a record says; Layer 19, plainly: entries of digests and of names; Layer 21, plainly: rows of names' entries, rising by their names. (gen_tagp.py); Layer 21, plainly: a rising row of names' entries is searched, and an entry is put in its place; Layer 21, plainly: pages of n -/
import Derived.Test.YtieednadbcghjaaTg1
import Derived.Test.YtieednadbcghjaaTg2
import Derived.Test.YtieednadbcghjaaTg3
import Derived.Test.YtieednadbcghjaaTg6
import Derived.Laws.ResultCell
set_option linter.unusedSimpArgs false
set_option linter.unusedVariables false
namespace Go.Proofs.Ytieednadbcghjaa
set_option linter.unusedVariables false
open Go.RowKit Go.Lib

def mixL (a : List Value) (dg : List Int) (z : List Value) : List Value := a ++ (dg.map (Value.int .u8) ++ z)
def mixC (a : List Value) (dg : List Int) (z : List Value) : Array Value := (mixL a dg z).toArray
theorem mixL_length (a : List Value) (dg : List Int) (z : List Value) : (mixL a dg z).length = a.length + dg.length + z.length := by
  unfold mixL
  rw [List.length_append, List.length_append, List.length_map, Nat.add_assoc]
theorem mixC_size (a : List Value) (dg : List Int) (z : List Value) : (mixC a dg z).size = a.length + dg.length + z.length := by
  unfold mixC
  rw [List.size_toArray, mixL_length]
/-- block b holds such a struct -/
def Mx (w : World) (b : Nat) (t : TypeId) (a : List Value) (dg : List Int) (z : List Value) : Prop := w.heap[b]? = some (.cells (mixC a dg z) t (0, 0))
section
variable {w w' : World} {b : Nat} {t : TypeId} {a z : List Value} {dg : List Int}
theorem Mx.lt (h : Mx w b t a dg z) : b < w.heap.size := (Array.getElem?_eq_some_iff.1 h).1
theorem Mx.keep (h : Mx w b t a dg z) (e : w'.heap[b]? = w.heap[b]?) : Mx w' b t a dg z := e.trans h
theorem Mx.later (h : Mx w b t a dg z) (hb : Below w.heap.size w w') : Mx w' b t a dg z := h.keep (hb.block b h.lt)
theorem Mx.below {B : Nat} (h : Mx w b t a dg z) (hB : b < B) (hb : Below B w w') : Mx w' b t a dg z := h.keep (hb.block b hB)
theorem Mx.other (h : Mx w b t a dg z) (x : Addr) (v : Value) (hne : b ≠ x.block) : Mx (w.setCell x v) b t a dg z := h.keep (heap_setCell_other w x b v hne)
theorem Mx.at (h : Mx w b t a dg z) (j : Nat) : w.cell? ⟨b, j, none⟩ = (mixL a dg z)[j]? := by
  rw [cell_of_row w b j _ t _ h]
  simp [mixC]
theorem Mx.first (h : Mx w b t a dg z) (j : Nat) (v : Value) (hv : a[j]? = some v) : w.cell? ⟨b, j, none⟩ = some v := by
  rw [h.at, mixL, List.getElem?_append_left (List.getElem?_eq_some_iff.1 hv).1, hv]
theorem Mx.dig (h : Mx w b t a dg z) (j : Nat) (hj : j < dg.length) : w.cell? ⟨b, a.length + j, none⟩ = some (.int .u8 (dg.getD j 0)) := by
  rw [h.at, mixL, List.getElem?_append_right (by omega), Nat.add_sub_cancel_left, List.getElem?_append_left (by rw [List.length_map]; exact hj), List.getElem?_map, List.getD_eq_getElem?_getD, List.getElem?_eq_getElem hj]
  rfl
theorem Mx.last (h : Mx w b t a dg z) (hd : dg.length = 32) (j : Nat) (v : Value) (hv : z[j]? = some v) : w.cell? ⟨b, a.length + 32 + j, none⟩ = some v := by
  rw [h.at, mixL, List.getElem?_append_right (by omega), List.getElem?_append_right (by rw [List.length_map]; omega), List.length_map, hd, show a.length + 32 + j - a.length - 32 = j by omega, hv]
theorem Mx.frozen (h : Mx w b t a dg z) (j : Nat) : w.frozen? ⟨b, j, none⟩ = false := frozen_of_row w b j _ t h
theorem Mx.range (h : Mx w b t a dg z) : w.rangeAt b 0 (mixL a dg z) := by
  intro k v hv
  rw [Nat.zero_add, h.at, hv]
theorem Mx.digRange (h : Mx w b t a dg z) : w.rangeAt b a.length (dg.map (Value.int .u8)) := by
  intro k v hv
  rw [List.getElem?_map] at hv
  obtain ⟨x, hx, rfl⟩ := Option.map_eq_some_iff.1 hv
  rw [h.dig k (List.getElem?_eq_some_iff.1 hx).1, List.getD_eq_getElem?_getD, hx]
  rfl
/-- a field ahead of the digest is stored -/
theorem Mx.setFirst (h : Mx w b t a dg z) (j : Nat) (hj : j < a.length) (v : Value) : Mx (w.setCell ⟨b, j, none⟩ v) b t (a.set j v) dg z := by
  unfold Mx
  rw [heap_setCell_same w b j _ t _ h]
  unfold mixC mixL
  rw [List.setIfInBounds_toArray, List.set_append_left _ _ hj]
/-- .. behind it -/
theorem Mx.setLast (h : Mx w b t a dg z) (hd : dg.length = 32) (j : Nat) (v : Value) : Mx (w.setCell ⟨b, a.length + 32 + j, none⟩ v) b t a dg (z.set j v) := by
  unfold Mx
  rw [heap_setCell_same w b _ _ t _ h]
  unfold mixC mixL
  rw [List.setIfInBounds_toArray, List.set_append_right _ _ (by omega), List.set_append_right _ _ (by rw [List.length_map]; omega), List.length_map, hd, show a.length + 32 + j - a.length - 32 = j by omega]
theorem Mx.row {a' z' : List Value} {dg' : List Int} (h : Mx w b t a dg z) : Mx (w.setRow b (mixC a' dg' z')) b t a' dg' z' := setRow_heap w b _ _ t _ h
end
theorem mixC_one {a z : List Value} {dg : List Int} (ha : ∀ v ∈ a, v.oneCell' = true) (hz : ∀ v ∈ z, v.oneCell' = true) : (mixC a dg z).all (·.oneCell') = true :=
  all_oneCell_toArray fun v hv => by
    unfold mixL at hv
    rcases List.mem_append.1 hv with h | h
    · exact ha v h
    · rcases List.mem_append.1 h with h | h
      · obtain ⟨x, _, rfl⟩ := List.mem_map.1 h
        rfl
      · exact hz v h
/-- a whole struct is read -/
theorem Mx.load {P : Program} {w : World} {b : Nat} {t : TypeId} {a z : List Value} {dg : List Int} (h : Mx w b t a dg z) (ty : TypeId) {d : TypeDesc} (hu : P.underlying ty = some d) (hd : d.isRow = true) (hi : (P.info? ty).map (·.size) = some (mixC a dg z).size) :
    (Instr.loadAt ty (.pointer (some ⟨b, 0, none⟩))).run P w = .ok (.agg (mixC a dg z)) w :=
  run_loadAt_mid w b 0 ty (mixL a dg z) d h.range hu hd (by rw [hi]; rfl)
/-- the digest is read -/
theorem Mx.loadDig {P : Program} {w : World} {b : Nat} {t : TypeId} {a z : List Value} {dg : List Int} (h : Mx w b t a dg z) (ty : TypeId) {d : TypeDesc} (hu : P.underlying ty = some d) (hd : d.isRow = true) (hi : (P.info? ty).map (·.size) = some dg.length) (k : Nat) (hk : k = a.length) :
    (Instr.loadAt ty (.pointer (some ⟨b, k, none⟩))).run P w = .ok (.agg (bcs dg)) w := by
  subst hk
  exact run_loadAt_mid w b a.length ty (dg.map (Value.int .u8)) d h.digRange hu hd (by rw [hi, List.length_map])
theorem setCells_row (b : Nat) (t : TypeId) (s : List Value) : ∀ (vs p old : List Value) (w : World), w.heap[b]? = some (.cells (p ++ (old ++ s)).toArray t (0, 0)) → old.length = vs.length → (w.setCells b p.length vs).heap[b]? = some (.cells (p ++ (vs ++ s)).toArray t (0, 0))
  | [], p, old, w, h, hl => by
    obtain rfl : old = [] := List.length_eq_zero_iff.1 hl
    exact h
  | v :: vs, p, [], w, h, hl => by simp at hl
  | v :: vs, p, o :: old, w, h, hl => by
    have h1 : (w.setCell ⟨b, p.length, none⟩ v).heap[b]? = some (.cells ((p ++ [v]) ++ (old ++ s)).toArray t (0, 0)) := by
      rw [heap_setCell_same w b _ _ t _ h, List.setIfInBounds_toArray, List.set_append_right _ _ (Nat.le_refl _), Nat.sub_self]
      simp
    have h2 := setCells_row b t s vs (p ++ [v]) old (w.setCell ⟨b, p.length, none⟩ v) h1 (by simpa using hl)
    rw [List.length_append, List.length_singleton] at h2
    rw [World.setCells, h2]
    simp
theorem setCells_other (b k : Nat) (hk : k ≠ b) : ∀ (vs : List Value) (o : Nat) (w : World), (w.setCells b o vs).heap[k]? = w.heap[k]?
  | [], _, _ => rfl
  | v :: vs, o, w => by rw [World.setCells, setCells_other b k hk vs, heap_setCell_other _ ⟨b, o, none⟩ k v hk]
theorem below_setCells {B : Nat} {w0 : World} {b : Nat} (hB : B ≤ b) : ∀ (vs : List Value) (o : Nat) (w : World), Below B w0 w → Below B w0 (w.setCells b o vs)
  | [], _, _, h => h
  | v :: vs, o, w, h => below_setCells hB vs (o + 1) _ (h.setCell hB _)
/-- the digest is stored -/
theorem Mx.setDig {w : World} {b : Nat} {t : TypeId} {a z : List Value} {dg dg' : List Int} (h : Mx w b t a dg z) (hl : dg'.length = dg.length) (k : Nat) (hk : k = a.length) : Mx (w.setCells b k (dg'.map (Value.int .u8))) b t a dg' z := by
  subst hk
  exact setCells_row b t z _ a _ w h (by rw [List.length_map, List.length_map, hl])
theorem Mx.there {w : World} {b : Nat} {t : TypeId} {a z : List Value} {dg : List Int} (h : Mx w b t a dg z) (k n : Nat) (hk : k + n ≤ a.length + dg.length + z.length) : w.there b k n := fun j hj => by
  refine ⟨?_, h.frozen _⟩
  rw [h.at, List.getElem?_eq_getElem (by rw [mixL_length]; omega)]
  rfl
end Go.Proofs.Ytieednadbcghjaa

namespace Go.Proofs.Ytieednadbcghjaa
set_option linter.unusedVariables false
open Go.RowKit Go.Lib

/-- a word -/
structure Wq where
  k : Int
  s : Int
  dg : List Int
  nm : ByteArray
  z : Int
  seg : Int
  off : Int
  len : Int
def Wq.a (x : Wq) : List Value := [.int .i64 x.k, .int .u64 x.s]
def Wq.t (x : Wq) : List Value := [.string x.nm, .int .i64 x.z, .int .i64 x.seg, .int .i64 x.off, .int .i64 x.len]
def Wq.v (x : Wq) : Value := .agg (mixC x.a x.dg x.t)
def wq0 : Wq := ⟨0, 0, (List.replicate 32 0), ⟨#[]⟩, 0, 0, 0, 0⟩
theorem wq0C : mixC wq0.a wq0.dg wq0.t = #[.int .i64 0, .int .u64 0, .int .u8 0, .int .u8 0, .int .u8 0, .int .u8 0, .int .u8 0, .int .u8 0, .int .u8 0, .int .u8 0, .int .u8 0, .int .u8 0, .int .u8 0, .int .u8 0, .int .u8 0, .int .u8 0, .int .u8 0, .int .u8 0, .int .u8 0, .int .u8 0, .int .u8 0, .int .u8 0, .int .u8 0, .int .u8 0, .int .u8 0, .int .u8 0, .int .u8 0, .int .u8 0, .int .u8 0, .int .u8 0, .int .u8 0, .int .u8 0, .int .u8 0, .int .u8 0, .string ⟨#[]⟩, .int .i64 0, .int .i64 0, .int .i64 0, .int .i64 0] := rfl
/-- block b holds a word -/
def Wm (w : World) (b : Nat) (x : Wq) : Prop := Mx w b 33 x.a x.dg x.t
theorem size39 : (Try.prog.info? 33).map (·.size) = some 39 := by kernel_rfl
theorem Wq.size (x : Wq) (hd : x.dg.length = 32) : (mixC x.a x.dg x.t).size = 39 := by rw [mixC_size, hd]; rfl
theorem Wq.sizeOf (x : Wq) (hd : x.dg.length = 32) : (Try.prog.info? 33).map (·.size) = some (mixC x.a x.dg x.t).size := by rw [x.size hd]; exact size39
theorem Wq.sizes (x y : Wq) (hx : x.dg.length = 32) (hy : y.dg.length = 32) : (mixC x.a x.dg x.t).size = (mixC y.a y.dg y.t).size := by rw [x.size hx, y.size hy]
theorem Wq.one (x : Wq) : (mixC x.a x.dg x.t).all (·.oneCell') = true := mixC_one (by simp [Wq.a, Value.oneCell']) (by simp [Wq.t, Value.oneCell'])
theorem Wm.later {w w' : World} {b : Nat} {x : Wq} (h : Wm w b x) (hb : Below w.heap.size w w') : Wm w' b x := Mx.later h hb
theorem Wm.load {w : World} {b : Nat} {x : Wq} (h : Wm w b x) (hd : x.dg.length = 32) : (Instr.loadAt 33 (.pointer (some ⟨b, 0, none⟩))).run Try.prog w = .ok (.agg (mixC x.a x.dg x.t)) w :=
  Mx.load h _ Try.underlying33 rfl (x.sizeOf hd)
theorem Wm.res1 {fn : Func} {p : Tmp} {w : World} {g : Nat} {x : Wq} (hg : Wm w g x) (hd : x.dg.length = 32) (h : fn.results = #[.cell p 33]) (tmps : Array Value)
    (hp : tmps.getD p undef = .pointer (some ⟨g, 0, none⟩)) : (Go.results fn tmps).run Try.prog w = .ok x.v w :=
  results_cell_row h tmps w g _ _ _ _ hp hg Try.underlying33 rfl (x.sizeOf hd)
theorem Wm.cells {w : World} {b : Nat} {x : Wq} (h : Wm w b x) (hd : x.dg.length = 32) : w.cell? ⟨b, 34, none⟩ = some (.string x.nm) ∧ w.cell? ⟨b, 35, none⟩ = some (.int .i64 x.z) := ⟨Mx.last h hd 0 _ rfl, Mx.last h hd 1 _ rfl⟩
theorem Wm.setNm {w : World} {b : Nat} {x : Wq} (h : Wm w b x) (hd : x.dg.length = 32) (nm : ByteArray) : Wm (w.setCell ⟨b, 34, none⟩ (.string nm)) b { x with nm := nm } := Mx.setLast h hd 0 _
theorem Wm.setZ {w : World} {b : Nat} {x : Wq} (h : Wm w b x) (hd : x.dg.length = 32) (z : Int) : Wm (w.setCell ⟨b, 35, none⟩ (.int .i64 z)) b { x with z := z } := Mx.setLast h hd 1 _
theorem Wm.setDg {w : World} {b : Nat} {x : Wq} (h : Wm w b x) (hd : x.dg.length = 32) (dg : List Int) (hl : dg.length = 32) : Wm (w.setCells b 2 (bcs dg).toList) b { x with dg := dg } := by
  rw [show (bcs dg).toList = dg.map (Value.int .u8) by simp [bcs]]
  exact Mx.setDig h (by rw [hl, hd]) 2 rfl
end Go.Proofs.Ytieednadbcghjaa

namespace Go.Proofs.Ytieednadbcghjaa
set_option linter.unusedVariables false
open Go.RowKit Go.Lib

def rowI (l : List Int) : List Int := l.foldl putI []
theorem foldI_rises (l : List Int) {o : List Int} (h : irises o) : irises (l.foldl putI o) ∧ ∀ y, y ∈ l.foldl putI o ↔ y ∈ o ∨ y ∈ l := by
  induction l generalizing o with
  | nil => exact ⟨h, fun y => by simp⟩
  | cons x l ih =>
    obtain ⟨h1, h2⟩ := ih (putI_rises h x)
    refine ⟨h1, fun y => ?_⟩
    rw [List.foldl_cons, h2, mem_putI, List.mem_cons]
    constructor
    · rintro ((a | a) | a)
      · exact Or.inr (Or.inl a)
      · exact Or.inl a
      · exact Or.inr (Or.inr a)
    · rintro (a | a | a)
      · exact Or.inl (Or.inr a)
      · exact Or.inl (Or.inl a)
      · exact Or.inr a
theorem rowI_rises (l : List Int) : irises (rowI l) := (foldI_rises l List.Pairwise.nil).1
theorem mem_rowI {l : List Int} {y : Int} : y ∈ rowI l ↔ y ∈ l := by rw [rowI, (foldI_rises l List.Pairwise.nil).2]; simp
theorem putI_length (l : List Int) (n : Int) : (putI l n).length ≤ l.length + 1 := putIR_length n l false
theorem rowI_length (l : List Int) : (rowI l).length ≤ l.length := irises_len (rowI_rises l) fun i hi => mem_rowI.1 hi
theorem putrow_length (l : List Int) (n : Int) : (putI (rowI l) n).length ≤ l.length + 1 := Nat.le_trans (putI_length _ _) (Nat.succ_le_succ (rowI_length l))
/-- those of a that are among b -/
def bothI (a b : List Int) : List Int := (a.filter fun x => decide (x ∈ b)).foldl putI []
theorem bothI_rises (a b : List Int) : irises (bothI a b) := (foldI_rises _ List.Pairwise.nil).1
theorem mem_bothI {a b : List Int} {y : Int} : y ∈ bothI a b ↔ y ∈ a ∧ y ∈ b := by
  rw [bothI, (foldI_rises _ List.Pairwise.nil).2, List.mem_filter]
  simp
theorem bothI_length (a b : List Int) : (bothI a b).length ≤ a.length := irises_len (bothI_rises a b) fun i hi => (mem_bothI.1 hi).1
def aliveB (gone : Bool) (l : List Int) (seg : Int) : Bool := !gone || l.any fun x => decide (x ≠ seg)
/-- an entry of a digest -/
structure Pe where
  dg : List Int
  k : Int
  z : Int
  seg : Int
  off : Int
  len : Int
  ins : List Int
/-- an entry of a name -/
structure Pt where
  nm : ByteArray
  dg : List Int
  gone : Bool
  seg : Int
  off : Int
  len : Int
  ins : List Int
def dz32 : List Int := List.replicate 32 0
def zeroE : Pe := ⟨dz32, 0, 0, 0, 0, 0, []⟩
def zeroT : Pt := ⟨⟨#[]⟩, dz32, false, 0, 0, 0, []⟩
def putE (e : Pe) (w : Wq) : Pe := ⟨w.dg, w.k, w.z, w.seg, w.off, w.len, putI (rowI e.ins) w.seg⟩
def delE (e : Pe) (w : Wq) : Pe := ⟨e.dg, 5, 0, w.seg, w.off, w.len, rowI e.ins⟩
def tagT (t : Pt) (w : Wq) : Pt := ⟨w.nm, w.dg, false, w.seg, w.off, w.len, putI (rowI t.ins) w.seg⟩
def untT (t : Pt) (w : Wq) : Pt := ⟨t.nm, dz32, true, w.seg, w.off, w.len, rowI t.ins⟩
def keepE (e : Pe) (b : List Int) : Pe × Bool :=
  if e.seg ∈ b ∧ (e.k ≠ 5 ∨ bothI e.ins b ≠ []) then ({ e with ins := bothI e.ins b }, true)
  else if bothI e.ins b ≠ [] then (⟨e.dg, 5, 0, 0, 0, 0, bothI e.ins b⟩, true) else (zeroE, false)
def keepT (t : Pt) (b : List Int) : Pt × Bool :=
  if t.seg ∈ b ∧ (t.gone = false ∨ bothI t.ins b ≠ []) then ({ t with ins := bothI t.ins b }, true)
  else if bothI t.ins b ≠ [] then (⟨t.nm, dz32, true, 0, 0, 0, bothI t.ins b⟩, true) else (zeroT, false)
theorem bothI_more (l a b : List Int) : bothI (bothI l (a ++ b)) a = bothI l a :=
  irises_ext (bothI_rises _ _) (bothI_rises _ _) fun x => by
    rw [mem_bothI, mem_bothI, mem_bothI, List.mem_append]
    constructor
    · rintro ⟨⟨h1, _⟩, h2⟩
      exact ⟨h1, h2⟩
    · rintro ⟨h1, h2⟩
      exact ⟨⟨h1, Or.inl h2⟩, h2⟩
theorem bothI_none {l a b : List Int} (h : bothI l (a ++ b) = []) : bothI l a = [] := by
  rw [← bothI_more l a b, h]
  rfl
/-- P19.4 -/
theorem keepE_fewer (e : Pe) (a b : List Int) : ((keepE e (a ++ b)).2 = false ∧ (keepE e a).2 = false) ∨ ((keepE e (a ++ b)).2 = true ∧ keepE (keepE e (a ++ b)).1 a = keepE e a) := by
  by_cases h1 : e.seg ∈ a ++ b ∧ (e.k ≠ 5 ∨ bothI e.ins (a ++ b) ≠ [])
  · right
    have e1 : keepE e (a ++ b) = ({ e with ins := bothI e.ins (a ++ b) }, true) := by unfold keepE; rw [if_pos h1]
    rw [e1]
    refine ⟨rfl, ?_⟩
    unfold keepE
    dsimp only
    rw [bothI_more]
  · by_cases h2 : bothI e.ins (a ++ b) ≠ []
    · right
      have h3 : e.seg ∉ a ++ b := fun h => h1 ⟨h, Or.inr h2⟩
      have h4 : e.seg ∉ a := fun h => h3 (List.mem_append_left _ h)
      have e1 : keepE e (a ++ b) = (⟨e.dg, 5, 0, 0, 0, 0, bothI e.ins (a ++ b)⟩, true) := by unfold keepE; rw [if_neg h1, if_pos h2]
      rw [e1]
      refine ⟨rfl, ?_⟩
      have e2 : keepE e a = if bothI e.ins a ≠ [] then (⟨e.dg, 5, 0, 0, 0, 0, bothI e.ins a⟩, true) else (zeroE, false) := by
        unfold keepE
        rw [if_neg (fun h => h4 h.1)]
      rw [e2]
      show keepE ⟨e.dg, 5, 0, 0, 0, 0, bothI e.ins (a ++ b)⟩ a = _
      unfold keepE
      dsimp only
      rw [bothI_more]
      by_cases h5 : bothI e.ins a ≠ []
      · rw [if_pos h5]
        by_cases h6 : (0 : Int) ∈ a ∧ ((5 : Int) ≠ 5 ∨ bothI e.ins a ≠ [])
        · rw [if_pos h6]
        · rw [if_neg h6]
      · rw [if_neg h5, if_neg]
        rintro ⟨_, h7 | h7⟩
        · exact h7 rfl
        · exact h5 h7
    · left
      have h3 : bothI e.ins (a ++ b) = [] := Classical.not_not.1 h2
      have h4 := bothI_none h3
      refine ⟨by unfold keepE; rw [if_neg h1, if_neg h2], ?_⟩
      unfold keepE
      rw [if_neg, if_neg (fun h => h h4)]
      rintro ⟨h5, h6 | h6⟩
      · exact h1 ⟨List.mem_append_left _ h5, Or.inl h6⟩
      · exact h6 h4
theorem keepE_length (e : Pe) (b : List Int) : (keepE e b).1.ins.length ≤ e.ins.length := by
  have := bothI_length e.ins b
  unfold keepE
  split
  · exact this
  · split
    · exact this
    · exact Nat.zero_le _
theorem keepT_length (e : Pt) (b : List Int) : (keepT e b).1.ins.length ≤ e.ins.length := by
  have := bothI_length e.ins b
  unfold keepT
  split
  · exact this
  · split
    · exact this
    · exact Nat.zero_le _
end Go.Proofs.Ytieednadbcghjaa

namespace Go.Proofs.Ytieednadbcghjaa
set_option linter.unusedVariables false
open Go.RowKit Go.Lib

def nlt (a b : ByteArray) : Bool := Op.bytesLess a.toList b.toList
theorem nlt_iff {a b : ByteArray} : nlt a b = true ↔ slt a b := less_iff _ _
theorem nlt_self (a : ByteArray) : nlt a a = false := by
  cases h : nlt a a
  · rfl
  · exact absurd (nlt_iff.1 h) (slt_irrefl a)
theorem nlt_asymm {a b : ByteArray} (h : nlt a b = true) : nlt b a = false := by
  cases h2 : nlt b a
  · rfl
  · exact absurd (nlt_iff.1 h2) fun h3 => slt_asymm (nlt_iff.1 h) h3
theorem nlt_trans {a b c : ByteArray} (h1 : nlt a b = true) (h2 : nlt b c = true) : nlt a c = true := nlt_iff.2 (slt_trans (nlt_iff.1 h1) (nlt_iff.1 h2))
theorem nlt_total {a b : ByteArray} (h1 : nlt a b = false) (h2 : nlt b a = false) : a = b := by
  apply Classical.byContradiction
  intro h
  have h3 := slt_total (fun e => by rw [nlt_iff.2 e] at h1; cases h1) h
  rw [nlt_iff.2 h3] at h2
  cases h2

/-- the entry of a digest -/
def getT (l : List Pt) (d : ByteArray) : Option Pt := match l with
  | [] => none
  | x :: M => if x.nm = d then some x else getT M d
def getTR (l : List Pt) (d : ByteArray) : Pt × Bool := match getT l d with
  | some x => (x, true)
  | none => (zeroT, false)
/-- an entry in its place: t: it was put already -/
def setTB (e : Pt) : List Pt → Bool → List Pt
  | [], t => if t then [] else [e]
  | x :: M, t => (if t = false ∧ nlt x.nm e.nm = false then [e] else []) ++ ((if x.nm = e.nm then [] else [x]) ++ setTB e M (t || !nlt x.nm e.nm))
def setT (l : List Pt) (e : Pt) : List Pt := setTB e l false
def newT (l : List Pt) : List Pt := l.foldl setT []
def applyT (l : List Pt) (w : Wq) : List Pt :=
  if w.k = 3 then setT l (tagT (getTR l w.nm).1 w)
  else if w.k = 4 ∧ (getTR l w.nm).2 = true then setT l (untT (getTR l w.nm).1 w) else l
def keepTs (l : List Pt) (b : List Int) : List Pt := l.flatMap fun e => if (keepT e b).2 then [(keepT e b).1] else []
def namesT (l : List Pt) : List (List Int) := (l.filter fun e => !e.gone).map (·.dg)
def listT (l : List Pt) (after : ByteArray) (n : Int) : List ByteArray := (((l.filter fun e => !e.gone && nlt after e.nm).map (·.nm))).take n.toNat
/-- by their names, each once -/
def rowT (l : List Pt) : Prop := l.Pairwise fun a b => nlt a.nm b.nm = true
def dgsT (l : List Pt) : Prop := ∀ x ∈ l, x.dg.length = 32
theorem getT_mem {l : List Pt} {d : ByteArray} {x : Pt} (h : getT l d = some x) : x ∈ l ∧ x.nm = d := by
  induction l with
  | nil => cases h
  | cons y M ih =>
    unfold getT at h
    split at h
    · cases h; exact ⟨List.mem_cons_self, by assumption⟩
    · obtain ⟨h1, h2⟩ := ih h
      exact ⟨List.mem_cons_of_mem _ h1, h2⟩
theorem getT_none {l : List Pt} {d : ByteArray} : getT l d = none ↔ ∀ x ∈ l, x.nm ≠ d := by
  induction l with
  | nil => simp [getT]
  | cons y M ih =>
    unfold getT
    by_cases h : y.nm = d
    · rw [if_pos h]
      constructor
      · intro h2; cases h2
      · intro h2; exact absurd h (h2 y List.mem_cons_self)
    · rw [if_neg h, ih]
      constructor
      · intro h2 x hx
        rcases List.mem_cons.1 hx with rfl | hx
        · exact h
        · exact h2 x hx
      · intro h2 x hx
        exact h2 x (List.mem_cons_of_mem _ hx)
theorem getT_is {l : List Pt} (hr : rowT l) {x : Pt} (hx : x ∈ l) : getT l x.nm = some x := by
  induction l with
  | nil => cases hx
  | cons y M ih =>
    obtain ⟨h1, h2⟩ := List.pairwise_cons.1 hr
    unfold getT
    rcases List.mem_cons.1 hx with rfl | hx
    · rw [if_pos rfl]
    · have h3 := h1 x hx
      rw [if_neg (fun e => by rw [e, nlt_self] at h3; cases h3)]
      exact ih h2 hx
theorem mem_setTB (e : Pt) : ∀ l t y, y ∈ setTB e l t ↔ (t = false ∧ y = e) ∨ (y ∈ l ∧ y.nm ≠ e.nm)
  | [], t, y => by cases t <;> simp [setTB]
  | x :: M, t, y => by
    have ih := mem_setTB e M (t || !nlt x.nm e.nm) y
    simp only [setTB, List.mem_append, ih]
    by_cases h1 : x.nm = e.nm
    · rw [if_pos h1, h1, nlt_self]
      cases t <;> simp [h1] <;> grind
    · rw [if_neg h1]
      cases h2 : nlt x.nm e.nm <;> cases t <;> simp [h2] <;> grind
theorem mem_setT {l : List Pt} {e y : Pt} : y ∈ setT l e ↔ y = e ∨ (y ∈ l ∧ y.nm ≠ e.nm) := by rw [setT, mem_setTB]; simp
theorem setTB_length (e : Pt) : ∀ l t, (setTB e l t).length ≤ l.length + (if t then 0 else 1)
  | [], t => by cases t <;> simp [setTB]
  | x :: M, t => by
    have ih := setTB_length e M (t || !nlt x.nm e.nm)
    simp only [setTB, List.length_append, List.length_cons]
    by_cases h2 : x.nm = e.nm
    · have h : nlt x.nm e.nm = false := by rw [h2, nlt_self]
      rw [if_pos h2]
      rw [h] at ih ⊢
      cases t <;> simp at ih ⊢ <;> omega
    · rw [if_neg h2]
      cases h : nlt x.nm e.nm <;> rw [h] at ih <;> cases t <;> simp at ih ⊢ <;> omega
theorem setT_length (l : List Pt) (e : Pt) : (setT l e).length ≤ l.length + 1 := setTB_length e l false
theorem setTB_row (e : Pt) : ∀ l t, rowT l → (t = true → ∀ y ∈ l, nlt e.nm y.nm = true) → rowT (setTB e l t)
  | [], t, _, _ => by
    cases t
    · exact List.pairwise_singleton _ _
    · exact List.Pairwise.nil
  | x :: M, t, hr, ht => by
    obtain ⟨h1, h2⟩ := List.pairwise_cons.1 hr
    cases h3 : nlt x.nm e.nm with
    | true =>
      have htf : t = false := by
        cases t
        · rfl
        · have h4 := ht rfl x List.mem_cons_self
          rw [nlt_asymm h4] at h3
          cases h3
      subst htf
      have hne : x.nm ≠ e.nm := fun h => by rw [h, nlt_self] at h3; cases h3
      have ih := setTB_row e M false h2 (fun h => by cases h)
      simp only [setTB, h3, Bool.not_true, Bool.or_false]
      rw [if_neg (fun h => by cases h.2), if_neg hne]
      refine List.pairwise_cons.2 ⟨fun y hy => ?_, ih⟩
      rcases (mem_setTB e M false y).1 hy with ⟨_, rfl⟩ | ⟨hy, _⟩
      · exact h3
      · exact h1 y hy
    | false =>
      have hlt : ∀ y ∈ M, nlt e.nm y.nm = true := fun y hy => by
        cases h4 : nlt e.nm x.nm with
        | true => exact nlt_trans h4 (h1 y hy)
        | false => rw [nlt_total h4 h3]; exact h1 y hy
      have ih := setTB_row e M true h2 (fun _ => hlt)
      have hlow : ∀ y ∈ setTB e M true, nlt e.nm y.nm = true := fun y hy => by
        rcases (mem_setTB e M true y).1 hy with ⟨h, _⟩ | ⟨hy, _⟩
        · cases h
        · exact hlt y hy
      simp only [setTB, h3, Bool.not_false, Bool.or_true]
      by_cases h5 : x.nm = e.nm
      · rw [if_pos h5, List.nil_append]
        cases t
        · rw [if_pos ⟨rfl, trivial⟩]
          exact List.pairwise_cons.2 ⟨hlow, ih⟩
        · rw [if_neg (fun h => by cases h.1)]
          exact ih
      · have h6 : nlt e.nm x.nm = true := by
          cases h4 : nlt e.nm x.nm with
          | true => rfl
          | false => exact absurd (nlt_total h3 h4) h5
        have hx2 : rowT (x :: setTB e M true) := List.pairwise_cons.2 ⟨fun y hy => by
          rcases (mem_setTB e M true y).1 hy with ⟨h, _⟩ | ⟨hy, _⟩
          · cases h
          · exact h1 y hy, ih⟩
        rw [if_neg h5]
        cases t
        · rw [if_pos ⟨rfl, trivial⟩]
          exact List.pairwise_cons.2 ⟨fun y hy => by
            rcases List.mem_cons.1 hy with rfl | hy
            · exact h6
            · exact hlow y hy, hx2⟩
        · rw [if_neg (fun h => by cases h.1)]
          exact hx2
theorem setT_row {l : List Pt} {e : Pt} (hr : rowT l) : rowT (setT l e) := setTB_row e l false hr (fun h => by cases h)
theorem setT_dgs {l : List Pt} {e : Pt} (he : e.dg.length = 32) (hd : dgsT l) : dgsT (setT l e) := fun y hy => by
  rcases mem_setT.1 hy with rfl | ⟨h, _⟩
  · exact he
  · exact hd y h
theorem rowT_ext {l m : List Pt} (hl : rowT l) (hm : rowT m) (h : ∀ x, x ∈ l ↔ x ∈ m) : l = m := by
  induction l generalizing m with
  | nil => cases m with
    | nil => rfl
    | cons y m => have := (h y).2 List.mem_cons_self; cases this
  | cons x l ih => cases m with
    | nil => have := (h x).1 List.mem_cons_self; cases this
    | cons y m =>
      obtain ⟨a1, a2⟩ := List.pairwise_cons.1 hl
      obtain ⟨b1, b2⟩ := List.pairwise_cons.1 hm
      have hxy : x = y := by
        rcases List.mem_cons.1 ((h x).1 List.mem_cons_self) with e | hx
        · exact e
        · rcases List.mem_cons.1 ((h y).2 List.mem_cons_self) with e | hy
          · exact e.symm
          · have h1 := b1 x hx
            have h2 := a1 y hy
            rw [nlt_asymm h1] at h2
            cases h2
      subst hxy
      congr 1
      refine ih a2 b2 fun z => ⟨fun hz => ?_, fun hz => ?_⟩
      · rcases List.mem_cons.1 ((h z).1 (List.mem_cons_of_mem _ hz)) with e | h1
        · subst e
          have := a1 _ hz
          rw [nlt_self] at this
          cases this
        · exact h1
      · rcases List.mem_cons.1 ((h z).2 (List.mem_cons_of_mem _ hz)) with e | h1
        · subst e
          have := b1 _ hz
          rw [nlt_self] at this
          cases this
        · exact h1
theorem newT_both (l : List Pt) (hd : dgsT l) {o : List Pt} (ho : rowT o) (hod : dgsT o) : rowT (l.foldl setT o) ∧ dgsT (l.foldl setT o) := by
  induction l generalizing o with
  | nil => exact ⟨ho, hod⟩
  | cons x l ih =>
    have hx := hd x List.mem_cons_self
    exact ih (fun y hy => hd y (List.mem_cons_of_mem _ hy)) (setT_row ho) (setT_dgs hx hod)
theorem newT_row {l : List Pt} (hd : dgsT l) : rowT (newT l) := (newT_both l hd List.Pairwise.nil (fun _ h => by cases h)).1
theorem newT_dgs {l : List Pt} (hd : dgsT l) : dgsT (newT l) := (newT_both l hd List.Pairwise.nil (fun _ h => by cases h)).2
theorem newT_snoc (l : List Pt) (x : Pt) : newT (l ++ [x]) = setT (newT l) x := by simp [newT, List.foldl_append]
theorem newT_length (l : List Pt) : (newT l).length ≤ l.length := by
  have : ∀ (l o : List Pt), (l.foldl setT o).length ≤ o.length + l.length := by
    intro l
    induction l with
    | nil => intro o; simp
    | cons x l ih =>
      intro o
      have h1 := ih (setT o x)
      have h2 := setT_length o x
      rw [List.foldl_cons, List.length_cons]
      omega
  simpa [newT] using this l []
/-- a rising row put anew is itself -/
theorem setT_last {l : List Pt} {x : Pt} (h : ∀ y ∈ l, nlt y.nm x.nm = true) : setT l x = l ++ [x] := by
  unfold setT
  induction l with
  | nil => rfl
  | cons y M ih =>
    have h1 := h y List.mem_cons_self
    have hne : y.nm ≠ x.nm := fun e => by rw [e, nlt_self] at h1; cases h1
    simp only [setTB, h1, Bool.not_true, Bool.or_false]
    rw [if_neg (fun h => by cases h.2), if_neg hne, ih (fun z hz => h z (List.mem_cons_of_mem _ hz))]
    rfl
theorem newT_self {l : List Pt} (h : rowT l) : newT l = l := by
  have : ∀ (m o : List Pt), rowT (o ++ m) → m.foldl setT o = o ++ m := by
    intro m
    induction m with
    | nil => intro o _; simp
    | cons x m ih =>
      intro o ho
      rw [List.foldl_cons, setT_last (fun y hy => (List.pairwise_append.1 ho).2.2 y hy x List.mem_cons_self), ih (o ++ [x]) (by simpa using ho)]
      simp
  simpa [newT] using this l [] h
theorem getTR_dok {l : List Pt} {d : ByteArray} (hl : dgsT l) : (getTR l d).1.dg.length = 32 := by
  unfold getTR
  cases h : getT l d with
  | none => rfl
  | some x => exact hl x (getT_mem h).1
theorem keepT_nm {e : Pt} {b : List Int} (h : (keepT e b).2 = true) : (keepT e b).1.nm = e.nm := by
  unfold keepT at h ⊢
  split
  · rfl
  · split
    · rfl
    · rename_i h1 h2
      rw [if_neg h1, if_neg h2] at h
      cases h
theorem keepT_dk {e : Pt} {b : List Int} (he : e.dg.length = 32) : (keepT e b).1.dg.length = 32 := by
  unfold keepT
  split
  · exact he
  · split <;> rfl
theorem keepTs_cons (e : Pt) (l : List Pt) (b : List Int) : keepTs (e :: l) b = (if (keepT e b).2 then [(keepT e b).1] else []) ++ keepTs l b := by
  unfold keepTs
  rw [List.flatMap_cons]
theorem mem_keepTs {l : List Pt} {b : List Int} {y : Pt} : y ∈ keepTs l b ↔ ∃ x ∈ l, (keepT x b).2 = true ∧ y = (keepT x b).1 := by
  unfold keepTs
  rw [List.mem_flatMap]
  constructor
  · rintro ⟨x, hx, hy⟩
    split at hy
    · rw [List.mem_singleton] at hy; exact ⟨x, hx, by assumption, hy⟩
    · cases hy
  · rintro ⟨x, hx, h1, h2⟩
    exact ⟨x, hx, by rw [if_pos h1, h2]; exact List.mem_singleton.2 rfl⟩
theorem keepTs_row {l : List Pt} (h : rowT l) (b : List Int) : rowT (keepTs l b) := by
  induction l with
  | nil => exact List.Pairwise.nil
  | cons x l ih =>
    obtain ⟨h1, h2⟩ := List.pairwise_cons.1 h
    rw [keepTs_cons]
    split
    · rename_i hk
      refine List.pairwise_cons.2 ⟨fun y hy => ?_, ih h2⟩
      obtain ⟨z, hz, h3, rfl⟩ := mem_keepTs.1 hy
      rw [keepT_nm hk, keepT_nm h3]
      exact h1 z hz
    · exact ih h2
theorem keepTs_dgs {l : List Pt} (h : dgsT l) (b : List Int) : dgsT (keepTs l b) := fun y hy => by
  obtain ⟨x, hx, h1, rfl⟩ := mem_keepTs.1 hy
  exact keepT_dk (h x hx)
theorem keepTs_length (l : List Pt) (b : List Int) : (keepTs l b).length ≤ l.length := by
  induction l with
  | nil => exact Nat.le_refl _
  | cons x l ih =>
    rw [keepTs_cons, List.length_append, List.length_cons]
    split <;> simp <;> omega
theorem applyT_both {l : List Pt} {w : Wq} (hr : rowT l) (hd : dgsT l) (hw : w.dg.length = 32) : rowT (applyT l w) ∧ dgsT (applyT l w) := by
  unfold applyT
  split
  · exact ⟨setT_row hr, setT_dgs (by exact hw) hd⟩
  · split
    · exact ⟨setT_row hr, setT_dgs rfl hd⟩
    · exact ⟨hr, hd⟩
theorem applyT_length (l : List Pt) (w : Wq) : (applyT l w).length ≤ l.length + 1 := by
  unfold applyT
  split
  · exact setT_length _ _
  · split
    · exact setT_length _ _
    · omega
/-- how long the rows of segments may be -/
def insLeT (l : List Pt) (k : Nat) : Prop := ∀ x ∈ l, x.ins.length ≤ k
theorem getTR_ins {l : List Pt} {k : Nat} (h : insLeT l k) (d : ByteArray) : (getTR l d).1.ins.length ≤ k := by
  unfold getTR
  cases h2 : getT l d with
  | none => exact Nat.zero_le _
  | some x => exact h x (getT_mem h2).1
theorem setT_ins {l : List Pt} {e : Pt} {k : Nat} (h : insLeT l k) (he : e.ins.length ≤ k) : insLeT (setT l e) k := fun y hy => by
  rcases mem_setT.1 hy with rfl | ⟨h1, _⟩
  · exact he
  · exact h y h1
theorem newT_ins {l : List Pt} {k : Nat} (h : insLeT l k) : insLeT (newT l) k := by
  have : ∀ (m o : List Pt), insLeT m k → insLeT o k → insLeT (m.foldl setT o) k := by
    intro m
    induction m with
    | nil => intro o _ ho; exact ho
    | cons x m ih => intro o hm ho; exact ih _ (fun y hy => hm y (List.mem_cons_of_mem _ hy)) (setT_ins ho (hm x List.mem_cons_self))
  exact this l [] h (fun _ hx => by cases hx)
theorem applyT_ins {l : List Pt} {w : Wq} {k : Nat} (h : insLeT l k) : insLeT (applyT l w) (k + 1) := by
  have h' : insLeT l (k + 1) := fun y hy => Nat.le_succ_of_le (h y hy)
  have hg := getTR_ins h w.nm
  unfold applyT
  split
  · exact setT_ins h' (Nat.le_trans (putrow_length _ _) (by omega))
  · split
    · exact setT_ins h' (Nat.le_trans (rowI_length _) (by omega))
    · exact h'
theorem keepTs_ins {l : List Pt} {k : Nat} (h : insLeT l k) (b : List Int) : insLeT (keepTs l b) k := fun y hy => by
  obtain ⟨x, hx, h1, rfl⟩ := mem_keepTs.1 hy
  exact Nat.le_trans (keepT_length x b) (h x hx)
end Go.Proofs.Ytieednadbcghjaa

namespace Go.Proofs.Ytieednadbcghjaa
set_option linter.unusedVariables false
open Go.RowKit Go.Lib

/-- i is the place of the name s in l: all names ahead are less, none of the others is -/
structure AtT (l : List Pt) (s : ByteArray) (i : Nat) : Prop where
  le : i ≤ l.length
  lo : ∀ t x, t < i → l[t]? = some x → nlt x.nm s = true
  hi : ∀ t x, i ≤ t → l[t]? = some x → nlt x.nm s = false
/-- is the name there? -/
def fndT (l : List Pt) (s : ByteArray) (i : Nat) : Bool := match l[i]? with
  | some x => decide (x.nm = s)
  | none => false
theorem getT_low {A B : List Pt} {s : ByteArray} (h : ∀ x ∈ A, nlt x.nm s = true) : getT (A ++ B) s = getT B s := by
  induction A with
  | nil => rfl
  | cons x A ih =>
    have h1 := h x List.mem_cons_self
    rw [List.cons_append, getT, if_neg (fun e => by rw [e, nlt_self] at h1; cases h1)]
    exact ih fun y hy => h y (List.mem_cons_of_mem _ hy)
theorem AtT.low {l : List Pt} {s : ByteArray} {i : Nat} (h : AtT l s i) : ∀ x ∈ l.take i, nlt x.nm s = true := fun x hx => by
  obtain ⟨t, ht, e⟩ := List.getElem_of_mem hx
  rw [List.length_take] at ht
  rw [List.getElem_take] at e
  exact h.lo t x (by omega) (by rw [← e]; exact List.getElem?_eq_getElem _)
theorem AtT.high {l : List Pt} {s : ByteArray} {i : Nat} (h : AtT l s i) : ∀ x ∈ l.drop i, nlt x.nm s = false := fun x hx => by
  obtain ⟨t, ht, e⟩ := List.getElem_of_mem hx
  rw [List.getElem_drop] at e
  rw [List.length_drop] at ht
  exact h.hi (i + t) x (by omega) (by rw [← e]; exact List.getElem?_eq_getElem _)
theorem AtT.getNo {l : List Pt} {s : ByteArray} {i : Nat} (h : AtT l s i) (hr : rowT l) (hf : fndT l s i = false) : getT l s = none := by
  rw [getT_none]
  intro x hx e
  rw [← List.take_append_drop i l] at hx hr
  rcases List.mem_append.1 hx with hx | hx
  · have := h.low x hx
    rw [e, nlt_self] at this
    cases this
  · obtain ⟨_, h2, _⟩ := List.pairwise_append.1 hr
    unfold fndT at hf
    cases hd : l.drop i with
    | nil => rw [hd] at hx; cases hx
    | cons y M =>
      have hy : l[i]? = some y := by
        have h3 : (l.drop i)[0]? = some y := by rw [hd]; rfl
        rw [List.getElem?_drop] at h3
        exact h3
      rw [hy] at hf
      rw [hd] at hx h2
      rcases List.mem_cons.1 hx with rfl | hx
      · simp [e] at hf
      · have h4 := (List.pairwise_cons.1 h2).1 x hx
        have h5 := h.high y (by rw [hd]; exact List.mem_cons_self)
        rw [e] at h4
        rw [h4] at h5
        cases h5
theorem AtT.getIs {l : List Pt} {s : ByteArray} {i : Nat} {x : Pt} (h : AtT l s i) (hx : l[i]? = some x) (hn : x.nm = s) : getT l s = some x := by
  have h1 : l.drop i = x :: l.drop (i + 1) := by
    obtain ⟨h2, h3⟩ := List.getElem?_eq_some_iff.1 hx
    rw [List.drop_eq_getElem_cons h2, h3]
  rw [← List.take_append_drop i l, getT_low h.low, h1, getT, if_pos hn]
theorem AtT.getTR {l : List Pt} {s : ByteArray} {i : Nat} (h : AtT l s i) (hr : rowT l) : (Go.Proofs.Ytieednadbcghjaa.getTR l s).2 = fndT l s i := by
  unfold Go.Proofs.Ytieednadbcghjaa.getTR
  cases hf : fndT l s i with
  | false => rw [h.getNo hr hf]
  | true =>
    unfold fndT at hf
    cases hx : l[i]? with
    | none => rw [hx] at hf; cases hf
    | some x => rw [hx] at hf; rw [h.getIs hx (of_decide_eq_true hf)]
theorem setTB_low (e : Pt) {A B : List Pt} (h : ∀ x ∈ A, nlt x.nm e.nm = true) : setTB e (A ++ B) false = A ++ setTB e B false := by
  induction A with
  | nil => rfl
  | cons x A ih =>
    have h1 := h x List.mem_cons_self
    have hne : x.nm ≠ e.nm := fun e2 => by rw [e2, nlt_self] at h1; cases h1
    rw [List.cons_append, setTB, if_neg (fun h => by rw [h1] at h; cases h.2), if_neg hne, h1, Bool.not_true, Bool.or_false, ih fun y hy => h y (List.mem_cons_of_mem _ hy)]
    rfl
theorem setTB_id (e : Pt) {B : List Pt} (h : ∀ x ∈ B, nlt e.nm x.nm = true) : setTB e B true = B := by
  induction B with
  | nil => rfl
  | cons x B ih =>
    have h1 := h x List.mem_cons_self
    have hne : x.nm ≠ e.nm := fun e2 => by rw [e2, nlt_self] at h1; cases h1
    rw [setTB, if_neg (fun h => by cases h.1), if_neg hne, Bool.true_or, ih fun y hy => h y (List.mem_cons_of_mem _ hy)]
    rfl
theorem setTB_high (e x : Pt) {M : List Pt} (hx : nlt x.nm e.nm = false) (hr : rowT (x :: M)) : setTB e (x :: M) false = if x.nm = e.nm then e :: M else e :: x :: M := by
  obtain ⟨h1, h2⟩ := List.pairwise_cons.1 hr
  have hM : ∀ y ∈ M, nlt e.nm y.nm = true := fun y hy => by
    cases h3 : nlt e.nm x.nm with
    | true => exact nlt_trans h3 (h1 y hy)
    | false => rw [← nlt_total hx h3]; exact h1 y hy
  rw [setTB, if_pos ⟨rfl, hx⟩, hx, Bool.not_false, Bool.or_true, setTB_id e hM]
  split <;> rfl
/-- an entry that takes the place of another one -/
theorem AtT.setOver {l : List Pt} {e x : Pt} {i : Nat} (h : AtT l e.nm i) (hr : rowT l) (hx : l[i]? = some x) (hn : x.nm = e.nm) : setT l e = l.take i ++ e :: l.drop (i + 1) := by
  have h1 : l.drop i = x :: l.drop (i + 1) := by
    obtain ⟨h2, h3⟩ := List.getElem?_eq_some_iff.1 hx
    rw [List.drop_eq_getElem_cons h2, h3]
  have h2 := h.low
  have h3 := h.high
  have h4 := hr
  rw [← List.take_append_drop i l, h1] at h4
  unfold setT
  conv => lhs; rw [← List.take_append_drop i l]
  rw [setTB_low e h2, h1, setTB_high e x (h3 x (by rw [h1]; exact List.mem_cons_self)) (List.pairwise_append.1 h4).2.1, if_pos hn]
/-- an entry that comes between -/
theorem AtT.setNew {l : List Pt} {e : Pt} {i : Nat} (h : AtT l e.nm i) (hr : rowT l) (hf : fndT l e.nm i = false) : setT l e = l.take i ++ e :: l.drop i := by
  have h2 := h.low
  have h3 := h.high
  have h4 := hr
  rw [← List.take_append_drop i l] at h4
  unfold setT
  conv => lhs; rw [← List.take_append_drop i l]
  rw [setTB_low e h2]
  congr 1
  cases hd : l.drop i with
  | nil => rfl
  | cons y M =>
    have hy : l[i]? = some y := by
      have h3 : (l.drop i)[0]? = some y := by rw [hd]; rfl
      rw [List.getElem?_drop] at h3
      exact h3
    unfold fndT at hf
    rw [hy] at hf
    rw [hd] at h3 h4
    rw [setTB_high e y (h3 y List.mem_cons_self) (List.pairwise_append.1 h4).2.1, if_neg (of_decide_eq_false hf)]
/-- how many names are there -/
def cntT (l : List Pt) : Nat := (namesT l).length
def wT (e : Pt) : Nat := if e.gone then 0 else 1
theorem cntT_nil : cntT [] = 0 := rfl
theorem cntT_cons (e : Pt) (l : List Pt) : cntT (e :: l) = wT e + cntT l := by
  unfold cntT namesT wT
  rw [List.length_map, List.length_map, List.filter_cons]
  cases e.gone <;> simp <;> omega
theorem cntT_append (l m : List Pt) : cntT (l ++ m) = cntT l + cntT m := by
  induction l with
  | nil => rw [List.nil_append, cntT_nil, Nat.zero_add]
  | cons x l ih => rw [List.cons_append, cntT_cons, cntT_cons, ih, Nat.add_assoc]
theorem cntT_le (l : List Pt) : cntT l ≤ l.length := by
  unfold cntT namesT
  rw [List.length_map]
  exact List.length_filter_le _ _
/-- which names a listing starts with: the first one behind a name -/
theorem filter_from {l : List Pt} {s : ByteArray} {i : Nat} (hlo : ∀ t x, t < i → l[t]? = some x → nlt s x.nm = false) (hhi : ∀ t x, i ≤ t → l[t]? = some x → nlt s x.nm = true) :
    l.filter (fun e => !e.gone && nlt s e.nm) = (l.drop i).filter (fun e => !e.gone) := by
  conv => lhs; rw [← List.take_append_drop i l]
  rw [List.filter_append]
  have h1 : (l.take i).filter (fun e => !e.gone && nlt s e.nm) = [] := by
    rw [List.filter_eq_nil_iff]
    intro x hx
    obtain ⟨t, ht, e⟩ := List.getElem_of_mem hx
    rw [List.length_take] at ht
    rw [List.getElem_take] at e
    rw [hlo t x (by omega) (by rw [← e]; exact List.getElem?_eq_getElem _)]
    simp
  rw [h1, List.nil_append]
  refine List.filter_congr fun x hx => ?_
  obtain ⟨t, ht, e⟩ := List.getElem_of_mem hx
  rw [List.getElem_drop] at e
  rw [List.length_drop] at ht
  rw [hhi (i + t) x (by omega) (by rw [← e]; exact List.getElem?_eq_getElem _), Bool.and_true]
end Go.Proofs.Ytieednadbcghjaa

namespace Go.Proofs.Ytieednadbcghjaa
set_option linter.unusedVariables false
open Go.RowKit Go.Lib

/-- the names that are there -/
def nmT (l : List Pt) : List ByteArray := (l.filter fun e => !e.gone).map (·.nm)
theorem listT_nm (l : List Pt) (a : ByteArray) (n : Int) : listT l a n = ((nmT l).filter (nlt a)).take n.toNat := by
  unfold listT nmT
  rw [List.filter_map, List.filter_filter]
  congr 3
  funext e
  simp [Function.comp, Bool.and_comm]
theorem nmT_length (l : List Pt) : (nmT l).length = (namesT l).length := by unfold nmT namesT; rw [List.length_map, List.length_map]
theorem nmT_le (l : List Pt) : (nmT l).length ≤ l.length := by unfold nmT; rw [List.length_map]; exact List.length_filter_le _ _
def risesN (E : List ByteArray) : Prop := E.Pairwise fun a b => nlt a b = true
theorem nmT_rises {l : List Pt} (h : rowT l) : risesN (nmT l) := by
  unfold risesN nmT
  rw [List.pairwise_map]
  exact List.Pairwise.filter _ h
theorem mem_nmT {l : List Pt} {s : ByteArray} : s ∈ nmT l ↔ ∃ e ∈ l, e.gone = false ∧ e.nm = s := by
  unfold nmT
  rw [List.mem_map]
  constructor
  · rintro ⟨e, he, rfl⟩
    rw [List.mem_filter] at he
    exact ⟨e, he.1, by simpa using he.2, rfl⟩
  · rintro ⟨e, he, hg, rfl⟩
    exact ⟨e, List.mem_filter.2 ⟨he, by simp [hg]⟩, rfl⟩
/-- a rising row, behind one of its names -/
theorem filter_at {D : List ByteArray} (h : risesN D) {m : Nat} {b : ByteArray} (hb : D[m]? = some b) : D.filter (nlt b) = D.drop (m + 1) := by
  induction D generalizing m with
  | nil => cases hb
  | cons x D ih =>
    obtain ⟨h1, h2⟩ := List.pairwise_cons.1 h
    cases m with
    | zero =>
      rw [List.getElem?_cons_zero] at hb
      cases hb
      rw [List.filter_cons_of_neg (by rw [nlt_self]; exact Bool.false_ne_true), List.drop_succ_cons, List.drop_zero]
      exact List.filter_eq_self.2 fun y hy => h1 y hy
    | succ m =>
      rw [List.getElem?_cons_succ] at hb
      have hx : nlt x b = true := h1 b (List.mem_of_getElem? hb)
      rw [List.filter_cons_of_neg (by rw [nlt_asymm hx]; exact Bool.false_ne_true), List.drop_succ_cons]
      exact ih h2 hb
theorem filter_more {E : List ByteArray} {a b : ByteArray} (hab : nlt a b = true) : E.filter (nlt b) = (E.filter (nlt a)).filter (nlt b) := by
  rw [List.filter_filter]
  congr 1
  funext x
  cases h : nlt b x
  · rfl
  · rw [nlt_trans hab h]; rfl
/-- amid the pages: what was listed, the name behind which goes on -/
structure PgI (E : List ByteArray) (n : Nat) (i : Nat) (all : List ByteArray) (after : ByteArray) : Prop where
  al : all = (E.filter (nlt ⟨#[]⟩)).take (i * n)
  re : E.filter (nlt after) = (E.filter (nlt ⟨#[]⟩)).drop (i * n)
theorem PgI.start (E : List ByteArray) (n : Nat) : PgI E n 0 [] ⟨#[]⟩ := ⟨by simp, by simp⟩
/-- the name behind a page -/
def aftN (pg : List ByteArray) (after : ByteArray) : ByteArray := pg.getLast?.getD after
theorem PgI.step {E : List ByteArray} {n i : Nat} {all : List ByteArray} {after : ByteArray} (h : PgI E n i all after) (hE : risesN E) (hn : 1 ≤ n) :
    PgI E n (i + 1) (all ++ (E.filter (nlt after)).take n) (aftN ((E.filter (nlt after)).take n) after) := by
  have e1 : (i + 1) * n = i * n + n := by rw [Nat.add_mul, Nat.one_mul]
  refine ⟨?_, ?_⟩
  · rw [h.al, h.re, e1, List.take_add]
  · have hre := h.re
    obtain ⟨D, hD⟩ : ∃ D, E.filter (nlt after) = D := ⟨_, rfl⟩
    have hDr : risesN D := by rw [← hD]; exact List.Pairwise.filter _ hE
    rw [e1, ← List.drop_drop, ← hre, hD]
    cases hl : (D.take n).getLast? with
    | none =>
      have h0 : D.take n = [] := List.getLast?_eq_none_iff.1 hl
      have h1 : D = [] := by
        cases D with
        | nil => rfl
        | cons x D =>
          obtain ⟨m, rfl⟩ : ∃ m, n = m + 1 := ⟨n - 1, by omega⟩
          rw [List.take_succ_cons] at h0
          cases h0
      unfold aftN
      rw [hl]
      show E.filter (nlt after) = _
      rw [hD, h1]
      simp
    | some b =>
      unfold aftN
      rw [hl]
      show E.filter (nlt b) = _
      have hb : (D.take n)[(D.take n).length - 1]? = some b := by rw [← List.getLast?_eq_getElem?]; exact hl
      have hlt : (D.take n).length - 1 < n := by rw [List.length_take]; omega
      have hb2 : D[(D.take n).length - 1]? = some b := by rw [List.getElem?_take, if_pos hlt] at hb; exact hb
      have hmem : b ∈ E.filter (nlt after) := by rw [hD]; exact List.mem_of_getElem? hb2
      have hab : nlt after b = true := (List.mem_filter.1 hmem).2
      rw [filter_more hab, hD, filter_at hDr hb2, List.length_take]
      have hpos : 0 < D.length := by
        cases D with
        | nil => cases hb2
        | cons x D => exact Nat.succ_pos _
      by_cases hle : n ≤ D.length
      · rw [Nat.min_eq_left hle, show n - 1 + 1 = n by omega]
      · rw [Nat.min_eq_right (by omega), show D.length - 1 + 1 = D.length by omega, List.drop_length, List.drop_eq_nil_of_le (by omega)]
theorem PgI.all {E : List ByteArray} {n i : Nat} {all : List ByteArray} {after : ByteArray} (h : PgI E n i all after) (hn : 1 ≤ n) (hi : E.length ≤ i) : all = E.filter (nlt ⟨#[]⟩) := by
  rw [h.al]
  refine List.take_of_length_le ?_
  have h1 := List.length_filter_le (nlt ⟨#[]⟩) E
  have h2 : i * 1 ≤ i * n := Nat.mul_le_mul_left i hn
  omega
theorem nlt_nil {s : ByteArray} (h : s ≠ ⟨#[]⟩) : nlt ⟨#[]⟩ s = true := by
  apply Classical.byContradiction
  intro h1
  have h2 : nlt ⟨#[]⟩ s = false := by simpa using h1
  refine h (nlt_total (b := ⟨#[]⟩) ?_ h2)
  cases h3 : nlt s ⟨#[]⟩
  · rfl
  · have h4 : s.toList < (⟨#[]⟩ : ByteArray).toList := nlt_iff.1 h3
    rw [bytes_toList ⟨#[]⟩] at h4
    exact absurd h4 (List.not_lt_nil _)
/-- where the empty name isn't there, every name is behind it -/
theorem filter_nil {E : List ByteArray} (h : ⟨#[]⟩ ∉ E) : E.filter (nlt ⟨#[]⟩) = E := List.filter_eq_self.2 fun x hx => nlt_nil fun e => h (e ▸ hx)
theorem nil_gone {l : List Pt} (hr : rowT l) (h : ¬ ((getTR l ⟨#[]⟩).2 = true ∧ (getTR l ⟨#[]⟩).1.gone = false)) : (⟨#[]⟩ : ByteArray) ∉ nmT l := fun hm => by
  obtain ⟨e, he, hg, hn⟩ := mem_nmT.1 hm
  have h1 := getT_is hr he
  rw [hn] at h1
  refine h ?_
  unfold getTR
  rw [h1]
  exact ⟨rfl, hg⟩
end Go.Proofs.Ytieednadbcghjaa
