/- Blocks that hold a struct with a digest among its fields: some cells, 32 bytes, some cells; Words as they lie in memory: what a record says; Layer 19, plainly: entries of digests and of names; Layer 20, plainly: rows of entries, rising by their digests; Layer 21, plainly: rows of names' entries, rising by their names. (gen_tagp.py); Layer 21, plainly: pages of names; Layer 22, plainly: states; wha -/
import Derived.Test.YtpfbfhigelbfcaaGreatSd3
import Derived.Test.YtpfbfhigelbfcaaGreatSd6
import Derived.Laws.ResultCell
set_option linter.unusedSimpArgs false
set_option linter.unusedVariables false
namespace Go.Proofs.YtpfbfhigelbfcaaGreat
open Go.RowKit Go.Lib
def mixL (a : List Value) (dg : List Int) (z : List Value) : List Value := a ++ (dg.map (Value.int .u8) ++ z)
def mixC (a : List Value) (dg : List Int) (z : List Value) : Array Value := (mixL a dg z).toArray
theorem mixL_length (a : List Value) (dg : List Int) (z : List Value) : (mixL a dg z).length = a.length + dg.length + z.length := by
 unfold mixL
 rw [List.length_append, List.length_append, List.length_map, Nat.add_assoc]
theorem mixC_size (a : List Value) (dg : List Int) (z : List Value) : (mixC a dg z).size = a.length + dg.length + z.length := by
 unfold mixC
 rw [List.size_toArray, mixL_length]
/-- block b holds such a struct -/
def Mx (w : World) (b : Nat) (t : TypeId) (a : List Value) (dg : List Int) (z : List Value) : Prop := w.heap[b]? = some (.cells (mixC a dg z) t (0, 0))
section
variable {w w' : World} {b : Nat} {t : TypeId} {a z : List Value} {dg : List Int}
theorem Mx.lt (h : Mx w b t a dg z) : b < w.heap.size := (Array.getElem?_eq_some_iff.1 h).1
theorem Mx.keep (h : Mx w b t a dg z) (e : w'.heap[b]? = w.heap[b]?) : Mx w' b t a dg z := e.trans h
theorem Mx.later (h : Mx w b t a dg z) (hb : Below w.heap.size w w') : Mx w' b t a dg z := h.keep (hb.block b h.lt)
theorem Mx.below {B : Nat} (h : Mx w b t a dg z) (hB : b < B) (hb : Below B w w') : Mx w' b t a dg z := h.keep (hb.block b hB)
theorem Mx.other (h : Mx w b t a dg z) (x : Addr) (v : Value) (hne : b ≠ x.block) : Mx (w.setCell x v) b t a dg z := h.keep (heap_setCell_other w x b v hne)
theorem Mx.at (h : Mx w b t a dg z) (j : Nat) : w.cell? ⟨b, j, none⟩ = (mixL a dg z)[j]? := by
 rw [cell_of_row w b j _ t _ h]
 simp [mixC]
theorem Mx.first (h : Mx w b t a dg z) (j : Nat) (v : Value) (hv : a[j]? = some v) : w.cell? ⟨b, j, none⟩ = some v := by
 rw [h.at, mixL, List.getElem?_append_left (List.getElem?_eq_some_iff.1 hv).1, hv]
theorem Mx.dig (h : Mx w b t a dg z) (j : Nat) (hj : j < dg.length) : w.cell? ⟨b, a.length + j, none⟩ = some (.int .u8 (dg.getD j 0)) := by
 rw [h.at, mixL, List.getElem?_append_right (by omega), Nat.add_sub_cancel_left, List.getElem?_append_left (by rw [List.length_map]; exact hj), List.getElem?_map, List.getD_eq_getElem?_getD, List.getElem?_eq_getElem hj]
 rfl
theorem Mx.last (h : Mx w b t a dg z) (hd : dg.length = 32) (j : Nat) (v : Value) (hv : z[j]? = some v) : w.cell? ⟨b, a.length + 32 + j, none⟩ = some v := by
 rw [h.at, mixL, List.getElem?_append_right (by omega), List.getElem?_append_right (by rw [List.length_map]; omega), List.length_map, hd, show a.length + 32 + j - a.length - 32 = j by omega, hv]
theorem Mx.frozen (h : Mx w b t a dg z) (j : Nat) : w.frozen? ⟨b, j, none⟩ = false := frozen_of_row w b j _ t h
theorem Mx.range (h : Mx w b t a dg z) : w.rangeAt b 0 (mixL a dg z) := by
 intro k v hv
 rw [Nat.zero_add, h.at, hv]
theorem Mx.digRange (h : Mx w b t a dg z) : w.rangeAt b a.length (dg.map (Value.int .u8)) := by
 intro k v hv
 rw [List.getElem?_map] at hv
 obtain ⟨x, hx, rfl⟩ := Option.map_eq_some_iff.1 hv
 rw [h.dig k (List.getElem?_eq_some_iff.1 hx).1, List.getD_eq_getElem?_getD, hx]
 rfl
/-- .. behind it -/
theorem Mx.setLast (h : Mx w b t a dg z) (hd : dg.length = 32) (j : Nat) (v : Value) : Mx (w.setCell ⟨b, a.length + 32 + j, none⟩ v) b t a dg (z.set j v) := by
 unfold Mx
 rw [heap_setCell_same w b _ _ t _ h]
 unfold mixC mixL
 rw [List.setIfInBounds_toArray, List.set_append_right _ _ (by omega), List.set_append_right _ _ (by rw [List.length_map]; omega), List.length_map, hd, show a.length + 32 + j - a.length - 32 = j by omega]
theorem Mx.row {a' z' : List Value} {dg' : List Int} (h : Mx w b t a dg z) : Mx (w.setRow b (mixC a' dg' z')) b t a' dg' z' := setRow_heap w b _ _ t _ h
end
theorem mixC_one {a z : List Value} {dg : List Int} (ha : ∀ v ∈ a, v.oneCell' = true) (hz : ∀ v ∈ z, v.oneCell' = true) : (mixC a dg z).all (·.oneCell') = true :=
 all_oneCell_toArray fun v hv => by
  unfold mixL at hv
  rcases List.mem_append.1 hv with h | h
  ·exact ha v h
  ·rcases List.mem_append.1 h with h | h
   ·obtain ⟨x, _, rfl⟩ := List.mem_map.1 h
    rfl
   ·exact hz v h
/-- a whole struct is read -/
theorem Mx.load {P : Program} {w : World} {b : Nat} {t : TypeId} {a z : List Value} {dg : List Int} (h : Mx w b t a dg z) (ty : TypeId) {d : TypeDesc} (hu : P.underlying ty = some d) (hd : d.isRow = true) (hi : (P.info? ty).map (·.size) = some (mixC a dg z).size) :
 (Instr.loadAt ty (.pointer (some ⟨b, 0, none⟩))).run P w = .ok (.agg (mixC a dg z)) w :=
 run_loadAt_mid w b 0 ty (mixL a dg z) d h.range hu hd (by rw [hi]; rfl)
/-- the digest is read -/
theorem Mx.loadDig {P : Program} {w : World} {b : Nat} {t : TypeId} {a z : List Value} {dg : List Int} (h : Mx w b t a dg z) (ty : TypeId) {d : TypeDesc} (hu : P.underlying ty = some d) (hd : d.isRow = true) (hi : (P.info? ty).map (·.size) = some dg.length) (k : Nat) (hk : k = a.length) :
 (Instr.loadAt ty (.pointer (some ⟨b, k, none⟩))).run P w = .ok (.agg (bcs dg)) w := by
 subst hk
 exact run_loadAt_mid w b a.length ty (dg.map (Value.int .u8)) d h.digRange hu hd (by rw [hi, List.length_map])
theorem setCells_row (b : Nat) (t : TypeId) (s : List Value) : ∀ (vs p old : List Value) (w : World), w.heap[b]? = some (.cells (p ++ (old ++ s)).toArray t (0, 0)) → old.length = vs.length → (w.setCells b p.length vs).heap[b]? = some (.cells (p ++ (vs ++ s)).toArray t (0, 0))
 | [], p, old, w, h, hl => by
   obtain rfl : old = [] := List.length_eq_zero_iff.1 hl
   exact h
 | v :: vs, p, [], w, h, hl => by simp at hl
 | v :: vs, p, o :: old, w, h, hl => by
   have h1 : (w.setCell ⟨b, p.length, none⟩ v).heap[b]? = some (.cells ((p ++ [v]) ++ (old ++ s)).toArray t (0, 0)) := by
    rw [heap_setCell_same w b _ _ t _ h, List.setIfInBounds_toArray, List.set_append_right _ _ (Nat.le_refl _), Nat.sub_self]
    simp
   have h2 := setCells_row b t s vs (p ++ [v]) old (w.setCell ⟨b, p.length, none⟩ v) h1 (by simpa using hl)
   rw [List.length_append, List.length_singleton] at h2
   rw [World.setCells, h2]
   simp
theorem below_setCells {B : Nat} {w0 : World} {b : Nat} (hB : B ≤ b) : ∀ (vs : List Value) (o : Nat) (w : World), Below B w0 w → Below B w0 (w.setCells b o vs)
 | [], _, _, h => h
 | v :: vs, o, w, h => below_setCells hB vs (o + 1) _ (h.setCell hB _)
theorem Mx.there {w : World} {b : Nat} {t : TypeId} {a z : List Value} {dg : List Int} (h : Mx w b t a dg z) (k n : Nat) (hk : k + n ≤ a.length + dg.length + z.length) : w.there b k n := fun j hj => by
 refine ⟨?_, h.frozen _⟩
 rw [h.at, List.getElem?_eq_getElem (by rw [mixL_length]; omega)]
 rfl
/-- a word -/
structure Wq where
 k : Int
 s : Int
 dg : List Int
 nm : ByteArray
 z : Int
 seg : Int
 off : Int
 len : Int
def Wq.a (x : Wq) : List Value := [.int .i64 x.k, .int .u64 x.s]
def Wq.t (x : Wq) : List Value := [.string x.nm, .int .i64 x.z, .int .i64 x.seg, .int .i64 x.off, .int .i64 x.len]
def Wq.v (x : Wq) : Value := .agg (mixC x.a x.dg x.t)
def wq0 : Wq := ⟨0, 0, (List.replicate 32 0), ⟨#[]⟩, 0, 0, 0, 0⟩
/-- block b holds a word -/
def Wm (w : World) (b : Nat) (x : Wq) : Prop := Mx w b 39 x.a x.dg x.t
theorem size39 : (Tryz.prog.info? 39).map (·.size) = some 39 := by kernel_rfl
theorem Wq.size (x : Wq) (hd : x.dg.length = 32) : (mixC x.a x.dg x.t).size = 39 := by rw [mixC_size, hd]; rfl
theorem Wq.sizeOf (x : Wq) (hd : x.dg.length = 32) : (Tryz.prog.info? 39).map (·.size) = some (mixC x.a x.dg x.t).size := by rw [x.size hd]; exact size39
theorem Wq.sizes (x y : Wq) (hx : x.dg.length = 32) (hy : y.dg.length = 32) : (mixC x.a x.dg x.t).size = (mixC y.a y.dg y.t).size := by rw [x.size hx, y.size hy]
theorem Wq.one (x : Wq) : (mixC x.a x.dg x.t).all (·.oneCell') = true := mixC_one (by simp [Wq.a, Value.oneCell']) (by simp [Wq.t, Value.oneCell'])
theorem Wm.later {w w' : World} {b : Nat} {x : Wq} (h : Wm w b x) (hb : Below w.heap.size w w') : Wm w' b x := Mx.later h hb
theorem Wm.load {w : World} {b : Nat} {x : Wq} (h : Wm w b x) (hd : x.dg.length = 32) : (Instr.loadAt 39 (.pointer (some ⟨b, 0, none⟩))).run Tryz.prog w = .ok (.agg (mixC x.a x.dg x.t)) w :=
 Mx.load h _ Tryz.underlying39 rfl (x.sizeOf hd)
theorem Wm.res1 {fn : Func} {p : Tmp} {w : World} {g : Nat} {x : Wq} (hg : Wm w g x) (hd : x.dg.length = 32) (h : fn.results = #[.cell p 39]) (tmps : Array Value)
 (hp : tmps.getD p undef = .pointer (some ⟨g, 0, none⟩)) : (Go.results fn tmps).run Tryz.prog w = .ok x.v w :=
 results_cell_row h tmps w g _ _ _ _ hp hg Tryz.underlying39 rfl (x.sizeOf hd)
theorem Wm.cells {w : World} {b : Nat} {x : Wq} (h : Wm w b x) (hd : x.dg.length = 32) : w.cell? ⟨b, 34, none⟩ = some (.string x.nm) ∧ w.cell? ⟨b, 35, none⟩ = some (.int .i64 x.z) := ⟨Mx.last h hd 0 _ rfl, Mx.last h hd 1 _ rfl⟩
def rowI (l : List Int) : List Int := l.foldl putI []
theorem foldI_rises (l : List Int) {o : List Int} (h : irises o) : irises (l.foldl putI o) ∧ ∀ y, y ∈ l.foldl putI o ↔ y ∈ o ∨ y ∈ l := by
 induction l generalizing o with
 | nil => exact ⟨h, fun y => by simp⟩
 | cons x l ih =>
   obtain ⟨h1, h2⟩ := ih (putI_rises h x)
   refine ⟨h1, fun y => ?_⟩
   rw [List.foldl_cons, h2, mem_putI, List.mem_cons]
   constructor
   ·rintro ((a | a) | a)
    ·exact Or.inr (Or.inl a)
    ·exact Or.inl a
    ·exact Or.inr (Or.inr a)
   ·rintro (a | a | a)
    ·exact Or.inl (Or.inr a)
    ·exact Or.inl (Or.inl a)
    ·exact Or.inr a
theorem rowI_rises (l : List Int) : irises (rowI l) := (foldI_rises l List.Pairwise.nil).1
theorem mem_rowI {l : List Int} {y : Int} : y ∈ rowI l ↔ y ∈ l := by rw [rowI, (foldI_rises l List.Pairwise.nil).2]; simp
theorem putI_length (l : List Int) (n : Int) : (putI l n).length ≤ l.length + 1 := putIR_length n l false
theorem rowI_length (l : List Int) : (rowI l).length ≤ l.length := irises_len (rowI_rises l) fun i hi => mem_rowI.1 hi
theorem putrow_length (l : List Int) (n : Int) : (putI (rowI l) n).length ≤ l.length + 1 := Nat.le_trans (putI_length _ _) (Nat.succ_le_succ (rowI_length l))
/-- those of a that are among b -/
def bothI (a b : List Int) : List Int := (a.filter fun x => decide (x ∈ b)).foldl putI []
theorem bothI_rises (a b : List Int) : irises (bothI a b) := (foldI_rises _ List.Pairwise.nil).1
theorem mem_bothI {a b : List Int} {y : Int} : y ∈ bothI a b ↔ y ∈ a ∧ y ∈ b := by
 rw [bothI, (foldI_rises _ List.Pairwise.nil).2, List.mem_filter]
 simp
theorem bothI_length (a b : List Int) : (bothI a b).length ≤ a.length := irises_len (bothI_rises a b) fun i hi => (mem_bothI.1 hi).1
def aliveB (gone : Bool) (l : List Int) (seg : Int) : Bool := !gone || l.any fun x => decide (x ≠ seg)
/-- an entry of a digest -/
structure Pe where
 dg : List Int
 k : Int
 z : Int
 seg : Int
 off : Int
 len : Int
 ins : List Int
/-- an entry of a name -/
structure Pt where
 nm : ByteArray
 dg : List Int
 gone : Bool
 seg : Int
 off : Int
 len : Int
 ins : List Int
def dz32 : List Int := List.replicate 32 0
def zeroE : Pe := ⟨dz32, 0, 0, 0, 0, 0, []⟩
def zeroT : Pt := ⟨⟨#[]⟩, dz32, false, 0, 0, 0, []⟩
def putE (e : Pe) (w : Wq) : Pe := ⟨w.dg, w.k, w.z, w.seg, w.off, w.len, putI (rowI e.ins) w.seg⟩
def delE (e : Pe) (w : Wq) : Pe := ⟨e.dg, 5, 0, w.seg, w.off, w.len, rowI e.ins⟩
def tagT (t : Pt) (w : Wq) : Pt := ⟨w.nm, w.dg, false, w.seg, w.off, w.len, putI (rowI t.ins) w.seg⟩
def untT (t : Pt) (w : Wq) : Pt := ⟨t.nm, dz32, true, w.seg, w.off, w.len, rowI t.ins⟩
def keepE (e : Pe) (b : List Int) : Pe × Bool :=
 if e.seg ∈ b ∧ (e.k ≠ 5 ∨ bothI e.ins b ≠ []) then ({ e with ins := bothI e.ins b }, true)
 else if bothI e.ins b ≠ [] then (⟨e.dg, 5, 0, 0, 0, 0, bothI e.ins b⟩, true) else (zeroE, false)
def keepT (t : Pt) (b : List Int) : Pt × Bool :=
 if t.seg ∈ b ∧ (t.gone = false ∨ bothI t.ins b ≠ []) then ({ t with ins := bothI t.ins b }, true)
 else if bothI t.ins b ≠ [] then (⟨t.nm, dz32, true, 0, 0, 0, bothI t.ins b⟩, true) else (zeroT, false)
theorem keepE_length (e : Pe) (b : List Int) : (keepE e b).1.ins.length ≤ e.ins.length := by
 have := bothI_length e.ins b
 unfold keepE
 split
 ·exact this
 ·split
  ·exact this
  ·exact Nat.zero_le _
theorem keepT_length (e : Pt) (b : List Int) : (keepT e b).1.ins.length ≤ e.ins.length := by
 have := bothI_length e.ins b
 unfold keepT
 split
 ·exact this
 ·split
  ·exact this
  ·exact Nat.zero_le _
/-- the entry of a digest -/
def getE (l : List Pe) (d : List Int) : Option Pe := match l with
 | [] => none
 | x :: M => if x.dg = d then some x else getE M d
def getR (l : List Pe) (d : List Int) : Pe × Bool := match getE l d with
 | some x => (x, true)
 | none => (zeroE, false)
/-- an entry in its place: t: it was put already -/
def setB (e : Pe) : List Pe → Bool → List Pe
 | [], t => if t then [] else [e]
 | x :: M, t => (if t = false ∧ dlt x.dg e.dg = false then [e] else []) ++ ((if x.dg = e.dg then [] else [x]) ++ setB e M (t || !dlt x.dg e.dg))
def setE (l : List Pe) (e : Pe) : List Pe := setB e l false
def newE (l : List Pe) : List Pe := l.foldl setE []
def applyE (l : List Pe) (w : Wq) : List Pe :=
 if w.k = 1 ∨ w.k = 2 then setE l (putE (getR l w.dg).1 w)
 else if w.k = 5 ∧ (getR l w.dg).2 = true then setE l (delE (getR l w.dg).1 w) else l
def keepR (l : List Pe) (b : List Int) : List Pe := l.flatMap fun e => if (keepE e b).2 then [(keepE e b).1] else []
def cntE (l : List Pe) : Nat := (l.filter fun e => decide (e.k ≠ 5)).length
def sumE (l : List Pe) : Int := ((l.filter fun e => decide (e.k ≠ 5)).map (·.z)).sum
/-- by their digests, each once -/
def rowE (l : List Pe) : Prop := l.Pairwise fun a b => dlt a.dg b.dg = true
def dgsOk (l : List Pe) : Prop := ∀ x ∈ l, x.dg.length = 32
theorem getE_mem {l : List Pe} {d : List Int} {x : Pe} (h : getE l d = some x) : x ∈ l ∧ x.dg = d := by
 induction l with
 | nil => cases h
 | cons y M ih =>
   unfold getE at h
   split at h
   ·cases h; exact ⟨List.mem_cons_self, by assumption⟩
   ·obtain ⟨h1, h2⟩ := ih h
    exact ⟨List.mem_cons_of_mem _ h1, h2⟩
theorem getE_none {l : List Pe} {d : List Int} : getE l d = none ↔ ∀ x ∈ l, x.dg ≠ d := by
 induction l with
 | nil => simp [getE]
 | cons y M ih =>
   unfold getE
   by_cases h : y.dg = d
   ·rw [if_pos h]
    constructor
    ·intro h2; cases h2
    ·intro h2; exact absurd h (h2 y List.mem_cons_self)
   ·rw [if_neg h, ih]
    constructor
    ·intro h2 x hx
     rcases List.mem_cons.1 hx with rfl | hx
     ·exact h
     ·exact h2 x hx
    ·intro h2 x hx
     exact h2 x (List.mem_cons_of_mem _ hx)
theorem getE_is {l : List Pe} (hr : rowE l) {x : Pe} (hx : x ∈ l) : getE l x.dg = some x := by
 induction l with
 | nil => cases hx
 | cons y M ih =>
   obtain ⟨h1, h2⟩ := List.pairwise_cons.1 hr
   unfold getE
   rcases List.mem_cons.1 hx with rfl | hx
   ·rw [if_pos rfl]
   ·have h3 := h1 x hx
    rw [if_neg (fun e => by rw [e, dlt_self] at h3; cases h3)]
    exact ih h2 hx
theorem mem_setB (e : Pe) : ∀ l t y, y ∈ setB e l t ↔ (t = false ∧ y = e) ∨ (y ∈ l ∧ y.dg ≠ e.dg)
 | [], t, y => by cases t <;> simp [setB]
 | x :: M, t, y => by
   have ih := mem_setB e M (t || !dlt x.dg e.dg) y
   simp only [setB, List.mem_append, ih]
   by_cases h1 : x.dg = e.dg
   ·rw [if_pos h1, h1, dlt_self]
    cases t <;> simp [h1] <;> grind
   ·rw [if_neg h1]
    cases h2 : dlt x.dg e.dg <;> cases t <;> simp [h2] <;> grind
theorem mem_setE {l : List Pe} {e y : Pe} : y ∈ setE l e ↔ y = e ∨ (y ∈ l ∧ y.dg ≠ e.dg) := by rw [setE, mem_setB]; simp
theorem setB_length (e : Pe) : ∀ l t, (setB e l t).length ≤ l.length + (if t then 0 else 1)
 | [], t => by cases t <;> simp [setB]
 | x :: M, t => by
   have ih := setB_length e M (t || !dlt x.dg e.dg)
   simp only [setB, List.length_append, List.length_cons]
   by_cases h2 : x.dg = e.dg
   ·have h : dlt x.dg e.dg = false := by rw [h2, dlt_self]
    rw [if_pos h2]
    rw [h] at ih ⊢
    cases t <;> simp at ih ⊢ <;> omega
   ·rw [if_neg h2]
    cases h : dlt x.dg e.dg <;> rw [h] at ih <;> cases t <;> simp at ih ⊢ <;> omega
theorem setE_length (l : List Pe) (e : Pe) : (setE l e).length ≤ l.length + 1 := setB_length e l false
theorem setB_row (e : Pe) (he : e.dg.length = 32) : ∀ l t, rowE l → dgsOk l → (t = true → ∀ y ∈ l, dlt e.dg y.dg = true) → rowE (setB e l t)
 | [], t, _, _, _ => by
   cases t
   ·exact List.pairwise_singleton _ _
   ·exact List.Pairwise.nil
 | x :: M, t, hr, hd, ht => by
   obtain ⟨h1, h2⟩ := List.pairwise_cons.1 hr
   have hd2 : dgsOk M := fun y hy => hd y (List.mem_cons_of_mem _ hy)
   have hx := hd x List.mem_cons_self
   cases h3 : dlt x.dg e.dg with
   | true =>
     have htf : t = false := by
      cases t
      ·rfl
      ·have h4 := ht rfl x List.mem_cons_self
       rw [dlt_asymm h4] at h3
       cases h3
     subst htf
     have hne : x.dg ≠ e.dg := fun h => by rw [h, dlt_self] at h3; cases h3
     have ih := setB_row e he M false h2 hd2 (fun h => by cases h)
     simp only [setB, h3, Bool.not_true, Bool.or_false]
     rw [if_neg (fun h => by cases h.2), if_neg hne]
     refine List.pairwise_cons.2 ⟨fun y hy => ?_, ih⟩
     rcases (mem_setB e M false y).1 hy with ⟨_, rfl⟩ | ⟨hy, _⟩
     ·exact h3
     ·exact h1 y hy
   | false =>
     have hlt : ∀ y ∈ M, dlt e.dg y.dg = true := fun y hy => by
      cases h4 : dlt e.dg x.dg with
      | true => exact dlt_trans h4 (h1 y hy)
      | false => rw [dlt_total (by rw [he, hx]) h4 h3]; exact h1 y hy
     have ih := setB_row e he M true h2 hd2 (fun _ => hlt)
     have hlow : ∀ y ∈ setB e M true, dlt e.dg y.dg = true := fun y hy => by
      rcases (mem_setB e M true y).1 hy with ⟨h, _⟩ | ⟨hy, _⟩
      ·cases h
      ·exact hlt y hy
     simp only [setB, h3, Bool.not_false, Bool.or_true]
     by_cases h5 : x.dg = e.dg
     ·rw [if_pos h5, List.nil_append]
      cases t
      ·rw [if_pos ⟨rfl, trivial⟩]
       exact List.pairwise_cons.2 ⟨hlow, ih⟩
      ·rw [if_neg (fun h => by cases h.1)]
       exact ih
     ·have h6 : dlt e.dg x.dg = true := by
       cases h4 : dlt e.dg x.dg with
       | true => rfl
       | false => exact absurd (dlt_total (by rw [he, hx]) h3 h4) h5
      have hx2 : rowE (x :: setB e M true) := List.pairwise_cons.2 ⟨fun y hy => by
       rcases (mem_setB e M true y).1 hy with ⟨h, _⟩ | ⟨hy, _⟩
       ·cases h
       ·exact h1 y hy, ih⟩
      rw [if_neg h5]
      cases t
      ·rw [if_pos ⟨rfl, trivial⟩]
       exact List.pairwise_cons.2 ⟨fun y hy => by
        rcases List.mem_cons.1 hy with rfl | hy
        ·exact h6
        ·exact hlow y hy, hx2⟩
      ·rw [if_neg (fun h => by cases h.1)]
       exact hx2
theorem setE_row {l : List Pe} {e : Pe} (he : e.dg.length = 32) (hr : rowE l) (hd : dgsOk l) : rowE (setE l e) := setB_row e he l false hr hd (fun h => by cases h)
theorem rowE_ext {l m : List Pe} (hl : rowE l) (hm : rowE m) (h : ∀ x, x ∈ l ↔ x ∈ m) : l = m := by
 induction l generalizing m with
 | nil => cases m with
   | nil => rfl
   | cons y m => have := (h y).2 List.mem_cons_self; cases this
 | cons x l ih => cases m with
   | nil => have := (h x).1 List.mem_cons_self; cases this
   | cons y m =>
     obtain ⟨a1, a2⟩ := List.pairwise_cons.1 hl
     obtain ⟨b1, b2⟩ := List.pairwise_cons.1 hm
     have hxy : x = y := by
      rcases List.mem_cons.1 ((h x).1 List.mem_cons_self) with e | hx
      ·exact e
      ·rcases List.mem_cons.1 ((h y).2 List.mem_cons_self) with e | hy
       ·exact e.symm
       ·have h1 := b1 x hx
        have h2 := a1 y hy
        rw [dlt_asymm h1] at h2
        cases h2
     subst hxy
     congr 1
     refine ih a2 b2 fun z => ⟨fun hz => ?_, fun hz => ?_⟩
     ·rcases List.mem_cons.1 ((h z).1 (List.mem_cons_of_mem _ hz)) with e | h1
      ·subst e
       have := a1 _ hz
       rw [dlt_self] at this
       cases this
      ·exact h1
     ·rcases List.mem_cons.1 ((h z).2 (List.mem_cons_of_mem _ hz)) with e | h1
      ·subst e
       have := b1 _ hz
       rw [dlt_self] at this
       cases this
      ·exact h1
theorem newE_snoc (l : List Pe) (x : Pe) : newE (l ++ [x]) = setE (newE l) x := by simp [newE, List.foldl_append]
theorem newE_length (l : List Pe) : (newE l).length ≤ l.length := by
 have : ∀ (l o : List Pe), (l.foldl setE o).length ≤ o.length + l.length := by
  intro l
  induction l with
  | nil => intro o; simp
  | cons x l ih =>
    intro o
    have h1 := ih (setE o x)
    have h2 := setE_length o x
    rw [List.foldl_cons, List.length_cons]
    omega
 simpa [newE] using this l []
theorem keepE_dg {e : Pe} {b : List Int} (h : (keepE e b).2 = true) : (keepE e b).1.dg = e.dg := by
 unfold keepE at h ⊢
 split
 ·rfl
 ·split
  ·rfl
  ·rename_i h1 h2
   rw [if_neg h1, if_neg h2] at h
   cases h
theorem keepR_cons (e : Pe) (l : List Pe) (b : List Int) : keepR (e :: l) b = (if (keepE e b).2 then [(keepE e b).1] else []) ++ keepR l b := by
 unfold keepR
 rw [List.flatMap_cons]
theorem mem_keepR {l : List Pe} {b : List Int} {y : Pe} : y ∈ keepR l b ↔ ∃ x ∈ l, (keepE x b).2 = true ∧ y = (keepE x b).1 := by
 unfold keepR
 rw [List.mem_flatMap]
 constructor
 ·rintro ⟨x, hx, hy⟩
  split at hy
  ·rw [List.mem_singleton] at hy; exact ⟨x, hx, by assumption, hy⟩
  ·cases hy
 ·rintro ⟨x, hx, h1, h2⟩
  exact ⟨x, hx, by rw [if_pos h1, h2]; exact List.mem_singleton.2 rfl⟩
theorem keepR_row {l : List Pe} (h : rowE l) (b : List Int) : rowE (keepR l b) := by
 induction l with
 | nil => exact List.Pairwise.nil
 | cons x l ih =>
   obtain ⟨h1, h2⟩ := List.pairwise_cons.1 h
   rw [keepR_cons]
   split
   ·rename_i hk
    refine List.pairwise_cons.2 ⟨fun y hy => ?_, ih h2⟩
    obtain ⟨z, hz, h3, rfl⟩ := mem_keepR.1 hy
    rw [keepE_dg hk, keepE_dg h3]
    exact h1 z hz
   ·exact ih h2
theorem keepR_dgs {l : List Pe} (h : dgsOk l) (b : List Int) : dgsOk (keepR l b) := fun y hy => by
 obtain ⟨x, hx, h1, rfl⟩ := mem_keepR.1 hy
 rw [keepE_dg h1]
 exact h x hx
theorem keepR_length (l : List Pe) (b : List Int) : (keepR l b).length ≤ l.length := by
 induction l with
 | nil => exact Nat.le_refl _
 | cons x l ih =>
   rw [keepR_cons, List.length_append, List.length_cons]
   split <;> simp <;> omega
theorem applyE_length (l : List Pe) (w : Wq) : (applyE l w).length ≤ l.length + 1 := by
 unfold applyE
 split
 ·exact setE_length _ _
 ·split
  ·exact setE_length _ _
  ·omega
/-- how long the rows of segments may be -/
def insLe (l : List Pe) (k : Nat) : Prop := ∀ x ∈ l, x.ins.length ≤ k
theorem getR_ins {l : List Pe} {k : Nat} (h : insLe l k) (d : List Int) : (getR l d).1.ins.length ≤ k := by
 unfold getR
 cases h2 : getE l d with
 | none => exact Nat.zero_le _
 | some x => exact h x (getE_mem h2).1
theorem setE_ins {l : List Pe} {e : Pe} {k : Nat} (h : insLe l k) (he : e.ins.length ≤ k) : insLe (setE l e) k := fun y hy => by
 rcases mem_setE.1 hy with rfl | ⟨h1, _⟩
 ·exact he
 ·exact h y h1
theorem newE_ins {l : List Pe} {k : Nat} (h : insLe l k) : insLe (newE l) k := by
 have : ∀ (m o : List Pe), insLe m k → insLe o k → insLe (m.foldl setE o) k := by
  intro m
  induction m with
  | nil => intro o _ ho; exact ho
  | cons x m ih => intro o hm ho; exact ih _ (fun y hy => hm y (List.mem_cons_of_mem _ hy)) (setE_ins ho (hm x List.mem_cons_self))
 exact this l [] h (fun _ hx => by cases hx)
theorem applyE_ins {l : List Pe} {w : Wq} {k : Nat} (h : insLe l k) : insLe (applyE l w) (k + 1) := by
 have h' : insLe l (k + 1) := fun y hy => Nat.le_succ_of_le (h y hy)
 have hg := getR_ins h w.dg
 unfold applyE
 split
 ·exact setE_ins h' (Nat.le_trans (putrow_length _ _) (by omega))
 ·split
  ·exact setE_ins h' (Nat.le_trans (rowI_length _) (by omega))
  ·exact h'
theorem keepR_ins {l : List Pe} {k : Nat} (h : insLe l k) (b : List Int) : insLe (keepR l b) k := fun y hy => by
 obtain ⟨x, hx, h1, rfl⟩ := mem_keepR.1 hy
 exact Nat.le_trans (keepE_length x b) (h x hx)
def nlt (a b : ByteArray) : Bool := Op.bytesLess a.toList b.toList
theorem nlt_iff {a b : ByteArray} : nlt a b = true ↔ slt a b := less_iff _ _
theorem nlt_self (a : ByteArray) : nlt a a = false := by
 cases h : nlt a a
 ·rfl
 ·exact absurd (nlt_iff.1 h) (slt_irrefl a)
theorem nlt_asymm {a b : ByteArray} (h : nlt a b = true) : nlt b a = false := by
 cases h2 : nlt b a
 ·rfl
 ·exact absurd (nlt_iff.1 h2) fun h3 => slt_asymm (nlt_iff.1 h) h3
theorem nlt_trans {a b c : ByteArray} (h1 : nlt a b = true) (h2 : nlt b c = true) : nlt a c = true := nlt_iff.2 (slt_trans (nlt_iff.1 h1) (nlt_iff.1 h2))
theorem nlt_total {a b : ByteArray} (h1 : nlt a b = false) (h2 : nlt b a = false) : a = b := by
 apply Classical.byContradiction
 intro h
 have h3 := slt_total (fun e => by rw [nlt_iff.2 e] at h1; cases h1) h
 rw [nlt_iff.2 h3] at h2
 cases h2
/-- the entry of a digest -/
def getT (l : List Pt) (d : ByteArray) : Option Pt := match l with
 | [] => none
 | x :: M => if x.nm = d then some x else getT M d
def getTR (l : List Pt) (d : ByteArray) : Pt × Bool := match getT l d with
 | some x => (x, true)
 | none => (zeroT, false)
/-- an entry in its place: t: it was put already -/
def setTB (e : Pt) : List Pt → Bool → List Pt
 | [], t => if t then [] else [e]
 | x :: M, t => (if t = false ∧ nlt x.nm e.nm = false then [e] else []) ++ ((if x.nm = e.nm then [] else [x]) ++ setTB e M (t || !nlt x.nm e.nm))
def setT (l : List Pt) (e : Pt) : List Pt := setTB e l false
def newT (l : List Pt) : List Pt := l.foldl setT []
def applyT (l : List Pt) (w : Wq) : List Pt :=
 if w.k = 3 then setT l (tagT (getTR l w.nm).1 w)
 else if w.k = 4 ∧ (getTR l w.nm).2 = true then setT l (untT (getTR l w.nm).1 w) else l
def keepTs (l : List Pt) (b : List Int) : List Pt := l.flatMap fun e => if (keepT e b).2 then [(keepT e b).1] else []
def namesT (l : List Pt) : List (List Int) := (l.filter fun e => !e.gone).map (·.dg)
/-- by their names, each once -/
def rowT (l : List Pt) : Prop := l.Pairwise fun a b => nlt a.nm b.nm = true
def dgsT (l : List Pt) : Prop := ∀ x ∈ l, x.dg.length = 32
theorem getT_mem {l : List Pt} {d : ByteArray} {x : Pt} (h : getT l d = some x) : x ∈ l ∧ x.nm = d := by
 induction l with
 | nil => cases h
 | cons y M ih =>
   unfold getT at h
   split at h
   ·cases h; exact ⟨List.mem_cons_self, by assumption⟩
   ·obtain ⟨h1, h2⟩ := ih h
    exact ⟨List.mem_cons_of_mem _ h1, h2⟩
theorem getT_none {l : List Pt} {d : ByteArray} : getT l d = none ↔ ∀ x ∈ l, x.nm ≠ d := by
 induction l with
 | nil => simp [getT]
 | cons y M ih =>
   unfold getT
   by_cases h : y.nm = d
   ·rw [if_pos h]
    constructor
    ·intro h2; cases h2
    ·intro h2; exact absurd h (h2 y List.mem_cons_self)
   ·rw [if_neg h, ih]
    constructor
    ·intro h2 x hx
     rcases List.mem_cons.1 hx with rfl | hx
     ·exact h
     ·exact h2 x hx
    ·intro h2 x hx
     exact h2 x (List.mem_cons_of_mem _ hx)
theorem mem_setTB (e : Pt) : ∀ l t y, y ∈ setTB e l t ↔ (t = false ∧ y = e) ∨ (y ∈ l ∧ y.nm ≠ e.nm)
 | [], t, y => by cases t <;> simp [setTB]
 | x :: M, t, y => by
   have ih := mem_setTB e M (t || !nlt x.nm e.nm) y
   simp only [setTB, List.mem_append, ih]
   by_cases h1 : x.nm = e.nm
   ·rw [if_pos h1, h1, nlt_self]
    cases t <;> simp [h1] <;> grind
   ·rw [if_neg h1]
    cases h2 : nlt x.nm e.nm <;> cases t <;> simp [h2] <;> grind
theorem mem_setT {l : List Pt} {e y : Pt} : y ∈ setT l e ↔ y = e ∨ (y ∈ l ∧ y.nm ≠ e.nm) := by rw [setT, mem_setTB]; simp
theorem setTB_length (e : Pt) : ∀ l t, (setTB e l t).length ≤ l.length + (if t then 0 else 1)
 | [], t => by cases t <;> simp [setTB]
 | x :: M, t => by
   have ih := setTB_length e M (t || !nlt x.nm e.nm)
   simp only [setTB, List.length_append, List.length_cons]
   by_cases h2 : x.nm = e.nm
   ·have h : nlt x.nm e.nm = false := by rw [h2, nlt_self]
    rw [if_pos h2]
    rw [h] at ih ⊢
    cases t <;> simp at ih ⊢ <;> omega
   ·rw [if_neg h2]
    cases h : nlt x.nm e.nm <;> rw [h] at ih <;> cases t <;> simp at ih ⊢ <;> omega
theorem setT_length (l : List Pt) (e : Pt) : (setT l e).length ≤ l.length + 1 := setTB_length e l false
theorem setTB_row (e : Pt) : ∀ l t, rowT l → (t = true → ∀ y ∈ l, nlt e.nm y.nm = true) → rowT (setTB e l t)
 | [], t, _, _ => by
   cases t
   ·exact List.pairwise_singleton _ _
   ·exact List.Pairwise.nil
 | x :: M, t, hr, ht => by
   obtain ⟨h1, h2⟩ := List.pairwise_cons.1 hr
   cases h3 : nlt x.nm e.nm with
   | true =>
     have htf : t = false := by
      cases t
      ·rfl
      ·have h4 := ht rfl x List.mem_cons_self
       rw [nlt_asymm h4] at h3
       cases h3
     subst htf
     have hne : x.nm ≠ e.nm := fun h => by rw [h, nlt_self] at h3; cases h3
     have ih := setTB_row e M false h2 (fun h => by cases h)
     simp only [setTB, h3, Bool.not_true, Bool.or_false]
     rw [if_neg (fun h => by cases h.2), if_neg hne]
     refine List.pairwise_cons.2 ⟨fun y hy => ?_, ih⟩
     rcases (mem_setTB e M false y).1 hy with ⟨_, rfl⟩ | ⟨hy, _⟩
     ·exact h3
     ·exact h1 y hy
   | false =>
     have hlt : ∀ y ∈ M, nlt e.nm y.nm = true := fun y hy => by
      cases h4 : nlt e.nm x.nm with
      | true => exact nlt_trans h4 (h1 y hy)
      | false => rw [nlt_total h4 h3]; exact h1 y hy
     have ih := setTB_row e M true h2 (fun _ => hlt)
     have hlow : ∀ y ∈ setTB e M true, nlt e.nm y.nm = true := fun y hy => by
      rcases (mem_setTB e M true y).1 hy with ⟨h, _⟩ | ⟨hy, _⟩
      ·cases h
      ·exact hlt y hy
     simp only [setTB, h3, Bool.not_false, Bool.or_true]
     by_cases h5 : x.nm = e.nm
     ·rw [if_pos h5, List.nil_append]
      cases t
      ·rw [if_pos ⟨rfl, trivial⟩]
       exact List.pairwise_cons.2 ⟨hlow, ih⟩
      ·rw [if_neg (fun h => by cases h.1)]
       exact ih
     ·have h6 : nlt e.nm x.nm = true := by
       cases h4 : nlt e.nm x.nm with
       | true => rfl
       | false => exact absurd (nlt_total h3 h4) h5
      have hx2 : rowT (x :: setTB e M true) := List.pairwise_cons.2 ⟨fun y hy => by
       rcases (mem_setTB e M true y).1 hy with ⟨h, _⟩ | ⟨hy, _⟩
       ·cases h
       ·exact h1 y hy, ih⟩
      rw [if_neg h5]
      cases t
      ·rw [if_pos ⟨rfl, trivial⟩]
       exact List.pairwise_cons.2 ⟨fun y hy => by
        rcases List.mem_cons.1 hy with rfl | hy
        ·exact h6
        ·exact hlow y hy, hx2⟩
      ·rw [if_neg (fun h => by cases h.1)]
       exact hx2
theorem setT_row {l : List Pt} {e : Pt} (hr : rowT l) : rowT (setT l e) := setTB_row e l false hr (fun h => by cases h)
theorem newT_snoc (l : List Pt) (x : Pt) : newT (l ++ [x]) = setT (newT l) x := by simp [newT, List.foldl_append]
theorem newT_length (l : List Pt) : (newT l).length ≤ l.length := by
 have : ∀ (l o : List Pt), (l.foldl setT o).length ≤ o.length + l.length := by
  intro l
  induction l with
  | nil => intro o; simp
  | cons x l ih =>
    intro o
    have h1 := ih (setT o x)
    have h2 := setT_length o x
    rw [List.foldl_cons, List.length_cons]
    omega
 simpa [newT] using this l []
/-- a rising row put anew is itself -/
theorem setT_last {l : List Pt} {x : Pt} (h : ∀ y ∈ l, nlt y.nm x.nm = true) : setT l x = l ++ [x] := by
 unfold setT
 induction l with
 | nil => rfl
 | cons y M ih =>
   have h1 := h y List.mem_cons_self
   have hne : y.nm ≠ x.nm := fun e => by rw [e, nlt_self] at h1; cases h1
   simp only [setTB, h1, Bool.not_true, Bool.or_false]
   rw [if_neg (fun h => by cases h.2), if_neg hne, ih (fun z hz => h z (List.mem_cons_of_mem _ hz))]
   rfl
theorem newT_self {l : List Pt} (h : rowT l) : newT l = l := by
 have : ∀ (m o : List Pt), rowT (o ++ m) → m.foldl setT o = o ++ m := by
  intro m
  induction m with
  | nil => intro o _; simp
  | cons x m ih =>
    intro o ho
    rw [List.foldl_cons, setT_last (fun y hy => (List.pairwise_append.1 ho).2.2 y hy x List.mem_cons_self), ih (o ++ [x]) (by simpa using ho)]
    simp
 simpa [newT] using this l [] h
theorem keepT_nm {e : Pt} {b : List Int} (h : (keepT e b).2 = true) : (keepT e b).1.nm = e.nm := by
 unfold keepT at h ⊢
 split
 ·rfl
 ·split
  ·rfl
  ·rename_i h1 h2
   rw [if_neg h1, if_neg h2] at h
   cases h
theorem keepTs_cons (e : Pt) (l : List Pt) (b : List Int) : keepTs (e :: l) b = (if (keepT e b).2 then [(keepT e b).1] else []) ++ keepTs l b := by
 unfold keepTs
 rw [List.flatMap_cons]
theorem mem_keepTs {l : List Pt} {b : List Int} {y : Pt} : y ∈ keepTs l b ↔ ∃ x ∈ l, (keepT x b).2 = true ∧ y = (keepT x b).1 := by
 unfold keepTs
 rw [List.mem_flatMap]
 constructor
 ·rintro ⟨x, hx, hy⟩
  split at hy
  ·rw [List.mem_singleton] at hy; exact ⟨x, hx, by assumption, hy⟩
  ·cases hy
 ·rintro ⟨x, hx, h1, h2⟩
  exact ⟨x, hx, by rw [if_pos h1, h2]; exact List.mem_singleton.2 rfl⟩
theorem keepTs_row {l : List Pt} (h : rowT l) (b : List Int) : rowT (keepTs l b) := by
 induction l with
 | nil => exact List.Pairwise.nil
 | cons x l ih =>
   obtain ⟨h1, h2⟩ := List.pairwise_cons.1 h
   rw [keepTs_cons]
   split
   ·rename_i hk
    refine List.pairwise_cons.2 ⟨fun y hy => ?_, ih h2⟩
    obtain ⟨z, hz, h3, rfl⟩ := mem_keepTs.1 hy
    rw [keepT_nm hk, keepT_nm h3]
    exact h1 z hz
   ·exact ih h2
theorem keepTs_length (l : List Pt) (b : List Int) : (keepTs l b).length ≤ l.length := by
 induction l with
 | nil => exact Nat.le_refl _
 | cons x l ih =>
   rw [keepTs_cons, List.length_append, List.length_cons]
   split <;> simp <;> omega
theorem applyT_length (l : List Pt) (w : Wq) : (applyT l w).length ≤ l.length + 1 := by
 unfold applyT
 split
 ·exact setT_length _ _
 ·split
  ·exact setT_length _ _
  ·omega
/-- how long the rows of segments may be -/
def insLeT (l : List Pt) (k : Nat) : Prop := ∀ x ∈ l, x.ins.length ≤ k
theorem getTR_ins {l : List Pt} {k : Nat} (h : insLeT l k) (d : ByteArray) : (getTR l d).1.ins.length ≤ k := by
 unfold getTR
 cases h2 : getT l d with
 | none => exact Nat.zero_le _
 | some x => exact h x (getT_mem h2).1
theorem setT_ins {l : List Pt} {e : Pt} {k : Nat} (h : insLeT l k) (he : e.ins.length ≤ k) : insLeT (setT l e) k := fun y hy => by
 rcases mem_setT.1 hy with rfl | ⟨h1, _⟩
 ·exact he
 ·exact h y h1
theorem newT_ins {l : List Pt} {k : Nat} (h : insLeT l k) : insLeT (newT l) k := by
 have : ∀ (m o : List Pt), insLeT m k → insLeT o k → insLeT (m.foldl setT o) k := by
  intro m
  induction m with
  | nil => intro o _ ho; exact ho
  | cons x m ih => intro o hm ho; exact ih _ (fun y hy => hm y (List.mem_cons_of_mem _ hy)) (setT_ins ho (hm x List.mem_cons_self))
 exact this l [] h (fun _ hx => by cases hx)
theorem applyT_ins {l : List Pt} {w : Wq} {k : Nat} (h : insLeT l k) : insLeT (applyT l w) (k + 1) := by
 have h' : insLeT l (k + 1) := fun y hy => Nat.le_succ_of_le (h y hy)
 have hg := getTR_ins h w.nm
 unfold applyT
 split
 ·exact setT_ins h' (Nat.le_trans (putrow_length _ _) (by omega))
 ·split
  ·exact setT_ins h' (Nat.le_trans (rowI_length _) (by omega))
  ·exact h'
theorem keepTs_ins {l : List Pt} {k : Nat} (h : insLeT l k) (b : List Int) : insLeT (keepTs l b) k := fun y hy => by
 obtain ⟨x, hx, h1, rfl⟩ := mem_keepTs.1 hy
 exact Nat.le_trans (keepT_length x b) (h x hx)
def risesN (E : List ByteArray) : Prop := E.Pairwise fun a b => nlt a b = true
/-- a rising row, behind one of its names -/
theorem filter_at {D : List ByteArray} (h : risesN D) {m : Nat} {b : ByteArray} (hb : D[m]? = some b) : D.filter (nlt b) = D.drop (m + 1) := by
 induction D generalizing m with
 | nil => cases hb
 | cons x D ih =>
   obtain ⟨h1, h2⟩ := List.pairwise_cons.1 h
   cases m with
   | zero =>
     rw [List.getElem?_cons_zero] at hb
     cases hb
     rw [List.filter_cons_of_neg (by rw [nlt_self]; exact Bool.false_ne_true), List.drop_succ_cons, List.drop_zero]
     exact List.filter_eq_self.2 fun y hy => h1 y hy
   | succ m =>
     rw [List.getElem?_cons_succ] at hb
     have hx : nlt x b = true := h1 b (List.mem_of_getElem? hb)
     rw [List.filter_cons_of_neg (by rw [nlt_asymm hx]; exact Bool.false_ne_true), List.drop_succ_cons]
     exact ih h2 hb
theorem filter_more {E : List ByteArray} {a b : ByteArray} (hab : nlt a b = true) : E.filter (nlt b) = (E.filter (nlt a)).filter (nlt b) := by
 rw [List.filter_filter]
 congr 1
 funext x
 cases h : nlt b x
 ·rfl
 ·rw [nlt_trans hab h]; rfl
/-- amid the pages: what was listed, the name behind which goes on -/
structure PgI (E : List ByteArray) (n : Nat) (i : Nat) (all : List ByteArray) (after : ByteArray) : Prop where
 al : all = (E.filter (nlt ⟨#[]⟩)).take (i * n)
 re : E.filter (nlt after) = (E.filter (nlt ⟨#[]⟩)).drop (i * n)
theorem PgI.start (E : List ByteArray) (n : Nat) : PgI E n 0 [] ⟨#[]⟩ := ⟨by simp, by simp⟩
/-- the name behind a page -/
def aftN (pg : List ByteArray) (after : ByteArray) : ByteArray := pg.getLast?.getD after
theorem PgI.step {E : List ByteArray} {n i : Nat} {all : List ByteArray} {after : ByteArray} (h : PgI E n i all after) (hE : risesN E) (hn : 1 ≤ n) :
 PgI E n (i + 1) (all ++ (E.filter (nlt after)).take n) (aftN ((E.filter (nlt after)).take n) after) := by
 have e1 : (i + 1) * n = i * n + n := by rw [Nat.add_mul, Nat.one_mul]
 refine ⟨?_, ?_⟩
 ·rw [h.al, h.re, e1, List.take_add]
 ·have hre := h.re
  obtain ⟨D, hD⟩ : ∃ D, E.filter (nlt after) = D := ⟨_, rfl⟩
  have hDr : risesN D := by rw [← hD]; exact List.Pairwise.filter _ hE
  rw [e1, ← List.drop_drop, ← hre, hD]
  cases hl : (D.take n).getLast? with
  | none =>
    have h0 : D.take n = [] := List.getLast?_eq_none_iff.1 hl
    have h1 : D = [] := by
     cases D with
     | nil => rfl
     | cons x D =>
       obtain ⟨m, rfl⟩ : ∃ m, n = m + 1 := ⟨n - 1, by omega⟩
       rw [List.take_succ_cons] at h0
       cases h0
    unfold aftN
    rw [hl]
    show E.filter (nlt after) = _
    rw [hD, h1]
    simp
  | some b =>
    unfold aftN
    rw [hl]
    show E.filter (nlt b) = _
    have hb : (D.take n)[(D.take n).length - 1]? = some b := by rw [← List.getLast?_eq_getElem?]; exact hl
    have hlt : (D.take n).length - 1 < n := by rw [List.length_take]; omega
    have hb2 : D[(D.take n).length - 1]? = some b := by rw [List.getElem?_take, if_pos hlt] at hb; exact hb
    have hmem : b ∈ E.filter (nlt after) := by rw [hD]; exact List.mem_of_getElem? hb2
    have hab : nlt after b = true := (List.mem_filter.1 hmem).2
    rw [filter_more hab, hD, filter_at hDr hb2, List.length_take]
    have hpos : 0 < D.length := by
     cases D with
     | nil => cases hb2
     | cons x D => exact Nat.succ_pos _
    by_cases hle : n ≤ D.length
    ·rw [Nat.min_eq_left hle, show n - 1 + 1 = n by omega]
    ·rw [Nat.min_eq_right (by omega), show D.length - 1 + 1 = D.length by omega, List.drop_length, List.drop_eq_nil_of_le (by omega)]
theorem PgI.all {E : List ByteArray} {n i : Nat} {all : List ByteArray} {after : ByteArray} (h : PgI E n i all after) (hn : 1 ≤ n) (hi : E.length ≤ i) : all = E.filter (nlt ⟨#[]⟩) := by
 rw [h.al]
 refine List.take_of_length_le ?_
 have h1 := List.length_filter_le (nlt ⟨#[]⟩) E
 have h2 : i * 1 ≤ i * n := Nat.mul_le_mul_left i hn
 omega
/-! ### loads: of segments, rising -/
def loadB (seg n : Int) (put : Bool) : List (Int × Int) → Bool → List (Int × Int)
 | [], t => if t then [] else [(seg, n)]
 | x :: M, t => (if t = false ∧ seg < x.1 then [(seg, n)] else []) ++ ((x.1, if x.1 = seg then (if put then n else IntKind.i64.wrap (x.2 + n)) else x.2) :: loadB seg n put M (t || decide (seg < x.1) || decide (x.1 = seg)))
theorem loadB_cons (seg n : Int) (put : Bool) (x : Int × Int) (M : List (Int × Int)) (t : Bool) : loadB seg n put (x :: M) t = (if t = false ∧ seg < x.1 then [(seg, n)] else []) ++ ((x.1, if x.1 = seg then (if put then n else IntKind.i64.wrap (x.2 + n)) else x.2) :: loadB seg n put M (t || decide (seg < x.1) || decide (x.1 = seg))) := rfl
def loadP (l : List (Int × Int)) (seg n : Int) (put : Bool) : List (Int × Int) := loadB seg n put l false
def getL (l : List (Int × Int)) (s : Int) : Option Int := match l with
 | [] => none
 | x :: M => if x.1 = s then some x.2 else getL M s
theorem getL_cons (x : Int × Int) (M : List (Int × Int)) (s : Int) : getL (x :: M) s = if x.1 = s then some x.2 else getL M s := rfl
def rowL (l : List (Int × Int)) : Prop := l.Pairwise fun a b => a.1 < b.1
theorem getL_mem {l : List (Int × Int)} {s v : Int} (h : getL l s = some v) : (s, v) ∈ l := by
 induction l with
 | nil => cases h
 | cons x M ih =>
   unfold getL at h
   split at h
   ·rename_i h1
    cases h
    exact List.mem_cons.2 (Or.inl (by rw [← h1]))
   ·exact List.mem_cons_of_mem _ (ih h)
theorem getL_is {l : List (Int × Int)} (hr : rowL l) {s v : Int} (h : (s, v) ∈ l) : getL l s = some v := by
 induction l with
 | nil => cases h
 | cons x M ih =>
   obtain ⟨h1, h2⟩ := List.pairwise_cons.1 hr
   unfold getL
   rcases List.mem_cons.1 h with rfl | h
   ·rw [if_pos rfl]
   ·have := h1 _ h
    rw [if_neg (by dsimp only at this; omega)]
    exact ih h2 h
theorem getL_none {l : List (Int × Int)} {s : Int} : getL l s = none ↔ ∀ x ∈ l, x.1 ≠ s := by
 induction l with
 | nil => simp [getL]
 | cons y M ih =>
   unfold getL
   by_cases h : y.1 = s
   ·rw [if_pos h]
    exact ⟨(fun h2 => by cases h2), fun h2 => absurd h (h2 y List.mem_cons_self)⟩
   ·rw [if_neg h, ih]
    exact ⟨fun h2 x hx => (List.mem_cons.1 hx).elim (fun e => by rw [e]; exact h) (h2 x), fun h2 x hx => h2 x (List.mem_cons_of_mem _ hx)⟩
theorem loadB_true (seg n : Int) (put : Bool) : ∀ l, (∀ x ∈ l, x.1 ≠ seg) → loadB seg n put l true = l
 | [], _ => rfl
 | x :: M, h => by
   have h1 := h x List.mem_cons_self
   simp [loadB, h1, loadB_true seg n put M (fun y hy => h y (List.mem_cons_of_mem _ hy))]
theorem mem_loadB_ge {seg n : Int} {put : Bool} : ∀ {l : List (Int × Int)} {t : Bool} {y : Int × Int}, y ∈ loadB seg n put l t → y.1 = seg ∨ ∃ x ∈ l, x.1 = y.1
 | [], t, y, h => by
   unfold loadB at h
   split at h
   ·cases h
   ·rw [List.mem_singleton] at h
    exact Or.inl (by rw [h])
 | x :: M, t, y, h => by
   unfold loadB at h
   rcases List.mem_append.1 h with h | h
   ·split at h
    ·rw [List.mem_singleton] at h
     exact Or.inl (by rw [h])
    ·cases h
   ·rcases List.mem_cons.1 h with h | h
    ·exact Or.inr ⟨x, List.mem_cons_self, by rw [h]⟩
    ·rcases mem_loadB_ge h with h | ⟨z, hz, e⟩
     ·exact Or.inl h
     ·exact Or.inr ⟨z, List.mem_cons_of_mem _ hz, e⟩
theorem loadB_row (seg n : Int) (put : Bool) : ∀ l, rowL l → rowL (loadB seg n put l false)
 | [], _ => List.pairwise_singleton _ _
 | x :: M, h => by
   obtain ⟨h1, h2⟩ := List.pairwise_cons.1 h
   by_cases ha : seg < x.1
   ·have e : loadB seg n put (x :: M) false = (seg, n) :: x :: M := by
     have hne : x.1 ≠ seg := by omega
     have ht := loadB_true seg n put M (fun y hy => by have := h1 y hy; omega)
     simp [loadB, ha, hne, ht]
    rw [e]
    refine List.pairwise_cons.2 ⟨fun y hy => ?_, h⟩
    rcases List.mem_cons.1 hy with rfl | hy
    ·exact ha
    ·have := h1 y hy
     show seg < y.1
     omega
   ·by_cases hb : x.1 = seg
    ·have ht := loadB_true seg n put M (fun y hy => by have := h1 y hy; omega)
     have e : loadB seg n put (x :: M) false = (x.1, if put then n else IntKind.i64.wrap (x.2 + n)) :: M := by
      rw [loadB_cons, if_neg (fun h => ha h.2), if_pos hb, show (false || decide (seg < x.1) || decide (x.1 = seg)) = true by simp [hb], ht]
      rfl
     rw [e]
     exact List.pairwise_cons.2 ⟨fun y hy => h1 y hy, h2⟩
    ·have e : loadB seg n put (x :: M) false = x :: loadB seg n put M false := by
      rw [loadB_cons, if_neg (fun h => ha h.2), if_neg hb, show (false || decide (seg < x.1) || decide (x.1 = seg)) = false by simp [ha, hb]]
      rfl
     rw [e]
     refine List.pairwise_cons.2 ⟨fun y hy => ?_, loadB_row seg n put M h2⟩
     rcases mem_loadB_ge hy with e | ⟨z, hz, e⟩
     ·rw [e]; omega
     ·rw [← e]; exact h1 z hz
theorem getL_loadB (seg n : Int) (put : Bool) : ∀ l s, rowL l → getL (loadB seg n put l false) s = if s = seg then some (match getL l seg with | some v => if put then n else IntKind.i64.wrap (v + n) | none => n) else getL l s
 | [], s, _ => by
   show (if seg = s then some n else none) = _
   by_cases e : s = seg
   ·rw [if_pos e.symm, if_pos e]; rfl
   ·rw [if_neg (fun h => e h.symm), if_neg e]; rfl
 | x :: M, s, h => by
   obtain ⟨h1, h2⟩ := List.pairwise_cons.1 h
   by_cases ha : seg < x.1
   ·have hne : x.1 ≠ seg := by omega
    have ht := loadB_true seg n put M (fun y hy => by have := h1 y hy; omega)
    have e : loadB seg n put (x :: M) false = (seg, n) :: x :: M := by simp [loadB, ha, hne, ht]
    have hn : getL (x :: M) seg = none := getL_none.2 fun y hy => by
     rcases List.mem_cons.1 hy with rfl | hy
     ·exact hne
     ·have := h1 y hy; omega
    rw [e, hn]
    show (if seg = s then some n else getL (x :: M) s) = _
    by_cases es : s = seg
    ·rw [if_pos es.symm, if_pos es]
    ·rw [if_neg (fun h => es h.symm), if_neg es]
   ·by_cases hb : x.1 = seg
    ·have ht := loadB_true seg n put M (fun y hy => by have := h1 y hy; omega)
     have e : loadB seg n put (x :: M) false = (x.1, if put then n else IntKind.i64.wrap (x.2 + n)) :: M := by
      rw [loadB_cons, if_neg (fun h => ha h.2), if_pos hb, show (false || decide (seg < x.1) || decide (x.1 = seg)) = true by simp [hb], ht]
      rfl
     rw [e]
     have hx : getL (x :: M) seg = some x.2 := by unfold getL; rw [if_pos hb]
     rw [hx]
     show (if x.1 = s then some _ else getL M s) = _
     by_cases es : s = seg
     ·rw [if_pos (hb.trans es.symm), if_pos es]
     ·rw [if_neg (fun h => es (h.symm.trans hb)), if_neg es]
      show _ = if x.1 = s then some x.2 else getL M s
      rw [if_neg (fun h => es (h.symm.trans hb))]
    ·have e : loadB seg n put (x :: M) false = x :: loadB seg n put M false := by
      rw [loadB_cons, if_neg (fun h => ha h.2), if_neg hb, show (false || decide (seg < x.1) || decide (x.1 = seg)) = false by simp [ha, hb]]
      rfl
     have hx : getL (x :: M) seg = getL M seg := by
      show (if x.1 = seg then some x.2 else getL M seg) = _
      rw [if_neg hb]
     rw [e, hx]
     show (if x.1 = s then some x.2 else getL (loadB seg n put M false) s) = _
     by_cases es : x.1 = s
     ·rw [if_pos es, if_neg (fun h => hb (es.trans h))]
      show _ = if x.1 = s then some x.2 else getL M s
      rw [if_pos es]
     ·rw [if_neg es, getL_loadB seg n put M s h2]
      by_cases e2 : s = seg
      ·rw [if_pos e2, if_pos e2]
      ·rw [if_neg e2, if_neg e2]
       show _ = if x.1 = s then some x.2 else getL M s
       rw [if_neg es]
theorem loadP_row {l : List (Int × Int)} (h : rowL l) (seg n : Int) (put : Bool) : rowL (loadP l seg n put) := loadB_row seg n put l h
theorem getL_loadP {l : List (Int × Int)} (h : rowL l) (seg n : Int) (put : Bool) (s : Int) : getL (loadP l seg n put) s = if s = seg then some (match getL l seg with | some v => if put then n else IntKind.i64.wrap (v + n) | none => n) else getL l s := getL_loadB seg n put l s h
theorem loadB_length (seg n : Int) (put : Bool) : ∀ l t, (loadB seg n put l t).length ≤ l.length + (if t then 0 else 1)
 | [], t => by cases t <;> simp [loadB]
 | x :: M, t => by
   have ih := loadB_length seg n put M (t || decide (seg < x.1) || decide (x.1 = seg))
   unfold loadB
   rw [List.length_append, List.length_cons, List.length_cons]
   cases t
   ·by_cases ha : seg < x.1
    ·simp only [ha, and_self, if_true, decide_true, Bool.or_true, Bool.true_or, List.length_singleton] at ih ⊢
     simp at ih ⊢
     omega
    ·simp only [ha, and_false, if_false, List.length_nil] at ih ⊢
     have : (if (false || decide False || decide (x.1 = seg)) = true then 0 else 1) ≤ 1 := by split <;> omega
     simp at ih ⊢
     split at ih <;> omega
   ·simp at ih ⊢
    omega
theorem loadP_length (l : List (Int × Int)) (seg n : Int) (put : Bool) : (loadP l seg n put).length ≤ l.length + 1 := loadB_length seg n put l false
/-! ### states -/
structure Ps where
 D : List Pe
 T : List Pt
 L : List (Int × Int)
def newL (ls : List (Int × Int)) : List (Int × Int) := ls.foldl (fun o x => loadP o x.1 x.2 true) []
def newS (ds : List Pe) (ts : List Pt) (ls : List (Int × Int)) : Ps := ⟨newE ds, newT ts, newL ls⟩
def applyL (l : List (Int × Int)) (w : Wq) : List (Int × Int) := if 1 ≤ w.k ∧ w.k ≤ 5 then loadP l w.seg w.len false else l
def applyS (s : Ps) (w : Wq) : Ps := ⟨applyE s.D w, applyT s.T w, applyL s.L w⟩
def keepS (s : Ps) (b : List Int) : Ps := ⟨keepR s.D b, keepTs s.T b, s.L.filter fun x => decide (x.1 ∈ b)⟩
def zeroS : Ps := ⟨[], [], []⟩
/-- in its place by Off, behind those of the same -/
def putB (w : Wq) : List Wq → Bool → List Wq
 | [], t => if t then [] else [w]
 | x :: M, t => (if t = false ∧ w.off < x.off then [w] else []) ++ (x :: putB w M (t || decide (w.off < x.off)))
def putW (l : List Wq) (w : Wq) : List Wq := putB w l false
def wordE (e : Pe) : Wq := ⟨e.k, 0, e.dg, ⟨#[]⟩, e.z, e.seg, e.off, e.len⟩
def wordT (t : Pt) : Wq := ⟨if t.gone then 4 else 3, 0, t.dg, t.nm, 0, t.seg, t.off, t.len⟩
def hereE (s : Int) (e : Pe) : Bool := decide (e.seg = s) && aliveB (decide (e.k = 5)) e.ins s
def hereT (s : Int) (t : Pt) : Bool := decide (t.seg = s) && aliveB t.gone t.ins s
def hereP (x : Ps) (s : Int) : List Wq := ((x.D.filter (hereE s)).map wordE ++ (x.T.filter (hereT s)).map wordT).foldl putW []
def sumW (l : List Wq) : Int := IntKind.i64.wrap (l.map (·.len)).sum
def loadsP (x : Ps) : List (Int × Int × Int) := x.L.map fun y => (y.1, y.2, sumW (hereP x y.1))
structure Ps.Ok (x : Ps) : Prop where
 d : rowE x.D
 dk : dgsOk x.D
 t : rowT x.T
 tk : dgsT x.T
 l : rowL x.L
theorem putB_length (w : Wq) : ∀ l t, (putB w l t).length = l.length + (if t then 0 else 1)
 | [], t => by cases t <;> simp [putB]
 | x :: M, t => by
   have ih := putB_length w M (t || decide (w.off < x.off))
   unfold putB
   rw [List.length_append, List.length_cons, ih, List.length_cons]
   cases t
   ·by_cases ha : w.off < x.off <;> simp [ha] <;> omega
   ·simp
theorem putW_length (l : List Wq) (w : Wq) : (putW l w).length = l.length + 1 := putB_length w l false
theorem foldW_length : ∀ (l o : List Wq), (l.foldl putW o).length = o.length + l.length
 | [], o => by simp
 | w :: l, o => by rw [List.foldl_cons, foldW_length l, putW_length, List.length_cons]; omega
theorem mem_putB (w : Wq) : ∀ l t y, y ∈ putB w l t ↔ (t = false ∧ y = w) ∨ y ∈ l
 | [], t, y => by cases t <;> simp [putB]
 | x :: M, t, y => by
   have ih := mem_putB w M (t || decide (w.off < x.off)) y
   unfold putB
   rw [List.mem_append, List.mem_cons, ih, List.mem_cons]
   cases t
   ·by_cases ha : w.off < x.off <;> simp [ha] <;> grind
   ·simp
theorem mem_putW {l : List Wq} {w y : Wq} : y ∈ putW l w ↔ y = w ∨ y ∈ l := by rw [putW, mem_putB]; simp
theorem mem_foldW : ∀ (l o : List Wq) (y : Wq), y ∈ l.foldl putW o ↔ y ∈ l ∨ y ∈ o
 | [], o, y => by simp
 | w :: l, o, y => by rw [List.foldl_cons, mem_foldW l, mem_putW, List.mem_cons]; grind
theorem mem_hereP {x : Ps} {s : Int} {w : Wq} : w ∈ hereP x s ↔ (∃ e ∈ x.D, hereE s e = true ∧ wordE e = w) ∨ ∃ t ∈ x.T, hereT s t = true ∧ wordT t = w := by
 unfold hereP
 rw [mem_foldW, List.mem_append, List.mem_map, List.mem_map]
 constructor
 ·rintro ((⟨e, he, h⟩ | ⟨t, ht, h⟩) | h)
  ·obtain ⟨h1, h2⟩ := List.mem_filter.1 he
   exact Or.inl ⟨e, h1, h2, h⟩
  ·obtain ⟨h1, h2⟩ := List.mem_filter.1 ht
   exact Or.inr ⟨t, h1, h2, h⟩
  ·cases h
 ·rintro (⟨e, h1, h2, h⟩ | ⟨t, h1, h2, h⟩)
  ·exact Or.inl (Or.inl ⟨e, List.mem_filter.2 ⟨h1, h2⟩, h⟩)
  ·exact Or.inl (Or.inr ⟨t, List.mem_filter.2 ⟨h1, h2⟩, h⟩)
theorem hereP_length (x : Ps) (s : Int) : (hereP x s).length ≤ x.D.length + x.T.length := by
 unfold hereP
 rw [foldW_length, List.length_append, List.length_map, List.length_map]
 have h1 := List.length_filter_le (hereE s) x.D
 have h2 := List.length_filter_le (hereT s) x.T
 simp only [List.length_nil]
 omega
def Rgi (n : Int) : Prop := -9223372036854775808 ≤ n ∧ n ≤ 9223372036854775807
def Wq.In (y : Wq) : Prop := Rgi y.seg ∧ Rgi y.len
def Pe.In (y : Pe) : Prop := Rgi y.seg ∧ Rgi y.len
def Pt.In (y : Pt) : Prop := Rgi y.seg ∧ Rgi y.len
structure Ps.In (x : Ps) : Prop where
 d : ∀ y ∈ x.D, y.In
 t : ∀ y ∈ x.T, y.In
 l : ∀ y ∈ x.L, Rgi y.1 ∧ Rgi y.2
theorem rgi0 : Rgi 0 := ⟨by decide, by decide⟩
theorem rgi_wrap (n : Int) : Rgi (IntKind.i64.wrap n) := by rw [IntKind.wrap_i64]; unfold Rgi; omega
theorem newE_in : ∀ (l o : List Pe), (∀ y ∈ l, y.In) → (∀ y ∈ o, y.In) → ∀ y ∈ l.foldl setE o, y.In
 | [], o, _, h => h
 | x :: l, o, h1, h2 => newE_in l (setE o x) (fun y hy => h1 y (List.mem_cons_of_mem _ hy)) fun y hy => (mem_setE.1 hy).elim (fun e => by rw [e]; exact h1 x List.mem_cons_self) fun e => h2 y e.1
theorem newT_in : ∀ (l o : List Pt), (∀ y ∈ l, y.In) → (∀ y ∈ o, y.In) → ∀ y ∈ l.foldl setT o, y.In
 | [], o, _, h => h
 | x :: l, o, h1, h2 => newT_in l (setT o x) (fun y hy => h1 y (List.mem_cons_of_mem _ hy)) fun y hy => (mem_setT.1 hy).elim (fun e => by rw [e]; exact h1 x List.mem_cons_self) fun e => h2 y e.1
theorem loadB_in (seg n : Int) (put : Bool) (hs : Rgi seg) (hn : Rgi n) : ∀ (l : List (Int × Int)) (t : Bool), (∀ y ∈ l, Rgi y.1 ∧ Rgi y.2) → ∀ y ∈ loadB seg n put l t, Rgi y.1 ∧ Rgi y.2
 | [], t, _, y, hy => by
   unfold loadB at hy
   split at hy
   ·cases hy
   ·rw [List.mem_singleton.1 hy]; exact ⟨hs, hn⟩
 | x :: M, t, h, y, hy => by
   unfold loadB at hy
   rcases List.mem_append.1 hy with hy | hy
   ·split at hy
    ·rw [List.mem_singleton.1 hy]; exact ⟨hs, hn⟩
    ·cases hy
   ·rcases List.mem_cons.1 hy with rfl | hy
    ·refine ⟨(h x List.mem_cons_self).1, ?_⟩
     dsimp only
     split
     ·split
      ·exact hn
      ·exact rgi_wrap _
     ·exact (h x List.mem_cons_self).2
    ·exact loadB_in seg n put hs hn M _ (fun z hz => h z (List.mem_cons_of_mem _ hz)) y hy
theorem newL_in : ∀ (l o : List (Int × Int)), (∀ y ∈ l, Rgi y.1 ∧ Rgi y.2) → (∀ y ∈ o, Rgi y.1 ∧ Rgi y.2) → ∀ y ∈ l.foldl (fun o x => loadP o x.1 x.2 true) o, Rgi y.1 ∧ Rgi y.2
 | [], o, _, h => h
 | x :: l, o, h1, h2 => newL_in l _ (fun y hy => h1 y (List.mem_cons_of_mem _ hy)) (loadB_in _ _ _ (h1 x List.mem_cons_self).1 (h1 x List.mem_cons_self).2 o false h2)
theorem newS_in {ds : List Pe} {ts : List Pt} {ls : List (Int × Int)} (h1 : ∀ y ∈ ds, y.In) (h2 : ∀ y ∈ ts, y.In) (h3 : ∀ y ∈ ls, Rgi y.1 ∧ Rgi y.2) : (newS ds ts ls).In :=
 ⟨newE_in ds [] h1 (fun y hy => by cases hy), newT_in ts [] h2 (fun y hy => by cases hy), newL_in ls [] h3 (fun y hy => by cases hy)⟩
theorem applyS_in {x : Ps} (h : x.In) {y : Wq} (hy : y.In) : (applyS x y).In := by
 refine ⟨?_, ?_, ?_⟩
 ·show ∀ z ∈ applyE x.D y, z.In
  unfold applyE
  intro z hz
  split at hz
  ·exact (mem_setE.1 hz).elim (fun e => by rw [e]; exact hy) fun e => h.d z e.1
  ·split at hz
   ·exact (mem_setE.1 hz).elim (fun e => by rw [e]; exact hy) fun e => h.d z e.1
   ·exact h.d z hz
 ·show ∀ z ∈ applyT x.T y, z.In
  unfold applyT
  intro z hz
  split at hz
  ·exact (mem_setT.1 hz).elim (fun e => by rw [e]; exact hy) fun e => h.t z e.1
  ·split at hz
   ·exact (mem_setT.1 hz).elim (fun e => by rw [e]; exact hy) fun e => h.t z e.1
   ·exact h.t z hz
 ·show ∀ z ∈ applyL x.L y, Rgi z.1 ∧ Rgi z.2
  unfold applyL
  intro z hz
  split at hz
  ·exact loadB_in _ _ _ hy.1 hy.2 x.L false h.l z hz
  ·exact h.l z hz
theorem keepS_in {x : Ps} (h : x.In) (b : List Int) : (keepS x b).In := by
 refine ⟨fun z hz => ?_, fun z hz => ?_, fun z hz => h.l z (List.mem_filter.1 hz).1⟩
 ·obtain ⟨e, he, h1, rfl⟩ := mem_keepR.1 hz
  have hi := h.d e he
  unfold keepE
  split
  ·exact hi
  ·split
   ·exact ⟨rgi0, rgi0⟩
   ·exact ⟨rgi0, rgi0⟩
 ·obtain ⟨e, he, h1, rfl⟩ := mem_keepTs.1 hz
  have hi := h.t e he
  unfold keepT
  split
  ·exact hi
  ·split
   ·exact ⟨rgi0, rgi0⟩
   ·exact ⟨rgi0, rgi0⟩
/-- i is the place of the name s in l: all names ahead are less, none of the others is -/
structure AtT (l : List Pt) (s : ByteArray) (i : Nat) : Prop where
 le : i ≤ l.length
 lo : ∀ t x, t < i → l[t]? = some x → nlt x.nm s = true
 hi : ∀ t x, i ≤ t → l[t]? = some x → nlt x.nm s = false
/-- is the name there? -/
def fndT (l : List Pt) (s : ByteArray) (i : Nat) : Bool := match l[i]? with
 | some x => decide (x.nm = s)
 | none => false
theorem getT_low {A B : List Pt} {s : ByteArray} (h : ∀ x ∈ A, nlt x.nm s = true) : getT (A ++ B) s = getT B s := by
 induction A with
 | nil => rfl
 | cons x A ih =>
   have h1 := h x List.mem_cons_self
   rw [List.cons_append, getT, if_neg (fun e => by rw [e, nlt_self] at h1; cases h1)]
   exact ih fun y hy => h y (List.mem_cons_of_mem _ hy)
theorem AtT.low {l : List Pt} {s : ByteArray} {i : Nat} (h : AtT l s i) : ∀ x ∈ l.take i, nlt x.nm s = true := fun x hx => by
 obtain ⟨t, ht, e⟩ := List.getElem_of_mem hx
 rw [List.length_take] at ht
 rw [List.getElem_take] at e
 exact h.lo t x (by omega) (by rw [← e]; exact List.getElem?_eq_getElem _)
theorem AtT.high {l : List Pt} {s : ByteArray} {i : Nat} (h : AtT l s i) : ∀ x ∈ l.drop i, nlt x.nm s = false := fun x hx => by
 obtain ⟨t, ht, e⟩ := List.getElem_of_mem hx
 rw [List.getElem_drop] at e
 rw [List.length_drop] at ht
 exact h.hi (i + t) x (by omega) (by rw [← e]; exact List.getElem?_eq_getElem _)
theorem AtT.getNo {l : List Pt} {s : ByteArray} {i : Nat} (h : AtT l s i) (hr : rowT l) (hf : fndT l s i = false) : getT l s = none := by
 rw [getT_none]
 intro x hx e
 rw [← List.take_append_drop i l] at hx hr
 rcases List.mem_append.1 hx with hx | hx
 ·have := h.low x hx
  rw [e, nlt_self] at this
  cases this
 ·obtain ⟨_, h2, _⟩ := List.pairwise_append.1 hr
  unfold fndT at hf
  cases hd : l.drop i with
  | nil => rw [hd] at hx; cases hx
  | cons y M =>
    have hy : l[i]? = some y := by
     have h3 : (l.drop i)[0]? = some y := by rw [hd]; rfl
     rw [List.getElem?_drop] at h3
     exact h3
    rw [hy] at hf
    rw [hd] at hx h2
    rcases List.mem_cons.1 hx with rfl | hx
    ·simp [e] at hf
    ·have h4 := (List.pairwise_cons.1 h2).1 x hx
     have h5 := h.high y (by rw [hd]; exact List.mem_cons_self)
     rw [e] at h4
     rw [h4] at h5
     cases h5
theorem AtT.getIs {l : List Pt} {s : ByteArray} {i : Nat} {x : Pt} (h : AtT l s i) (hx : l[i]? = some x) (hn : x.nm = s) : getT l s = some x := by
 have h1 : l.drop i = x :: l.drop (i + 1) := by
  obtain ⟨h2, h3⟩ := List.getElem?_eq_some_iff.1 hx
  rw [List.drop_eq_getElem_cons h2, h3]
 rw [← List.take_append_drop i l, getT_low h.low, h1, getT, if_pos hn]
theorem AtT.getTR {l : List Pt} {s : ByteArray} {i : Nat} (h : AtT l s i) (hr : rowT l) : (Go.Proofs.YtpfbfhigelbfcaaGreat.getTR l s).2 = fndT l s i := by
 unfold Go.Proofs.YtpfbfhigelbfcaaGreat.getTR
 cases hf : fndT l s i with
 | false => rw [h.getNo hr hf]
 | true =>
   unfold fndT at hf
   cases hx : l[i]? with
   | none => rw [hx] at hf; cases hf
   | some x => rw [hx] at hf; rw [h.getIs hx (of_decide_eq_true hf)]
theorem setTB_low (e : Pt) {A B : List Pt} (h : ∀ x ∈ A, nlt x.nm e.nm = true) : setTB e (A ++ B) false = A ++ setTB e B false := by
 induction A with
 | nil => rfl
 | cons x A ih =>
   have h1 := h x List.mem_cons_self
   have hne : x.nm ≠ e.nm := fun e2 => by rw [e2, nlt_self] at h1; cases h1
   rw [List.cons_append, setTB, if_neg (fun h => by rw [h1] at h; cases h.2), if_neg hne, h1, Bool.not_true, Bool.or_false, ih fun y hy => h y (List.mem_cons_of_mem _ hy)]
   rfl
theorem setTB_id (e : Pt) {B : List Pt} (h : ∀ x ∈ B, nlt e.nm x.nm = true) : setTB e B true = B := by
 induction B with
 | nil => rfl
 | cons x B ih =>
   have h1 := h x List.mem_cons_self
   have hne : x.nm ≠ e.nm := fun e2 => by rw [e2, nlt_self] at h1; cases h1
   rw [setTB, if_neg (fun h => by cases h.1), if_neg hne, Bool.true_or, ih fun y hy => h y (List.mem_cons_of_mem _ hy)]
   rfl
theorem setTB_high (e x : Pt) {M : List Pt} (hx : nlt x.nm e.nm = false) (hr : rowT (x :: M)) : setTB e (x :: M) false = if x.nm = e.nm then e :: M else e :: x :: M := by
 obtain ⟨h1, h2⟩ := List.pairwise_cons.1 hr
 have hM : ∀ y ∈ M, nlt e.nm y.nm = true := fun y hy => by
  cases h3 : nlt e.nm x.nm with
  | true => exact nlt_trans h3 (h1 y hy)
  | false => rw [← nlt_total hx h3]; exact h1 y hy
 rw [setTB, if_pos ⟨rfl, hx⟩, hx, Bool.not_false, Bool.or_true, setTB_id e hM]
 split <;> rfl
/-- an entry that takes the place of another one -/
theorem AtT.setOver {l : List Pt} {e x : Pt} {i : Nat} (h : AtT l e.nm i) (hr : rowT l) (hx : l[i]? = some x) (hn : x.nm = e.nm) : setT l e = l.take i ++ e :: l.drop (i + 1) := by
 have h1 : l.drop i = x :: l.drop (i + 1) := by
  obtain ⟨h2, h3⟩ := List.getElem?_eq_some_iff.1 hx
  rw [List.drop_eq_getElem_cons h2, h3]
 have h2 := h.low
 have h3 := h.high
 have h4 := hr
 rw [← List.take_append_drop i l, h1] at h4
 unfold setT
 conv => lhs; rw [← List.take_append_drop i l]
 rw [setTB_low e h2, h1, setTB_high e x (h3 x (by rw [h1]; exact List.mem_cons_self)) (List.pairwise_append.1 h4).2.1, if_pos hn]
/-- an entry that comes between -/
theorem AtT.setNew {l : List Pt} {e : Pt} {i : Nat} (h : AtT l e.nm i) (hr : rowT l) (hf : fndT l e.nm i = false) : setT l e = l.take i ++ e :: l.drop i := by
 have h2 := h.low
 have h3 := h.high
 have h4 := hr
 rw [← List.take_append_drop i l] at h4
 unfold setT
 conv => lhs; rw [← List.take_append_drop i l]
 rw [setTB_low e h2]
 congr 1
 cases hd : l.drop i with
 | nil => rfl
 | cons y M =>
   have hy : l[i]? = some y := by
    have h3 : (l.drop i)[0]? = some y := by rw [hd]; rfl
    rw [List.getElem?_drop] at h3
    exact h3
   unfold fndT at hf
   rw [hy] at hf
   rw [hd] at h3 h4
   rw [setTB_high e y (h3 y List.mem_cons_self) (List.pairwise_append.1 h4).2.1, if_neg (of_decide_eq_false hf)]
/-- how many names are there -/
def cntT (l : List Pt) : Nat := (namesT l).length
def wT (e : Pt) : Nat := if e.gone then 0 else 1
theorem cntT_nil : cntT [] = 0 := rfl
theorem cntT_cons (e : Pt) (l : List Pt) : cntT (e :: l) = wT e + cntT l := by
 unfold cntT namesT wT
 rw [List.length_map, List.length_map, List.filter_cons]
 cases e.gone <;> simp <;> omega
theorem cntT_append (l m : List Pt) : cntT (l ++ m) = cntT l + cntT m := by
 induction l with
 | nil => rw [List.nil_append, cntT_nil, Nat.zero_add]
 | cons x l ih => rw [List.cons_append, cntT_cons, cntT_cons, ih, Nat.add_assoc]
theorem cntT_le (l : List Pt) : cntT l ≤ l.length := by
 unfold cntT namesT
 rw [List.length_map]
 exact List.length_filter_le _ _
end Go.Proofs.YtpfbfhigelbfcaaGreat

