/- Byte slices that a call makes: make, copy, append; Digests on plain lists: their order, and rows that rise; Strings as lists of numbers; The order of names (cut out of FolP); A literal of a struct or an array whose cells are known -/
import Derived.Test.YtieednadbcghjaaTg1
import Derived.Laws.CopyOwn
import Derived.Laws.AppendOwnNone
import Derived.Laws.MakeOwn
import Derived.Lib.AppendStr
import Derived.Maps.AppendAt
set_option linter.unusedSimpArgs false
set_option linter.unusedVariables false
namespace Go.Proofs.Ytieednadbcghjaa
set_option linter.unusedVariables false
open Go.RowKit Go.Lib

/-- A row of the call's own from block B on, whose first cells are these bytes. -/
def Ob (w : World) (B : Nat) (e : TypeId) (v : Value) (zs : List Int) : Prop :=
  (∀ j, 0 ≤ zs.getD j 0 ∧ zs.getD j 0 < 256) ∧ w.ownsRow B e 1 v zs.length (zs.map (Value.int .u8))

theorem Ob.open {w : World} {B : Nat} {e : TypeId} {v : Value} {zs : List Int} (h : Ob w B e v zs) :
    ∃ p cap, v = .slice p zs.length cap ∧ zs.length ≤ cap ∧ cap ≤ maxLen ∧ Bs w p zs.length zs ∧ (p = none → cap = 0) := by
  obtain ⟨h1, hl, h2⟩ := h
  rcases h2 with ⟨rfl, h0⟩ | ⟨g, cap, cur, rfl, hB, hg, hn, hm, hs, ht⟩
  · refine ⟨none, 0, by rw [h0], by omega, by simp, ⟨rfl, h1, Or.inl h0⟩, fun _ => rfl⟩
  · refine ⟨_, cap, rfl, hn, hm, ⟨rfl, h1, Or.inr ⟨g, 0, rfl, fun j hj => ?_⟩⟩, by simp⟩
    have ho : w.ownsRow B e 1 (.slice (some ⟨g, 0, none⟩) zs.length cap) zs.length (zs.map (Value.int .u8)) := ⟨hl, Or.inr ⟨g, cap, cur, rfl, hB, hg, hn, hm, hs, ht⟩⟩
    rw [Nat.zero_add, ho.cellAt j (by omega)]
    simp [List.getD_eq_getElem?_getD, hj]

theorem Ob.nil (w : World) (B : Nat) (e : TypeId) : Ob w B e (.slice none 0 0) [] := ⟨fun j => by simp, World.ownsRow_nil w B e 1⟩

theorem Ob.mono {w : World} {B B' : Nat} {e : TypeId} {v : Value} {zs : List Int} (h : Ob w B e v zs) (hB : B' ≤ B) : Ob w B' e v zs := by
  obtain ⟨h1, hl, h2⟩ := h
  refine ⟨h1, hl, ?_⟩
  rcases h2 with h2 | ⟨g, cap, cur, hv, hb, r⟩
  · exact Or.inl h2
  · exact Or.inr ⟨g, cap, cur, hv, by omega, r⟩

theorem Ob.later {w w' : World} {B : Nat} {e : TypeId} {v : Value} {zs : List Int} (h : Ob w B e v zs) (hb : Below w.heap.size w w') : Ob w' B e v zs := by
  obtain ⟨h1, hl, h2⟩ := h
  refine ⟨h1, hl, ?_⟩
  rcases h2 with h2 | ⟨g, cap, cur, hv, hB, hg, r⟩
  · exact Or.inl h2
  · have hlt : g < w.heap.size := by
      rcases Nat.lt_or_ge g w.heap.size with h | h
      · exact h
      · rw [Array.getElem?_eq_none h] at hg; cases hg
    exact Or.inr ⟨g, cap, cur, hv, hB, by rw [hb.block g hlt]; exact hg, r⟩

theorem below_step {w W w1 : World} (h0 : Below w.heap.size w W) (h1 : Below W.heap.size W w1) : Below w.heap.size w w1 := h0.trans (h1.mono h0.size)
theorem below_none {w w' : World} (h : w.grownBy w' none) : Below w.heap.size w w' := (Below.refl _ _).grown h (Nat.le_refl _) (by simp)
theorem below_new {B : Nat} {a w w' : World} {v : Value} {e : TypeId} {zs : List Int} (hb : Below B a w) (ho : Ob w B e v zs) (h : w.grownBy w' v.ownBlock) (hB : B ≤ w.heap.size) : Below B a w' :=
  hb.grown h hB (fun k hk => (ho.2.lt k hk).1)

theorem bytes_append {xs ys : List Int} (hx : ∀ j, 0 ≤ xs.getD j 0 ∧ xs.getD j 0 < 256) (hy : ∀ j, 0 ≤ ys.getD j 0 ∧ ys.getD j 0 < 256) : ∀ j, 0 ≤ (xs ++ ys).getD j 0 ∧ (xs ++ ys).getD j 0 < 256 := by
  intro j
  simp only [List.getD_eq_getElem?_getD] at *
  rw [List.getElem?_append]
  split
  · exact hx j
  · exact hy _

theorem bytes_replicate (n : Nat) : ∀ j, 0 ≤ (List.replicate n (0 : Int)).getD j 0 ∧ (List.replicate n (0 : Int)).getD j 0 < 256 := by
  intro j
  simp only [List.getD_eq_getElem?_getD, List.getElem?_replicate]
  split <;> simp

theorem bytes_one {x : Int} (h0 : 0 ≤ x) (h1 : x < 256) : ∀ j, 0 ≤ [x].getD j 0 ∧ [x].getD j 0 < 256 := by
  intro j
  cases j with
  | zero => exact ⟨h0, h1⟩
  | succ j => simp

theorem madeCells_one (z : Value) (n : Nat) : (madeCells #[z] n).toList = List.replicate n z := by
  apply List.ext_getElem?
  intro i
  by_cases h : i < n
  · simp [madeCells, h, Nat.mod_one]
  · simp [madeCells, h]

theorem bs_one (w : World) (x : Int) (t : TypeId) (h0 : 0 ≤ x) (h1 : x < 256) : Bs (w.alloc (.cells #[.int .u8 x] t)) (some ⟨w.heap.size, 0, none⟩) 1 [x] := by
  refine ⟨rfl, bytes_one h0 h1, Or.inr ⟨w.heap.size, 0, rfl, fun j hj => ?_⟩⟩
  obtain rfl : j = 0 := by omega
  have h := cell_one_new w (.int .u8 x) t 0 (.int .u8 x) rfl
  rw [WideShapes.add_plain] at h
  exact h

theorem Ob.alloc {w : World} {B : Nat} {e : TypeId} {v : Value} {zs : List Int} (h : Ob w B e v zs) (o : Obj) : Ob (w.alloc o) B e v zs := h.later ((Below.refl _ _).alloc (Nat.le_refl _) _)

/-- A byte of a row of the call's own, written. -/
theorem Ob.set {w : World} {B g n cap : Nat} {e : TypeId} {zs : List Int} (h : Ob w B e (.slice (some ⟨g, 0, none⟩) n cap) zs) (j : Nat) (hj : j < n) (x : Int) (h0 : 0 ≤ x) (h1 : x < 256) :
    Ob (w.setCell ⟨g, j, none⟩ (.int .u8 x)) B e (.slice (some ⟨g, 0, none⟩) n cap) (zs.set j x) := by
  obtain ⟨hb, hl, h2⟩ := h
  refine ⟨fun i => ?_, by simp, ?_⟩
  · rw [List.getD_eq_getElem?_getD, List.getElem?_set]
    by_cases hij : j = i
    · rw [if_pos hij]
      split
      · exact ⟨h0, h1⟩
      · simp
    · rw [if_neg hij, ← List.getD_eq_getElem?_getD]
      exact hb i
  · rcases h2 with ⟨h3, _⟩ | ⟨g', cap', cur, hv, hB, hg, hn, hm, hs, ht⟩
    · cases h3
    · right
      simp only [Value.slice.injEq, Option.some.injEq, Addr.mk.injEq, and_true] at hv
      obtain ⟨rfl, hnl, rfl⟩ := hv
      refine ⟨g, cap, cur.setIfInBounds j (.int .u8 x), by simp [hnl], hB, ?_, by simpa using hn, hm, by simpa using hs, ?_⟩
      · simp [World.setCell, Array.getElem?_modify, hg]
      · simp only [Nat.mul_one, List.length_set] at ht ⊢
        rw [Array.toList_setIfInBounds, List.take_set, ht, List.map_set]
/-- .. kept, while its own block is. -/
theorem Ob.moved {w w' : World} {B g n cap : Nat} {e : TypeId} {zs : List Int} (h : Ob w B e (.slice (some ⟨g, 0, none⟩) n cap) zs) (hg' : w'.heap[g]? = w.heap[g]?) : Ob w' B e (.slice (some ⟨g, 0, none⟩) n cap) zs := by
  obtain ⟨hb, hl, h2⟩ := h
  refine ⟨hb, hl, ?_⟩
  rcases h2 with ⟨h3, _⟩ | ⟨g', cap', cur, hv, hB, hg, r⟩
  · cases h3
  · have hv' := hv
    simp only [Value.slice.injEq, Option.some.injEq, Addr.mk.injEq, and_true] at hv'
    obtain ⟨rfl, _, rfl⟩ := hv'
    exact Or.inr ⟨g, cap, cur, hv, hB, hg'.trans hg, r⟩
theorem Ob.block_own {w : World} {B g n cap : Nat} {e : TypeId} {zs : List Int} (h : Ob w B e (.slice (some ⟨g, 0, none⟩) n cap) zs) : B ≤ g ∧ g < w.heap.size := h.2.lt g rfl
/-- .. and read. -/
theorem Ob.cell {w : World} {B g n cap : Nat} {e : TypeId} {zs : List Int} (h : Ob w B e (.slice (some ⟨g, 0, none⟩) n cap) zs) (j : Nat) (hj : j < n) : w.cell? ⟨g, j, none⟩ = some (.int .u8 (zs.getD j 0)) ∧ w.frozen? ⟨g, j, none⟩ = false := by
  obtain ⟨hb, hl, h2⟩ := h
  rcases h2 with ⟨h3, _⟩ | ⟨g', cap', cur, hv, hB, hg, hn, hm, hs, ht⟩
  · cases h3
  · have hv' := hv
    simp only [Value.slice.injEq, Option.some.injEq, Addr.mk.injEq, and_true] at hv'
    obtain ⟨rfl, hnl, rfl⟩ := hv'
    refine ⟨?_, by simp [World.frozen?, hg]⟩
    have ho : w.ownsRow B e 1 (.slice (some ⟨g, 0, none⟩) zs.length cap) zs.length (zs.map (Value.int .u8)) := ⟨hl, Or.inr ⟨g, cap, cur, rfl, hB, hg, hn, hm, hs, ht⟩⟩
    rw [ho.cellAt j (by omega)]
    have : j < zs.length := by omega
    simp [List.getD_eq_getElem?_getD, this]

/-- Bytes that a literal has just laid. -/
theorem ob_lit (w : World) (e : TypeId) (cs : Array Value) (xs : List Int) (n : Nat) (hn : xs.length = n) (hm : n ≤ maxLen) (hx : ∀ j, 0 ≤ xs.getD j 0 ∧ xs.getD j 0 < 256) (hcs : cs.toList = xs.map (Value.int .u8)) :
    Ob (w.alloc (.cells cs e)) w.heap.size e (.slice (some ⟨w.heap.size, 0, none⟩) n n) xs := by
  refine ⟨hx, ?_⟩
  have hs : cs.size = n * 1 := by rw [← Array.length_toList, hcs, List.length_map, hn, Nat.mul_one]
  have h := World.ownsRow_lit (base := w.heap.size) (e := e) (size := 1) w cs n (Nat.le_refl _) hm hs
  rw [hcs] at h
  rw [hn]
  exact h

theorem bs_lit (w : World) (e : TypeId) (cs : Array Value) (xs : List Int) (n : Nat) (hn : xs.length = n) (hm : n ≤ maxLen) (hx : ∀ j, 0 ≤ xs.getD j 0 ∧ xs.getD j 0 < 256) (hcs : cs.toList = xs.map (Value.int .u8)) :
    Bs (w.alloc (.cells cs e)) (some ⟨w.heap.size, 0, none⟩) n xs := by
  obtain ⟨p, cap, hv, _, _, h, _⟩ := (ob_lit w e cs xs n hn hm hx hcs).open
  simp only [Value.slice.injEq] at hv
  obtain ⟨rfl, _, _⟩ := hv
  rw [hn] at h
  exact h

theorem Ob.ptr {w : World} {B n cap : Nat} {p : Option Addr} {e : TypeId} {zs : List Int} (h : Ob w B e (.slice p n cap) zs) (hn : 0 < n) : ∃ g, p = some ⟨g, 0, none⟩ := by
  rcases h.2.2 with ⟨hv, h0⟩ | ⟨g, cap', cur, hv, _⟩
  · simp only [Value.slice.injEq] at hv; omega
  · simp only [Value.slice.injEq] at hv; exact ⟨g, hv.1⟩

variable {P : Program}

/-- 'make([]byte, l, c)'. -/
theorem wpList_make_bytes (w : World) {ops : Array Oper} {rest : List Oper} {o : Oper} {a : Act} {Q : Exit → Act → World → Prop}
    (hg : o.guard = none) (l c : Operand) (t e : TypeId) (hop : o.op = Op.makeSlice t l c) (h1 : P.underlying t = some (.slice e))
    (hinfo : (P.info? e).map (fun i => (i.zero, i.size, i.bytes)) = some (some (.int .u8 0), 1, 1))
    (kl kc : IntKind) (L C : Int) (m n : Nat) (hl : a.eval l = .int kl L) (hc : a.eval c = .int kc C) (hL : L = (m : Int)) (hC : C = (n : Int)) (hmn : m ≤ n) (hn : n ≤ 281474976710656)
    (hK : ∀ w', Ob w' w.heap.size e (.slice (some ⟨w.heap.size, 0, none⟩) m n) (List.replicate m 0) → w.grownBy w' none → wpList P ops Q rest (a.put o.dst (.slice (some ⟨w.heap.size, 0, none⟩) m n)) w') :
    wpList P ops Q (o :: rest) a w := by
  refine wpList_plain hg fun K hK' => ?_
  obtain ⟨i, hi, hzz⟩ := Option.map_eq_some_iff.1 hinfo
  simp only [Prod.mk.injEq] at hzz
  obtain ⟨hz, hs, hb⟩ := hzz
  have hrun := run_make (P := P) w t e i (.int .u8 0) h1 hi hz kl kc m n (by omega) (by omega) (by rw [hb]; omega) (by omega)
  simp only [Int.toNat_natCast, hs, Nat.mul_one] at hrun
  subst hL hC
  unfold Oper.wp
  simp [execOp, hop, hl, hc, hrun, Result.andThen]
  refine hK' _ _ (hK _ ⟨bytes_replicate m, by simp, Or.inr ⟨w.heap.size, n, _, by simp, Nat.le_refl _, heap_alloc_new w _, by simpa using hmn, by unfold maxLen; omega, ?_, ?_⟩⟩ (World.grownBy_alloc w _ none))
  · rw [size_madeCells]; omega
  · show (madeCells #[Value.int .u8 0] n).toList.take _ = _
    rw [madeCells_one]
    simp [Nat.min_eq_left hmn]

/-- 'append(s, x...)', s of the call's own, x any bytes. -/
theorem wpList_append_bytes {w : World} {ops : Array Oper} {rest : List Oper} {o : Oper} {a : Act} {Q : Exit → Act → World → Prop} (hgd : o.guard = none) (s x : Operand) (t e : TypeId)
    (ho : o.op = .call { callee := .builtin .append, args := #[s, x], argTypes := #[t, t] }) (ht : P.underlying t = some (.slice e))
    (hinfo : (P.info? e).map (fun i => (i.zero, i.size, i.bytes)) = some (some (.int .u8 0), 1, 1))
    (B : Nat) (v : Value) (zs : List Int) (hs : a.eval s = v) (hob : Ob w B e v zs) (p : Option Addr) (m c : Nat) (ys : List Int) (hx : a.eval x = .slice p m c) (hbs : Bs w p m ys) (hpc : p = none → c = 0)
    (hbytes : zs.length + m ≤ 140737488355328) (hB : B ≤ w.heap.size)
    (h : ∀ v' w', Ob w' B e v' (zs ++ ys) → w.grownBy w' v.ownBlock → wpList P ops Q rest (a.put o.dst v') w') : wpList P ops Q (o :: rest) a w := by
  obtain ⟨i, hi, hzz⟩ := Option.map_eq_some_iff.1 hinfo
  simp only [Prod.mk.injEq] at hzz
  obtain ⟨hz, hsz, hb⟩ := hzz
  obtain ⟨hy1, hy2, hy3⟩ := hbs
  cases p with
  | none =>
    obtain rfl := hpc rfl
    have hm : m = 0 := by
      rcases hy3 with h0 | ⟨_, _, hh, _⟩
      · exact h0
      · cases hh
    subst hm
    obtain rfl : ys = [] := List.length_eq_zero_iff.1 hy1
    refine wpList_append_own_none hgd s x t ho B e i 1 ht hi v _ _ hs hob.2 hx (h _ _ (by rw [List.append_nil]; exact hob) ?_)
    exact ⟨rfl, rfl, rfl, Nat.le_refl _, fun _ _ _ => rfl⟩
  | some ad =>
    refine wpList_append_own _ hgd s x t ho B e i (.int .u8 0) 1 1 ht hi hz hsz hb rfl (by decide) v _ _ hs hob.2 ad m c (ys.map (Value.int .u8)) hx (by simpa using hy1) ?_ ?_ (by unfold maxLen; omega) (by omega) hB ?_
    · intro j u hu
      have hj : j < m := by
        rcases Nat.lt_or_ge j m with h | h
        · exact h
        · rw [List.getElem?_eq_none (by simpa [hy1] using h)] at hu; cases hu
      rcases hy3 with h0 | ⟨b, off, hp, hc⟩
      · omega
      · obtain rfl : ad = ⟨b, off, none⟩ := by simpa using hp
        rw [WideShapes.add_plain, hc j hj]
        rw [List.getElem?_map] at hu
        rw [List.getD_eq_getElem?_getD]
        rw [List.getElem?_eq_getElem (by omega)] at hu ⊢
        simpa using hu
    · intro u hu
      obtain ⟨z, _, rfl⟩ := List.mem_map.1 hu
      rfl
    · intro v' w' h1 h2 _
      refine h v' w' ⟨bytes_append hob.1 hy2, ?_⟩ h2
      simpa [hy1] using h1

/-- The numbers of a string's bytes. -/
def numsOf (s : ByteArray) : List Int := s.data.toList.map fun c => (c.toNat : Int)
theorem numsOf_length (s : ByteArray) : (numsOf s).length = s.size := by simp [numsOf]
theorem numsOf_byte (s : ByteArray) : ∀ j, 0 ≤ (numsOf s).getD j 0 ∧ (numsOf s).getD j 0 < 256 := by
  intro j
  simp only [numsOf, List.getD_eq_getElem?_getD, List.getElem?_map]
  cases s.data.toList[j]? with
  | none => simp
  | some c => have := c.toNat_lt; simp; omega
theorem strOfNums_numsOf (s : ByteArray) : strOfNums (numsOf s) = s := by
  apply ByteArray.ext
  apply Array.toList_inj.1
  rw [strOfNums_data, numsOf, List.map_map]
  conv => rhs; rw [← List.map_id s.data.toList]
  apply List.map_congr_left
  intro x _
  simp

/-- 'append(s, x...)', s of the call's own, x a string. -/
theorem wpList_append_text {w : World} {ops : Array Oper} {rest : List Oper} {o : Oper} {a : Act} {Q : Exit → Act → World → Prop} (hgd : o.guard = none) (sl x : Operand) (t u e : TypeId)
    (ho : o.op = .call { callee := .builtin .append, args := #[sl, x], argTypes := #[t, u] }) (ht : P.underlying t = some (.slice e)) (hu : P.underlying u = some .string)
    (hinfo : (P.info? e).map (fun i => (i.zero, i.size, i.bytes)) = some (some (.int .u8 0), 1, 1))
    (B : Nat) (v : Value) (zs : List Int) (hs : a.eval sl = v) (hob : Ob w B e v zs) (s : ByteArray) (hx : a.eval x = .string s)
    (hbytes : zs.length + s.size ≤ 140737488355328) (hB : B ≤ w.heap.size)
    (h : ∀ v' w', Ob w' B e v' (zs ++ numsOf s) → w.grownBy w' v.ownBlock → wpList P ops Q rest (a.put o.dst v') w') : wpList P ops Q (o :: rest) a w := by
  obtain ⟨i, hi, hzz⟩ := Option.map_eq_some_iff.1 hinfo
  simp only [Prod.mk.injEq] at hzz
  obtain ⟨hz, hsz, hb⟩ := hzz
  refine wpList_append_own_string _ hgd sl x t u ho B e i ht hu hi hz hsz hb v _ _ hs hob.2 s hx (by unfold maxLen; omega) hbytes hB ?_
  intro v' w' h1 h2 _
  refine h v' w' ⟨bytes_append hob.1 (numsOf_byte s), ?_⟩ h2
  have e1 : strCells s = (numsOf s).map (Value.int .u8) := by simp [strCells, numsOf, Function.comp_def]
  rw [e1] at h1
  rw [List.length_append, numsOf_length, List.map_append]
  exact h1

/-- 'copy(d, s)', d a row of the call's own as long as s. -/
theorem wpList_copy_bytes {w : World} {ops : Array Oper} {rest : List Oper} {o : Oper} {a : Act} {Q : Exit → Act → World → Prop} (hgd : o.guard = none) (d s : Operand) (dT sT e : TypeId)
    (ho : o.op = .call { callee := .builtin .copy, args := #[d, s], argTypes := #[dT, sT] }) (hu : P.underlying dT = some (.slice e)) (hsz : (P.info? e).map (·.size) = some 1)
    (B g n cap sCap : Nat) (sp : Option Addr) (zs ys : List Int) (hd : a.eval d = .slice (some ⟨g, 0, none⟩) n cap) (hob : Ob w B e (.slice (some ⟨g, 0, none⟩) n cap) ys) (hs : a.eval s = .slice sp n sCap) (hbs : Bs w sp n zs)
    (h : ∀ w', Ob w' B e (.slice (some ⟨g, 0, none⟩) n cap) zs → w.grownBy w' (some g) → wpList P ops Q rest (a.put o.dst (goInt n)) w') : wpList P ops Q (o :: rest) a w := by
  obtain ⟨hb0, hl, h2⟩ := hob
  obtain ⟨hz1, hz2, hz3⟩ := hbs
  rcases h2 with ⟨h0, _⟩ | ⟨g', cap', cur, hv, hB, hg, hn, hm, hcs, ht⟩
  · cases h0
  · simp only [Value.slice.injEq, Option.some.injEq, Addr.mk.injEq, and_true] at hv
    obtain ⟨rfl, hyl, rfl⟩ := hv
    by_cases h0 : n = 0
    · subst h0
      obtain rfl : zs = [] := List.length_eq_zero_iff.1 hz1
      refine wpList_copy_nothing hgd d s dT sT ho e hu hsz _ _ _ _ _ _ hd hs (by simp) (h _ ⟨hz2, by simp, Or.inr ⟨g, cap, cur, by simp, hB, hg, by simp, hm, hcs, by simp⟩⟩ ?_)
      exact ⟨rfl, rfl, rfl, Nat.le_refl _, fun _ _ _ => rfl⟩
    · rcases hz3 with h0' | ⟨b, off, rfl, hc⟩
      · exact absurd h0' h0
      · have hcl : (zs.map (Value.int .u8)).length = n := by simpa using hz1
        refine wpList_copy_own hgd d s dT sT ho e hu hsz g 0 n cap ⟨b, off, none⟩ n sCap hd hs cur e hg (zs.map (Value.int .u8)) (by rw [hcl]; exact (Nat.min_self n).symm) ?_ (by rw [hcl]; omega) ?_ ?_
        · intro j u hj
          have hjn : j < n := by
            rcases Nat.lt_or_ge j n with h | h
            · exact h
            · rw [List.getElem?_eq_none (by omega)] at hj; cases hj
          rw [WideShapes.add_plain, hc j hjn]
          rw [List.getElem?_map] at hj
          rw [List.getD_eq_getElem?_getD]
          rw [List.getElem?_eq_getElem (by omega)] at hj ⊢
          simpa using hj
        · intro u hu'
          obtain ⟨z, _, rfl⟩ := List.mem_map.1 hu'
          rfl
        · rw [hcl]
          have hbl := setRow_heap w g cur (cur.toList.take 0 ++ (zs.map (Value.int .u8) ++ cur.toList.drop (0 + n))).toArray e (0, 0) hg
          refine h _ ⟨hz2, by simp, Or.inr ⟨g, cap, _, by rw [hz1], hB, hbl, by omega, hm, ?_, ?_⟩⟩ ?_
          · simp [hz1]; omega
          · simp [hz1]
          · exact ⟨rfl, rfl, rfl, by simp, fun k _ hk => setRow_other w g k _ (fun e => hk (by rw [e]))⟩
end Go.Proofs.Ytieednadbcghjaa

namespace Go.Proofs.Ytieednadbcghjaa
set_option linter.unusedVariables false

/-- ahead of -/
def dlt : List Int → List Int → Bool
  | x :: xs, y :: ys => if x = y then dlt xs ys else decide (x < y)
  | _, _ => false
theorem dlt_self (a : List Int) : dlt a a = false := by
  induction a with
  | nil => rfl
  | cons x xs ih => simp [dlt, ih]
theorem dlt_at {a b : List Int} {k : Nat} (h : a.take k = b.take k) (ha : k < a.length) (hb : k < b.length) (hne : a.getD k 0 ≠ b.getD k 0) : dlt a b = decide (a.getD k 0 < b.getD k 0) := by
  induction k generalizing a b with
  | zero =>
    cases a with
    | nil => simp at ha
    | cons x xs => cases b with
      | nil => simp at hb
      | cons y ys =>
        simp only [List.getD_cons_zero] at hne ⊢
        simp [dlt, hne]
  | succ k ih =>
    cases a with
    | nil => simp at ha
    | cons x xs => cases b with
      | nil => simp at hb
      | cons y ys =>
        simp only [List.take_succ_cons, List.cons.injEq] at h
        simp only [List.getD_cons_succ] at hne ⊢
        rw [dlt, if_pos h.1]
        exact ih h.2 (by simpa using ha) (by simpa using hb) hne
theorem dlt_trans {a b c : List Int} (h1 : dlt a b = true) (h2 : dlt b c = true) : dlt a c = true := by
  induction a generalizing b c with
  | nil => simp [dlt] at h1
  | cons x xs ih => cases b with
    | nil => simp [dlt] at h1
    | cons y ys => cases c with
      | nil => simp [dlt] at h2
      | cons z zs =>
        simp only [dlt] at h1 h2 ⊢
        split at h1 <;> split at h2 <;> split <;> simp_all
        · exact ih h1 h2
        · omega
        · omega
theorem dlt_asymm {a b : List Int} (h : dlt a b = true) : dlt b a = false := by
  cases e : dlt b a
  · rfl
  · have := dlt_trans h e
    rw [dlt_self] at this
    cases this
theorem dlt_total {a b : List Int} (hl : a.length = b.length) (h1 : dlt a b = false) (h2 : dlt b a = false) : a = b := by
  induction a generalizing b with
  | nil => cases b with
    | nil => rfl
    | cons => simp at hl
  | cons x xs ih => cases b with
    | nil => simp at hl
    | cons y ys =>
      simp only [dlt] at h1 h2
      by_cases e : x = y
      · subst e
        simp only [if_true] at h1 h2
        rw [ih (by simpa using hl) h1 h2]
      · rw [if_neg e] at h1
        rw [if_neg (fun h => e h.symm)] at h2
        simp at h1 h2
        omega

/-- each ahead of all behind it -/
def drises : List (List Int) → Prop
  | [] => True
  | d :: L => (∀ x ∈ L, dlt d x = true) ∧ drises L
/-- put in its place, once -/
def dput (L : List (List Int)) (d : List Int) : List (List Int) :=
  match L with
  | [] => [d]
  | x :: xs => if dlt x d = true then x :: dput xs d else if x = d then x :: xs else d :: x :: xs
def drow (l : List (List Int)) : List (List Int) := l.foldl dput []
theorem dput_mem (L : List (List Int)) (d x : List Int) : x ∈ dput L d ↔ x ∈ L ∨ x = d := by
  induction L with
  | nil => simp [dput]
  | cons y ys ih =>
    rw [dput]
    split
    · simp only [List.mem_cons, ih, or_assoc]
    · split
      · rename_i h; subst h
        simp only [List.mem_cons]
        exact ⟨fun h => Or.inl h, fun h => h.elim id Or.inl⟩
      · simp only [List.mem_cons]
        exact ⟨fun h => by rcases h with h | h | h <;> simp [h], fun h => by rcases h with (h | h) | h <;> simp [h]⟩
theorem dput_rises {n : Nat} {L : List (List Int)} {d : List Int} (hL : ∀ x ∈ L, x.length = n) (hd : d.length = n) (h : drises L) : drises (dput L d) := by
  induction L with
  | nil => simp [dput, drises]
  | cons y ys ih =>
    obtain ⟨h1, h2⟩ := h
    rw [dput]
    split
    · rename_i hyd
      refine ⟨fun x hx => ?_, ih (fun x hx => hL x (by simp [hx])) h2⟩
      rcases (dput_mem _ _ _).1 hx with hx | rfl
      · exact h1 x hx
      · exact hyd
    · rename_i hyd
      split
      · exact ⟨h1, h2⟩
      · rename_i hne
        have hdy : dlt d y = true := by
          cases e : dlt d y
          · exact absurd (dlt_total ((hL y (by simp)).trans hd.symm) (by simpa using hyd) e) hne
          · rfl
        refine ⟨fun x hx => ?_, h1, h2⟩
        rcases List.mem_cons.1 hx with rfl | hx
        · exact hdy
        · exact dlt_trans hdy (h1 x hx)
theorem dput_length_le (L : List (List Int)) (d : List Int) : (dput L d).length ≤ L.length + 1 := by
  induction L with
  | nil => simp [dput]
  | cons y ys ih =>
    rw [dput]
    split
    · simp; omega
    · split <;> simp
/-- rising rows of the same digests are the same -/
theorem drises_ext {A B : List (List Int)} (hA : drises A) (hB : drises B) (h : ∀ x, x ∈ A ↔ x ∈ B) : A = B := by
  induction A generalizing B with
  | nil => cases B with
    | nil => rfl
    | cons b B => exact absurd ((h b).2 (by simp)) (by simp)
  | cons a A ih => cases B with
    | nil => exact absurd ((h a).1 (by simp)) (by simp)
    | cons b B =>
      have hab : a = b := by
        rcases List.mem_cons.1 ((h a).1 (by simp)) with e | e
        · exact e
        · rcases List.mem_cons.1 ((h b).2 (by simp)) with e' | e'
          · exact e'.symm
          · have h1 := hA.1 b e'
            have h2 := hB.1 a e
            rw [dlt_asymm h1] at h2
            cases h2
      subst hab
      congr 1
      refine ih hA.2 hB.2 fun x => ?_
      constructor
      · intro hx
        rcases List.mem_cons.1 ((h x).1 (by simp [hx])) with e | e
        · subst e; have := hA.1 x hx; rw [dlt_self] at this; cases this
        · exact e
      · intro hx
        rcases List.mem_cons.1 ((h x).2 (by simp [hx])) with e | e
        · subst e; have := hB.1 x hx; rw [dlt_self] at this; cases this
        · exact e
theorem drow_snoc (l : List (List Int)) (d : List Int) : drow (l ++ [d]) = dput (drow l) d := by simp [drow, List.foldl_append]
theorem drow_take {l : List (List Int)} {k : Nat} (h : k < l.length) : drow (l.take (k + 1)) = dput (drow (l.take k)) (l.getD k []) := by
  rw [List.take_succ_eq_append_getElem h, drow_snoc]
  congr 1
  simp [List.getD_eq_getElem?_getD, h]
theorem foldl_dput_mem (l L : List (List Int)) (x : List Int) : x ∈ l.foldl dput L ↔ x ∈ L ∨ x ∈ l := by
  induction l generalizing L with
  | nil => simp
  | cons d l ih =>
    rw [List.foldl_cons, ih, dput_mem]
    simp only [List.mem_cons, or_assoc]
theorem drow_mem (l : List (List Int)) (x : List Int) : x ∈ drow l ↔ x ∈ l := by
  unfold drow; rw [foldl_dput_mem]; simp
theorem foldl_dput_rises {n : Nat} {l L : List (List Int)} (hl : ∀ x ∈ l, x.length = n) (hL : ∀ x ∈ L, x.length = n) (h : drises L) : drises (l.foldl dput L) := by
  induction l generalizing L with
  | nil => exact h
  | cons d l ih =>
    rw [List.foldl_cons]
    refine ih (fun x hx => hl x (by simp [hx])) (fun x hx => ?_) (dput_rises hL (hl d (by simp)) h)
    rcases (dput_mem _ _ _).1 hx with hx | rfl
    · exact hL x hx
    · exact hl x (by simp)
theorem drow_rises {n : Nat} {l : List (List Int)} (h : ∀ x ∈ l, x.length = n) : drises (drow l) := foldl_dput_rises h (by simp) trivial
theorem foldl_dput_length (l L : List (List Int)) : (l.foldl dput L).length ≤ L.length + l.length := by
  induction l generalizing L with
  | nil => simp
  | cons d l ih =>
    rw [List.foldl_cons]
    have h1 := ih (dput L d)
    have h2 := dput_length_le L d
    simp only [List.length_cons]
    omega
theorem drow_length (l : List (List Int)) : (drow l).length ≤ l.length := by have := foldl_dput_length l []; simpa [drow] using this
/-- what another's row is: rising, and of the same digests -/
theorem drow_is {n : Nat} {l R : List (List Int)} (hl : ∀ x ∈ l, x.length = n) (hR : drises R) (h : ∀ x, x ∈ R ↔ x ∈ l) : R = drow l :=
  drises_ext hR (drow_rises hl) fun x => by rw [h, drow_mem]
end Go.Proofs.Ytieednadbcghjaa

namespace Go.Proofs.Ytieednadbcghjaa
set_option linter.unusedVariables false
open Go.RowKit Go.Lib

theorem bytes_loop (s : ByteArray) : ∀ (n i : Nat) (r : List UInt8), s.size - i = n → ByteArray.toList.loop s i r = r.reverse ++ s.data.toList.drop i := by
  intro n
  induction n with
  | zero =>
    intro i r h
    unfold ByteArray.toList.loop
    have hs : s.data.toList.length = s.size := by simp
    rw [if_neg (by omega), List.drop_of_length_le (by omega), List.append_nil]
  | succ n ih =>
    intro i r h
    unfold ByteArray.toList.loop
    have hs : s.data.toList.length = s.size := by simp
    have hi : i < s.data.toList.length := by omega
    rw [if_pos (by omega), ih (i + 1) _ (by omega), List.reverse_cons, List.append_assoc, List.drop_eq_getElem_cons hi]
    congr 1
    have : s.get! i = s.data.toList[i] := by
      simp only [ByteArray.get!, Array.getElem_toList]
      exact getElem!_pos s.data i (by simpa using hi)
    rw [this]; rfl
theorem bytes_toList (s : ByteArray) : s.toList = s.data.toList := by
  unfold ByteArray.toList
  rw [bytes_loop s _ 0 [] rfl]
  simp
theorem numsOf_toList (s : ByteArray) : numsOf s = s.toList.map fun c => (c.toNat : Int) := by rw [bytes_toList]; rfl
theorem numsOf_inj {s t : ByteArray} (h : numsOf s = numsOf t) : s = t := by rw [← strOfNums_numsOf s, h, strOfNums_numsOf]
theorem numsOf_strOfNums {zs : List Int} (h : ∀ j, 0 ≤ zs.getD j 0 ∧ zs.getD j 0 < 256) : numsOf (strOfNums zs) = zs := by
  rw [numsOf, strOfNums_data, List.map_map]
  conv => rhs; rw [← List.map_id zs]
  apply List.map_congr_left
  intro x hx
  obtain ⟨j, hj, rfl⟩ := List.getElem_of_mem hx
  have h1 := h j
  rw [List.getD_eq_getElem?_getD, List.getElem?_eq_getElem hj] at h1
  simp only [Option.getD_some] at h1
  simp only [Function.comp, id]
  rw [UInt8.toNat_ofNat']
  omega
theorem numsOf_extract (s : ByteArray) (a b : Nat) : numsOf (s.extract a b) = ((numsOf s).take b).drop a := by
  unfold numsOf
  rw [ByteArray.data_extract, Array.toList_extract]
  simp only [List.extract_eq_take_drop, List.map_take, List.map_drop]
  rw [List.drop_take]
theorem numsOf_append (s t : ByteArray) : numsOf (s ++ t) = numsOf s ++ numsOf t := by
  unfold numsOf
  rw [ByteArray.data_append, Array.toList_append, List.map_append]
theorem nats_inj {l m : List UInt8} (h : (l.map fun c => (c.toNat : Int)) = m.map fun c => (c.toNat : Int)) : l = m := by
  induction l generalizing m with
  | nil => cases m with
    | nil => rfl
    | cons => simp at h
  | cons a l ih => cases m with
    | nil => simp at h
    | cons b m =>
      simp only [List.map_cons, List.cons.injEq] at h
      rw [ih h.2]
      congr 1
      apply UInt8.toNat_inj.1
      have := h.1
      omega
/-- a text's comparison, as the walk spells it -/
theorem text_test (s : ByteArray) (l : List UInt8) (zs : List Int) (hz : (l.map fun c => (c.toNat : Int)) = zs) : (s.toList == l) = decide (numsOf s = zs) := by
  rw [Bool.eq_iff_iff, beq_iff_eq, decide_eq_true_iff, numsOf_toList, ← hz]
  exact ⟨fun h => by rw [h], nats_inj⟩
end Go.Proofs.Ytieednadbcghjaa

namespace Go.Proofs.Ytieednadbcghjaa
set_option linter.unusedVariables false

/-! ### the order of names, as a walk spells it -/
theorem ba_ext {a b : ByteArray} (h : a.toList = b.toList) : a = b := by
  rw [bytes_toList, bytes_toList] at h
  exact ByteArray.ext (Array.toList_inj.1 h)
theorem sq_iff {a b : ByteArray} : (a.toList == b.toList) = true ↔ a = b := by
  rw [beq_iff_eq]
  exact ⟨ba_ext, fun h => by rw [h]⟩
theorem sq_true {a b : ByteArray} (h : a = b) : (a.toList == b.toList) = true := sq_iff.2 h
theorem sq_false {a b : ByteArray} (h : a ≠ b) : (a.toList == b.toList) = false := by
  cases e : (a.toList == b.toList)
  · rfl
  · exact absurd (sq_iff.1 e) h
theorem less_iff : ∀ (x y : List UInt8), Op.bytesLess x y = true ↔ x < y
  | [], [] => by simp [Op.bytesLess]
  | _ :: _, [] => by simp [Op.bytesLess]
  | [], _ :: _ => by simp [Op.bytesLess]
  | a :: x, b :: y => by
    rw [Op.bytesLess, List.cons_lt_cons_iff, Bool.or_eq_true, Bool.and_eq_true, beq_iff_eq, less_iff x y, decide_eq_true_iff]
/-- a name before another one -/
def slt (a b : ByteArray) : Prop := a.toList < b.toList
theorem slt_irrefl (a : ByteArray) : ¬ slt a a := List.lt_irrefl _
theorem slt_trans {a b c : ByteArray} (h1 : slt a b) (h2 : slt b c) : slt a c := List.lt_trans h1 h2
theorem slt_asymm {a b : ByteArray} (h1 : slt a b) (h2 : slt b a) : False := slt_irrefl _ (slt_trans h1 h2)
theorem slt_ne {a b : ByteArray} (h1 : slt a b) : a ≠ b := fun e => by subst e; exact slt_irrefl _ h1
theorem slt_total {a b : ByteArray} (h1 : ¬ slt a b) (h2 : a ≠ b) : slt b a := by
  have h3 : b.toList ≤ a.toList := List.not_lt.1 h1
  apply Classical.byContradiction
  intro h4
  have h5 : a.toList ≤ b.toList := List.not_lt.1 h4
  exact h2 (ba_ext (List.le_antisymm h5 h3))
/-- 'a > b' -/
def sgt (a b : ByteArray) : Bool := !(Op.bytesLess a.toList b.toList || a.toList == b.toList)
theorem sgt_iff {a b : ByteArray} : sgt a b = true ↔ slt b a := by
  unfold sgt
  rw [Bool.not_eq_true', Bool.or_eq_false_iff]
  constructor
  · rintro ⟨h1, h2⟩
    refine slt_total (fun h => ?_) (fun h => ?_)
    · rw [(less_iff _ _).2 h] at h1; cases h1
    · rw [sq_true h] at h2; cases h2
  · intro h
    refine ⟨?_, sq_false fun e => slt_ne h e.symm⟩
    cases e : Op.bytesLess a.toList b.toList
    · rfl
    · exact absurd ((less_iff _ _).1 e) fun h' => slt_asymm h h'
end Go.Proofs.Ytieednadbcghjaa

namespace Go.Proofs.Ytieednadbcghjaa
set_option linter.unusedVariables false
open Go.RowKit Go.Lib

theorem wpList_build_is {P : Program} {ops : Array Oper} {rest : List Oper} {o : Oper} {a : Act} {w : World} {Q : Exit → Act → World → Prop} (hg : o.guard = none) (t : TypeId) (parts : Array (Nat × Operand)) (ho : o.op = .build t parts) (cells : Array Value)
    (hf : P.built t (parts.map fun (i, x) => (i, a.eval x)).toList = some cells)
    (h : wpList P ops Q rest (a.put o.dst (.agg cells)) w) : wpList P ops Q (o :: rest) a w :=
  wpList_build hg t parts ho (by rw [hf]; rfl) (by rw [hf]; exact h)
end Go.Proofs.Ytieednadbcghjaa
