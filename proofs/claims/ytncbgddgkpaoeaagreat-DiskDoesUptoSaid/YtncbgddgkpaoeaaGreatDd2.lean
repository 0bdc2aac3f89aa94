/- Byte slices that a call makes: make, copy, append; Strings as lists of numbers; Layer 11: a folder's names on plain lists; Unsynced changes on plain lists of bytes; A string's bytes by place -/
import Derived.Test.YtncbgddgkpaoeaaGreatDd1
import Derived.Laws.CopyOwn
import Derived.Laws.AppendOwnNone
import Derived.Laws.MakeOwn
import Derived.Lib.AppendStr
import Derived.Maps.AppendAt
set_option linter.unusedSimpArgs false
set_option linter.unusedVariables false
namespace Go.Proofs.YtncbgddgkpaoeaaGreat
set_option linter.unusedVariables false
open Go.RowKit Go.Lib

/-- A row of the call's own from block B on, whose first cells are these bytes. -/
def Ob (w : World) (B : Nat) (e : TypeId) (v : Value) (zs : List Int) : Prop :=
  (∀ j, 0 ≤ zs.getD j 0 ∧ zs.getD j 0 < 256) ∧ w.ownsRow B e 1 v zs.length (zs.map (Value.int .u8))

theorem Ob.open {w : World} {B : Nat} {e : TypeId} {v : Value} {zs : List Int} (h : Ob w B e v zs) :
    ∃ p cap, v = .slice p zs.length cap ∧ zs.length ≤ cap ∧ cap ≤ maxLen ∧ Bs w p zs.length zs ∧ (p = none → cap = 0) := by
  obtain ⟨h1, hl, h2⟩ := h
  rcases h2 with ⟨rfl, h0⟩ | ⟨g, cap, cur, rfl, hB, hg, hn, hm, hs, ht⟩
  · refine ⟨none, 0, by rw [h0], by omega, by simp, ⟨rfl, h1, Or.inl h0⟩, fun _ => rfl⟩
  · refine ⟨_, cap, rfl, hn, hm, ⟨rfl, h1, Or.inr ⟨g, 0, rfl, fun j hj => ?_⟩⟩, by simp⟩
    have ho : w.ownsRow B e 1 (.slice (some ⟨g, 0, none⟩) zs.length cap) zs.length (zs.map (Value.int .u8)) := ⟨hl, Or.inr ⟨g, cap, cur, rfl, hB, hg, hn, hm, hs, ht⟩⟩
    rw [Nat.zero_add, ho.cellAt j (by omega)]
    simp [List.getD_eq_getElem?_getD, hj]

theorem Ob.nil (w : World) (B : Nat) (e : TypeId) : Ob w B e (.slice none 0 0) [] := ⟨fun j => by simp, World.ownsRow_nil w B e 1⟩

theorem Ob.mono {w : World} {B B' : Nat} {e : TypeId} {v : Value} {zs : List Int} (h : Ob w B e v zs) (hB : B' ≤ B) : Ob w B' e v zs := by
  obtain ⟨h1, hl, h2⟩ := h
  refine ⟨h1, hl, ?_⟩
  rcases h2 with h2 | ⟨g, cap, cur, hv, hb, r⟩
  · exact Or.inl h2
  · exact Or.inr ⟨g, cap, cur, hv, by omega, r⟩

theorem Ob.later {w w' : World} {B : Nat} {e : TypeId} {v : Value} {zs : List Int} (h : Ob w B e v zs) (hb : Below w.heap.size w w') : Ob w' B e v zs := by
  obtain ⟨h1, hl, h2⟩ := h
  refine ⟨h1, hl, ?_⟩
  rcases h2 with h2 | ⟨g, cap, cur, hv, hB, hg, r⟩
  · exact Or.inl h2
  · have hlt : g < w.heap.size := by
      rcases Nat.lt_or_ge g w.heap.size with h | h
      · exact h
      · rw [Array.getElem?_eq_none h] at hg; cases hg
    exact Or.inr ⟨g, cap, cur, hv, hB, by rw [hb.block g hlt]; exact hg, r⟩

theorem below_step {w W w1 : World} (h0 : Below w.heap.size w W) (h1 : Below W.heap.size W w1) : Below w.heap.size w w1 := h0.trans (h1.mono h0.size)
theorem below_none {w w' : World} (h : w.grownBy w' none) : Below w.heap.size w w' := (Below.refl _ _).grown h (Nat.le_refl _) (by simp)
theorem below_new {B : Nat} {a w w' : World} {v : Value} {e : TypeId} {zs : List Int} (hb : Below B a w) (ho : Ob w B e v zs) (h : w.grownBy w' v.ownBlock) (hB : B ≤ w.heap.size) : Below B a w' :=
  hb.grown h hB (fun k hk => (ho.2.lt k hk).1)

theorem bytes_append {xs ys : List Int} (hx : ∀ j, 0 ≤ xs.getD j 0 ∧ xs.getD j 0 < 256) (hy : ∀ j, 0 ≤ ys.getD j 0 ∧ ys.getD j 0 < 256) : ∀ j, 0 ≤ (xs ++ ys).getD j 0 ∧ (xs ++ ys).getD j 0 < 256 := by
  intro j
  simp only [List.getD_eq_getElem?_getD] at *
  rw [List.getElem?_append]
  split
  · exact hx j
  · exact hy _

theorem bytes_replicate (n : Nat) : ∀ j, 0 ≤ (List.replicate n (0 : Int)).getD j 0 ∧ (List.replicate n (0 : Int)).getD j 0 < 256 := by
  intro j
  simp only [List.getD_eq_getElem?_getD, List.getElem?_replicate]
  split <;> simp

theorem bytes_one {x : Int} (h0 : 0 ≤ x) (h1 : x < 256) : ∀ j, 0 ≤ [x].getD j 0 ∧ [x].getD j 0 < 256 := by
  intro j
  cases j with
  | zero => exact ⟨h0, h1⟩
  | succ j => simp

theorem madeCells_one (z : Value) (n : Nat) : (madeCells #[z] n).toList = List.replicate n z := by
  apply List.ext_getElem?
  intro i
  by_cases h : i < n
  · simp [madeCells, h, Nat.mod_one]
  · simp [madeCells, h]

theorem bs_one (w : World) (x : Int) (t : TypeId) (h0 : 0 ≤ x) (h1 : x < 256) : Bs (w.alloc (.cells #[.int .u8 x] t)) (some ⟨w.heap.size, 0, none⟩) 1 [x] := by
  refine ⟨rfl, bytes_one h0 h1, Or.inr ⟨w.heap.size, 0, rfl, fun j hj => ?_⟩⟩
  obtain rfl : j = 0 := by omega
  have h := cell_one_new w (.int .u8 x) t 0 (.int .u8 x) rfl
  rw [WideShapes.add_plain] at h
  exact h

theorem Ob.alloc {w : World} {B : Nat} {e : TypeId} {v : Value} {zs : List Int} (h : Ob w B e v zs) (o : Obj) : Ob (w.alloc o) B e v zs := h.later ((Below.refl _ _).alloc (Nat.le_refl _) _)

/-- A byte of a row of the call's own, written. -/
theorem Ob.set {w : World} {B g n cap : Nat} {e : TypeId} {zs : List Int} (h : Ob w B e (.slice (some ⟨g, 0, none⟩) n cap) zs) (j : Nat) (hj : j < n) (x : Int) (h0 : 0 ≤ x) (h1 : x < 256) :
    Ob (w.setCell ⟨g, j, none⟩ (.int .u8 x)) B e (.slice (some ⟨g, 0, none⟩) n cap) (zs.set j x) := by
  obtain ⟨hb, hl, h2⟩ := h
  refine ⟨fun i => ?_, by simp, ?_⟩
  · rw [List.getD_eq_getElem?_getD, List.getElem?_set]
    by_cases hij : j = i
    · rw [if_pos hij]
      split
      · exact ⟨h0, h1⟩
      · simp
    · rw [if_neg hij, ← List.getD_eq_getElem?_getD]
      exact hb i
  · rcases h2 with ⟨h3, _⟩ | ⟨g', cap', cur, hv, hB, hg, hn, hm, hs, ht⟩
    · cases h3
    · right
      simp only [Value.slice.injEq, Option.some.injEq, Addr.mk.injEq, and_true] at hv
      obtain ⟨rfl, hnl, rfl⟩ := hv
      refine ⟨g, cap, cur.setIfInBounds j (.int .u8 x), by simp [hnl], hB, ?_, by simpa using hn, hm, by simpa using hs, ?_⟩
      · simp [World.setCell, Array.getElem?_modify, hg]
      · simp only [Nat.mul_one, List.length_set] at ht ⊢
        rw [Array.toList_setIfInBounds, List.take_set, ht, List.map_set]
/-- .. kept, while its own block is. -/
theorem Ob.moved {w w' : World} {B g n cap : Nat} {e : TypeId} {zs : List Int} (h : Ob w B e (.slice (some ⟨g, 0, none⟩) n cap) zs) (hg' : w'.heap[g]? = w.heap[g]?) : Ob w' B e (.slice (some ⟨g, 0, none⟩) n cap) zs := by
  obtain ⟨hb, hl, h2⟩ := h
  refine ⟨hb, hl, ?_⟩
  rcases h2 with ⟨h3, _⟩ | ⟨g', cap', cur, hv, hB, hg, r⟩
  · cases h3
  · have hv' := hv
    simp only [Value.slice.injEq, Option.some.injEq, Addr.mk.injEq, and_true] at hv'
    obtain ⟨rfl, _, rfl⟩ := hv'
    exact Or.inr ⟨g, cap, cur, hv, hB, hg'.trans hg, r⟩
theorem Ob.block_own {w : World} {B g n cap : Nat} {e : TypeId} {zs : List Int} (h : Ob w B e (.slice (some ⟨g, 0, none⟩) n cap) zs) : B ≤ g ∧ g < w.heap.size := h.2.lt g rfl
/-- .. and read. -/
theorem Ob.cell {w : World} {B g n cap : Nat} {e : TypeId} {zs : List Int} (h : Ob w B e (.slice (some ⟨g, 0, none⟩) n cap) zs) (j : Nat) (hj : j < n) : w.cell? ⟨g, j, none⟩ = some (.int .u8 (zs.getD j 0)) ∧ w.frozen? ⟨g, j, none⟩ = false := by
  obtain ⟨hb, hl, h2⟩ := h
  rcases h2 with ⟨h3, _⟩ | ⟨g', cap', cur, hv, hB, hg, hn, hm, hs, ht⟩
  · cases h3
  · have hv' := hv
    simp only [Value.slice.injEq, Option.some.injEq, Addr.mk.injEq, and_true] at hv'
    obtain ⟨rfl, hnl, rfl⟩ := hv'
    refine ⟨?_, by simp [World.frozen?, hg]⟩
    have ho : w.ownsRow B e 1 (.slice (some ⟨g, 0, none⟩) zs.length cap) zs.length (zs.map (Value.int .u8)) := ⟨hl, Or.inr ⟨g, cap, cur, rfl, hB, hg, hn, hm, hs, ht⟩⟩
    rw [ho.cellAt j (by omega)]
    have : j < zs.length := by omega
    simp [List.getD_eq_getElem?_getD, this]

/-- Bytes that a literal has just laid. -/
theorem ob_lit (w : World) (e : TypeId) (cs : Array Value) (xs : List Int) (n : Nat) (hn : xs.length = n) (hm : n ≤ maxLen) (hx : ∀ j, 0 ≤ xs.getD j 0 ∧ xs.getD j 0 < 256) (hcs : cs.toList = xs.map (Value.int .u8)) :
    Ob (w.alloc (.cells cs e)) w.heap.size e (.slice (some ⟨w.heap.size, 0, none⟩) n n) xs := by
  refine ⟨hx, ?_⟩
  have hs : cs.size = n * 1 := by rw [← Array.length_toList, hcs, List.length_map, hn, Nat.mul_one]
  have h := World.ownsRow_lit (base := w.heap.size) (e := e) (size := 1) w cs n (Nat.le_refl _) hm hs
  rw [hcs] at h
  rw [hn]
  exact h

theorem bs_lit (w : World) (e : TypeId) (cs : Array Value) (xs : List Int) (n : Nat) (hn : xs.length = n) (hm : n ≤ maxLen) (hx : ∀ j, 0 ≤ xs.getD j 0 ∧ xs.getD j 0 < 256) (hcs : cs.toList = xs.map (Value.int .u8)) :
    Bs (w.alloc (.cells cs e)) (some ⟨w.heap.size, 0, none⟩) n xs := by
  obtain ⟨p, cap, hv, _, _, h, _⟩ := (ob_lit w e cs xs n hn hm hx hcs).open
  simp only [Value.slice.injEq] at hv
  obtain ⟨rfl, _, _⟩ := hv
  rw [hn] at h
  exact h

theorem Ob.ptr {w : World} {B n cap : Nat} {p : Option Addr} {e : TypeId} {zs : List Int} (h : Ob w B e (.slice p n cap) zs) (hn : 0 < n) : ∃ g, p = some ⟨g, 0, none⟩ := by
  rcases h.2.2 with ⟨hv, h0⟩ | ⟨g, cap', cur, hv, _⟩
  · simp only [Value.slice.injEq] at hv; omega
  · simp only [Value.slice.injEq] at hv; exact ⟨g, hv.1⟩

variable {P : Program}

/-- 'make([]byte, l, c)'. -/
theorem wpList_make_bytes (w : World) {ops : Array Oper} {rest : List Oper} {o : Oper} {a : Act} {Q : Exit → Act → World → Prop}
    (hg : o.guard = none) (l c : Operand) (t e : TypeId) (hop : o.op = Op.makeSlice t l c) (h1 : P.underlying t = some (.slice e))
    (hinfo : (P.info? e).map (fun i => (i.zero, i.size, i.bytes)) = some (some (.int .u8 0), 1, 1))
    (kl kc : IntKind) (L C : Int) (m n : Nat) (hl : a.eval l = .int kl L) (hc : a.eval c = .int kc C) (hL : L = (m : Int)) (hC : C = (n : Int)) (hmn : m ≤ n) (hn : n ≤ 281474976710656)
    (hK : ∀ w', Ob w' w.heap.size e (.slice (some ⟨w.heap.size, 0, none⟩) m n) (List.replicate m 0) → w.grownBy w' none → wpList P ops Q rest (a.put o.dst (.slice (some ⟨w.heap.size, 0, none⟩) m n)) w') :
    wpList P ops Q (o :: rest) a w := by
  refine wpList_plain hg fun K hK' => ?_
  obtain ⟨i, hi, hzz⟩ := Option.map_eq_some_iff.1 hinfo
  simp only [Prod.mk.injEq] at hzz
  obtain ⟨hz, hs, hb⟩ := hzz
  have hrun := run_make (P := P) w t e i (.int .u8 0) h1 hi hz kl kc m n (by omega) (by omega) (by rw [hb]; omega) (by omega)
  simp only [Int.toNat_natCast, hs, Nat.mul_one] at hrun
  subst hL hC
  unfold Oper.wp
  simp [execOp, hop, hl, hc, hrun, Result.andThen]
  refine hK' _ _ (hK _ ⟨bytes_replicate m, by simp, Or.inr ⟨w.heap.size, n, _, by simp, Nat.le_refl _, heap_alloc_new w _, by simpa using hmn, by unfold maxLen; omega, ?_, ?_⟩⟩ (World.grownBy_alloc w _ none))
  · rw [size_madeCells]; omega
  · show (madeCells #[Value.int .u8 0] n).toList.take _ = _
    rw [madeCells_one]
    simp [Nat.min_eq_left hmn]

/-- 'append(s, x...)', s of the call's own, x any bytes. -/
theorem wpList_append_bytes {w : World} {ops : Array Oper} {rest : List Oper} {o : Oper} {a : Act} {Q : Exit → Act → World → Prop} (hgd : o.guard = none) (s x : Operand) (t e : TypeId)
    (ho : o.op = .call { callee := .builtin .append, args := #[s, x], argTypes := #[t, t] }) (ht : P.underlying t = some (.slice e))
    (hinfo : (P.info? e).map (fun i => (i.zero, i.size, i.bytes)) = some (some (.int .u8 0), 1, 1))
    (B : Nat) (v : Value) (zs : List Int) (hs : a.eval s = v) (hob : Ob w B e v zs) (p : Option Addr) (m c : Nat) (ys : List Int) (hx : a.eval x = .slice p m c) (hbs : Bs w p m ys) (hpc : p = none → c = 0)
    (hbytes : zs.length + m ≤ 140737488355328) (hB : B ≤ w.heap.size)
    (h : ∀ v' w', Ob w' B e v' (zs ++ ys) → w.grownBy w' v.ownBlock → wpList P ops Q rest (a.put o.dst v') w') : wpList P ops Q (o :: rest) a w := by
  obtain ⟨i, hi, hzz⟩ := Option.map_eq_some_iff.1 hinfo
  simp only [Prod.mk.injEq] at hzz
  obtain ⟨hz, hsz, hb⟩ := hzz
  obtain ⟨hy1, hy2, hy3⟩ := hbs
  cases p with
  | none =>
    obtain rfl := hpc rfl
    have hm : m = 0 := by
      rcases hy3 with h0 | ⟨_, _, hh, _⟩
      · exact h0
      · cases hh
    subst hm
    obtain rfl : ys = [] := List.length_eq_zero_iff.1 hy1
    refine wpList_append_own_none hgd s x t ho B e i 1 ht hi v _ _ hs hob.2 hx (h _ _ (by rw [List.append_nil]; exact hob) ?_)
    exact ⟨rfl, rfl, rfl, Nat.le_refl _, fun _ _ _ => rfl⟩
  | some ad =>
    refine wpList_append_own _ hgd s x t ho B e i (.int .u8 0) 1 1 ht hi hz hsz hb rfl (by decide) v _ _ hs hob.2 ad m c (ys.map (Value.int .u8)) hx (by simpa using hy1) ?_ ?_ (by unfold maxLen; omega) (by omega) hB ?_
    · intro j u hu
      have hj : j < m := by
        rcases Nat.lt_or_ge j m with h | h
        · exact h
        · rw [List.getElem?_eq_none (by simpa [hy1] using h)] at hu; cases hu
      rcases hy3 with h0 | ⟨b, off, hp, hc⟩
      · omega
      · obtain rfl : ad = ⟨b, off, none⟩ := by simpa using hp
        rw [WideShapes.add_plain, hc j hj]
        rw [List.getElem?_map] at hu
        rw [List.getD_eq_getElem?_getD]
        rw [List.getElem?_eq_getElem (by omega)] at hu ⊢
        simpa using hu
    · intro u hu
      obtain ⟨z, _, rfl⟩ := List.mem_map.1 hu
      rfl
    · intro v' w' h1 h2 _
      refine h v' w' ⟨bytes_append hob.1 hy2, ?_⟩ h2
      simpa [hy1] using h1

/-- The numbers of a string's bytes. -/
def numsOf (s : ByteArray) : List Int := s.data.toList.map fun c => (c.toNat : Int)
theorem numsOf_length (s : ByteArray) : (numsOf s).length = s.size := by simp [numsOf]
theorem numsOf_byte (s : ByteArray) : ∀ j, 0 ≤ (numsOf s).getD j 0 ∧ (numsOf s).getD j 0 < 256 := by
  intro j
  simp only [numsOf, List.getD_eq_getElem?_getD, List.getElem?_map]
  cases s.data.toList[j]? with
  | none => simp
  | some c => have := c.toNat_lt; simp; omega
theorem strOfNums_numsOf (s : ByteArray) : strOfNums (numsOf s) = s := by
  apply ByteArray.ext
  apply Array.toList_inj.1
  rw [strOfNums_data, numsOf, List.map_map]
  conv => rhs; rw [← List.map_id s.data.toList]
  apply List.map_congr_left
  intro x _
  simp

/-- 'append(s, x...)', s of the call's own, x a string. -/
theorem wpList_append_text {w : World} {ops : Array Oper} {rest : List Oper} {o : Oper} {a : Act} {Q : Exit → Act → World → Prop} (hgd : o.guard = none) (sl x : Operand) (t u e : TypeId)
    (ho : o.op = .call { callee := .builtin .append, args := #[sl, x], argTypes := #[t, u] }) (ht : P.underlying t = some (.slice e)) (hu : P.underlying u = some .string)
    (hinfo : (P.info? e).map (fun i => (i.zero, i.size, i.bytes)) = some (some (.int .u8 0), 1, 1))
    (B : Nat) (v : Value) (zs : List Int) (hs : a.eval sl = v) (hob : Ob w B e v zs) (s : ByteArray) (hx : a.eval x = .string s)
    (hbytes : zs.length + s.size ≤ 140737488355328) (hB : B ≤ w.heap.size)
    (h : ∀ v' w', Ob w' B e v' (zs ++ numsOf s) → w.grownBy w' v.ownBlock → wpList P ops Q rest (a.put o.dst v') w') : wpList P ops Q (o :: rest) a w := by
  obtain ⟨i, hi, hzz⟩ := Option.map_eq_some_iff.1 hinfo
  simp only [Prod.mk.injEq] at hzz
  obtain ⟨hz, hsz, hb⟩ := hzz
  refine wpList_append_own_string _ hgd sl x t u ho B e i ht hu hi hz hsz hb v _ _ hs hob.2 s hx (by unfold maxLen; omega) hbytes hB ?_
  intro v' w' h1 h2 _
  refine h v' w' ⟨bytes_append hob.1 (numsOf_byte s), ?_⟩ h2
  have e1 : strCells s = (numsOf s).map (Value.int .u8) := by simp [strCells, numsOf, Function.comp_def]
  rw [e1] at h1
  rw [List.length_append, numsOf_length, List.map_append]
  exact h1

/-- 'copy(d, s)', d a row of the call's own as long as s. -/
theorem wpList_copy_bytes {w : World} {ops : Array Oper} {rest : List Oper} {o : Oper} {a : Act} {Q : Exit → Act → World → Prop} (hgd : o.guard = none) (d s : Operand) (dT sT e : TypeId)
    (ho : o.op = .call { callee := .builtin .copy, args := #[d, s], argTypes := #[dT, sT] }) (hu : P.underlying dT = some (.slice e)) (hsz : (P.info? e).map (·.size) = some 1)
    (B g n cap sCap : Nat) (sp : Option Addr) (zs ys : List Int) (hd : a.eval d = .slice (some ⟨g, 0, none⟩) n cap) (hob : Ob w B e (.slice (some ⟨g, 0, none⟩) n cap) ys) (hs : a.eval s = .slice sp n sCap) (hbs : Bs w sp n zs)
    (h : ∀ w', Ob w' B e (.slice (some ⟨g, 0, none⟩) n cap) zs → w.grownBy w' (some g) → wpList P ops Q rest (a.put o.dst (goInt n)) w') : wpList P ops Q (o :: rest) a w := by
  obtain ⟨hb0, hl, h2⟩ := hob
  obtain ⟨hz1, hz2, hz3⟩ := hbs
  rcases h2 with ⟨h0, _⟩ | ⟨g', cap', cur, hv, hB, hg, hn, hm, hcs, ht⟩
  · cases h0
  · simp only [Value.slice.injEq, Option.some.injEq, Addr.mk.injEq, and_true] at hv
    obtain ⟨rfl, hyl, rfl⟩ := hv
    by_cases h0 : n = 0
    · subst h0
      obtain rfl : zs = [] := List.length_eq_zero_iff.1 hz1
      refine wpList_copy_nothing hgd d s dT sT ho e hu hsz _ _ _ _ _ _ hd hs (by simp) (h _ ⟨hz2, by simp, Or.inr ⟨g, cap, cur, by simp, hB, hg, by simp, hm, hcs, by simp⟩⟩ ?_)
      exact ⟨rfl, rfl, rfl, Nat.le_refl _, fun _ _ _ => rfl⟩
    · rcases hz3 with h0' | ⟨b, off, rfl, hc⟩
      · exact absurd h0' h0
      · have hcl : (zs.map (Value.int .u8)).length = n := by simpa using hz1
        refine wpList_copy_own hgd d s dT sT ho e hu hsz g 0 n cap ⟨b, off, none⟩ n sCap hd hs cur e hg (zs.map (Value.int .u8)) (by rw [hcl]; exact (Nat.min_self n).symm) ?_ (by rw [hcl]; omega) ?_ ?_
        · intro j u hj
          have hjn : j < n := by
            rcases Nat.lt_or_ge j n with h | h
            · exact h
            · rw [List.getElem?_eq_none (by omega)] at hj; cases hj
          rw [WideShapes.add_plain, hc j hjn]
          rw [List.getElem?_map] at hj
          rw [List.getD_eq_getElem?_getD]
          rw [List.getElem?_eq_getElem (by omega)] at hj ⊢
          simpa using hj
        · intro u hu'
          obtain ⟨z, _, rfl⟩ := List.mem_map.1 hu'
          rfl
        · rw [hcl]
          have hbl := setRow_heap w g cur (cur.toList.take 0 ++ (zs.map (Value.int .u8) ++ cur.toList.drop (0 + n))).toArray e (0, 0) hg
          refine h _ ⟨hz2, by simp, Or.inr ⟨g, cap, _, by rw [hz1], hB, hbl, by omega, hm, ?_, ?_⟩⟩ ?_
          · simp [hz1]; omega
          · simp [hz1]
          · exact ⟨rfl, rfl, rfl, by simp, fun k _ hk => setRow_other w g k _ (fun e => hk (by rw [e]))⟩
end Go.Proofs.YtncbgddgkpaoeaaGreat

namespace Go.Proofs.YtncbgddgkpaoeaaGreat
set_option linter.unusedVariables false
open Go.RowKit Go.Lib

theorem bytes_loop (s : ByteArray) : ∀ (n i : Nat) (r : List UInt8), s.size - i = n → ByteArray.toList.loop s i r = r.reverse ++ s.data.toList.drop i := by
  intro n
  induction n with
  | zero =>
    intro i r h
    unfold ByteArray.toList.loop
    have hs : s.data.toList.length = s.size := by simp
    rw [if_neg (by omega), List.drop_of_length_le (by omega), List.append_nil]
  | succ n ih =>
    intro i r h
    unfold ByteArray.toList.loop
    have hs : s.data.toList.length = s.size := by simp
    have hi : i < s.data.toList.length := by omega
    rw [if_pos (by omega), ih (i + 1) _ (by omega), List.reverse_cons, List.append_assoc, List.drop_eq_getElem_cons hi]
    congr 1
    have : s.get! i = s.data.toList[i] := by
      simp only [ByteArray.get!, Array.getElem_toList]
      exact getElem!_pos s.data i (by simpa using hi)
    rw [this]; rfl
theorem bytes_toList (s : ByteArray) : s.toList = s.data.toList := by
  unfold ByteArray.toList
  rw [bytes_loop s _ 0 [] rfl]
  simp
theorem numsOf_toList (s : ByteArray) : numsOf s = s.toList.map fun c => (c.toNat : Int) := by rw [bytes_toList]; rfl
theorem numsOf_inj {s t : ByteArray} (h : numsOf s = numsOf t) : s = t := by rw [← strOfNums_numsOf s, h, strOfNums_numsOf]
theorem numsOf_strOfNums {zs : List Int} (h : ∀ j, 0 ≤ zs.getD j 0 ∧ zs.getD j 0 < 256) : numsOf (strOfNums zs) = zs := by
  rw [numsOf, strOfNums_data, List.map_map]
  conv => rhs; rw [← List.map_id zs]
  apply List.map_congr_left
  intro x hx
  obtain ⟨j, hj, rfl⟩ := List.getElem_of_mem hx
  have h1 := h j
  rw [List.getD_eq_getElem?_getD, List.getElem?_eq_getElem hj] at h1
  simp only [Option.getD_some] at h1
  simp only [Function.comp, id]
  rw [UInt8.toNat_ofNat']
  omega
theorem numsOf_extract (s : ByteArray) (a b : Nat) : numsOf (s.extract a b) = ((numsOf s).take b).drop a := by
  unfold numsOf
  rw [ByteArray.data_extract, Array.toList_extract]
  simp only [List.extract_eq_take_drop, List.map_take, List.map_drop]
  rw [List.drop_take]
theorem numsOf_append (s t : ByteArray) : numsOf (s ++ t) = numsOf s ++ numsOf t := by
  unfold numsOf
  rw [ByteArray.data_append, Array.toList_append, List.map_append]
theorem nats_inj {l m : List UInt8} (h : (l.map fun c => (c.toNat : Int)) = m.map fun c => (c.toNat : Int)) : l = m := by
  induction l generalizing m with
  | nil => cases m with
    | nil => rfl
    | cons => simp at h
  | cons a l ih => cases m with
    | nil => simp at h
    | cons b m =>
      simp only [List.map_cons, List.cons.injEq] at h
      rw [ih h.2]
      congr 1
      apply UInt8.toNat_inj.1
      have := h.1
      omega
/-- a text's comparison, as the walk spells it -/
theorem text_test (s : ByteArray) (l : List UInt8) (zs : List Int) (hz : (l.map fun c => (c.toNat : Int)) = zs) : (s.toList == l) = decide (numsOf s = zs) := by
  rw [Bool.eq_iff_iff, beq_iff_eq, decide_eq_true_iff, numsOf_toList, ← hz]
  exact ⟨fun h => by rw [h], nats_inj⟩
end Go.Proofs.YtncbgddgkpaoeaaGreat

namespace Go.Proofs.YtncbgddgkpaoeaaGreat
set_option linter.unusedVariables false

structure Nd where
  s : ByteArray
  id : Int
structure Cg where
  k : Int
  a : ByteArray
  b : ByteArray
  id : Int
structure Fd where
  l : List Nd
  p : List Cg
def nd0 : Nd := ⟨⟨#[]⟩, 0⟩
def cg0 : Cg := ⟨0, ⟨#[]⟩, ⟨#[]⟩, 0⟩

/-! ### the order of names, as a walk spells it -/
theorem ba_ext {a b : ByteArray} (h : a.toList = b.toList) : a = b := by
  rw [bytes_toList, bytes_toList] at h
  exact ByteArray.ext (Array.toList_inj.1 h)
theorem sq_iff {a b : ByteArray} : (a.toList == b.toList) = true ↔ a = b := by
  rw [beq_iff_eq]
  exact ⟨ba_ext, fun h => by rw [h]⟩
theorem sq_true {a b : ByteArray} (h : a = b) : (a.toList == b.toList) = true := sq_iff.2 h
theorem sq_false {a b : ByteArray} (h : a ≠ b) : (a.toList == b.toList) = false := by
  cases e : (a.toList == b.toList)
  · rfl
  · exact absurd (sq_iff.1 e) h
theorem less_iff : ∀ (x y : List UInt8), Op.bytesLess x y = true ↔ x < y
  | [], [] => by simp [Op.bytesLess]
  | _ :: _, [] => by simp [Op.bytesLess]
  | [], _ :: _ => by simp [Op.bytesLess]
  | a :: x, b :: y => by
    rw [Op.bytesLess, List.cons_lt_cons_iff, Bool.or_eq_true, Bool.and_eq_true, beq_iff_eq, less_iff x y, decide_eq_true_iff]
/-- a name before another one -/
def slt (a b : ByteArray) : Prop := a.toList < b.toList
theorem slt_irrefl (a : ByteArray) : ¬ slt a a := List.lt_irrefl _
theorem slt_trans {a b c : ByteArray} (h1 : slt a b) (h2 : slt b c) : slt a c := List.lt_trans h1 h2
theorem slt_asymm {a b : ByteArray} (h1 : slt a b) (h2 : slt b a) : False := slt_irrefl _ (slt_trans h1 h2)
theorem slt_ne {a b : ByteArray} (h1 : slt a b) : a ≠ b := fun e => by subst e; exact slt_irrefl _ h1
theorem slt_total {a b : ByteArray} (h1 : ¬ slt a b) (h2 : a ≠ b) : slt b a := by
  have h3 : b.toList ≤ a.toList := List.not_lt.1 h1
  apply Classical.byContradiction
  intro h4
  have h5 : a.toList ≤ b.toList := List.not_lt.1 h4
  exact h2 (ba_ext (List.le_antisymm h5 h3))
/-- 'a > b' -/
def sgt (a b : ByteArray) : Bool := !(Op.bytesLess a.toList b.toList || a.toList == b.toList)
theorem sgt_iff {a b : ByteArray} : sgt a b = true ↔ slt b a := by
  unfold sgt
  rw [Bool.not_eq_true', Bool.or_eq_false_iff]
  constructor
  · rintro ⟨h1, h2⟩
    refine slt_total (fun h => ?_) (fun h => ?_)
    · rw [(less_iff _ _).2 h] at h1; cases h1
    · rw [sq_true h] at h2; cases h2
  · intro h
    refine ⟨?_, sq_false fun e => slt_ne h e.symm⟩
    cases e : Op.bytesLess a.toList b.toList
    · rfl
    · exact absurd ((less_iff _ _).1 e) fun h' => slt_asymm h h'

/-! ### rows of names -/
def findP : List Nd → ByteArray → Option Int
  | [], _ => none
  | x :: l, s => if x.s = s then some x.id else findP l s
def rises (l : List Nd) : Prop := l.Pairwise fun x y => slt x.s y.s
/-- x and what is still to come, x being there already or not -/
def putR (x : Nd) : List Nd → Bool → List Nd
  | [], t => if t then [] else [x]
  | y :: l, t => (if t = false ∧ sgt y.s x.s = true then [x] else []) ++ ((if y.s = x.s then [] else [y]) ++ putR x l (t || sgt y.s x.s))
def putQ (l : List Nd) (x : Nd) : List Nd := putR x l false
def outP (l : List Nd) (s : ByteArray) : List Nd := l.filter fun y => decide (y.s ≠ s)
def chgP (l : List Nd) (c : Cg) : List Nd :=
  if c.k = 1 then putQ l ⟨c.a, c.id⟩
  else if c.k = 2 then (match findP l c.a with | some i => putQ (outP l c.a) ⟨c.b, i⟩ | none => l)
  else if c.k = 3 then outP l c.a else l
def baseP (l : List Nd) : List Nd := l.foldr (fun x r => putQ r x) []
/-- the names behind so many changes -/
def behP (F : Fd) (n : Nat) : List Nd := (F.p.take n).foldl chgP (baseP F.l)
def nowQ (F : Fd) : List Nd := behP F F.p.length
def syncQ (F : Fd) : Fd := ⟨nowQ F, []⟩
def crashQ (F : Fd) (n : Nat) : Fd := ⟨behP F n, []⟩

/-- as a function of the name -/
def chgF (f : ByteArray → Option Int) (c : Cg) : ByteArray → Option Int := fun s =>
  if c.k = 1 then (if s = c.a then some c.id else f s)
  else match f c.a with
    | none => f s
    | some i => if c.k = 2 then (if s = c.b then some i else if s = c.a then none else f s) else if c.k = 3 then (if s = c.a then none else f s) else f s
def aftF (F : Fd) (n : Nat) : ByteArray → Option Int := (F.p.take n).foldl chgF (findP F.l)

theorem putR_length (x : Nd) : ∀ l t, (putR x l t).length ≤ l.length + (if t then 0 else 1)
  | [], t => by cases t <;> simp [putR]
  | y :: l, t => by
    have h := putR_length x l (t || sgt y.s x.s)
    simp only [putR, List.length_append, List.length_cons]
    generalize sgt y.s x.s = g at *
    generalize putR x l (t || g) = r at *
    by_cases e : y.s = x.s
    · rw [if_pos e]; cases t <;> cases g <;> simp at h ⊢ <;> omega
    · rw [if_neg e]; cases t <;> cases g <;> simp at h ⊢ <;> omega
theorem putQ_length (l : List Nd) (x : Nd) : (putQ l x).length ≤ l.length + 1 := putR_length x l false
theorem outP_length (l : List Nd) (s : ByteArray) : (outP l s).length ≤ l.length := List.length_filter_le _ _
theorem chgP_length (l : List Nd) (c : Cg) : (chgP l c).length ≤ l.length + 1 := by
  unfold chgP
  split
  · exact putQ_length _ _
  · split
    · split
      · exact Nat.le_trans (putQ_length _ _) (Nat.succ_le_succ (outP_length _ _))
      · omega
    · split
      · exact Nat.le_trans (outP_length _ _) (Nat.le_succ _)
      · omega
theorem baseP_length (l : List Nd) : (baseP l).length ≤ l.length := by
  induction l with
  | nil => exact Nat.le_refl _
  | cons x l ih => exact Nat.le_trans (putQ_length _ _) (Nat.succ_le_succ ih)
theorem foldP_length (p : List Cg) (l : List Nd) : (p.foldl chgP l).length ≤ l.length + p.length := by
  induction p generalizing l with
  | nil => exact Nat.le_refl _
  | cons c p ih =>
    have h1 := ih (chgP l c)
    have h2 := chgP_length l c
    simp only [List.foldl_cons, List.length_cons]; omega
theorem behP_length (F : Fd) (n : Nat) : (behP F n).length ≤ F.l.length + F.p.length := by
  have h1 := foldP_length (F.p.take n) (baseP F.l)
  have h2 := baseP_length F.l
  have h3 : (F.p.take n).length ≤ F.p.length := by rw [List.length_take]; omega
  unfold behP; omega

theorem mem_putR (x : Nd) : ∀ l t y, y ∈ putR x l t ↔ (t = false ∧ y = x) ∨ (y ∈ l ∧ y.s ≠ x.s)
  | [], t, y => by cases t <;> simp [putR]
  | z :: l, t, y => by
    have ih := mem_putR x l (t || sgt z.s x.s) y
    have hg : sgt z.s x.s = true → z.s ≠ x.s := fun h e => slt_ne (sgt_iff.1 h) e.symm
    simp only [putR, List.mem_append, ih, List.mem_cons]
    generalize sgt z.s x.s = g at *
    by_cases e : z.s = x.s
    · rw [if_pos e]
      cases g <;> cases t <;> grind
    · rw [if_neg e]
      cases g <;> cases t <;> grind
theorem mem_putP {l : List Nd} {x y : Nd} : y ∈ putQ l x ↔ y = x ∨ (y ∈ l ∧ y.s ≠ x.s) := by rw [putQ, mem_putR]; simp
theorem mem_outP {l : List Nd} {s : ByteArray} {y : Nd} : y ∈ outP l s ↔ y ∈ l ∧ y.s ≠ s := by rw [outP, List.mem_filter, decide_eq_true_iff]

theorem putR_rises (x : Nd) : ∀ l t, rises l → (t = true → ∀ y ∈ l, slt x.s y.s) → rises (putR x l t)
  | [], t, _, _ => by
    cases t
    · exact List.pairwise_singleton _ _
    · exact List.Pairwise.nil
  | z :: l, t, hl, ht => by
    obtain ⟨h1, h2⟩ := List.pairwise_cons.1 hl
    cases t
    · cases hg : sgt z.s x.s
      · have hn : ¬ slt x.s z.s := fun h => by rw [sgt_iff.2 h] at hg; cases hg
        have ih := putR_rises x l false h2 (fun h => by cases h)
        simp only [putR, hg, if_neg (show ¬ (false = false ∧ false = true) by simp), List.nil_append, Bool.or_false]
        by_cases e : z.s = x.s
        · rw [if_pos e]; exact ih
        · rw [if_neg e]
          refine List.pairwise_cons.2 ⟨fun y hy => ?_, ih⟩
          rcases (mem_putR x l false y).1 hy with ⟨_, rfl⟩ | ⟨hy, _⟩
          · exact slt_total hn (fun h => e h.symm)
          · exact h1 y hy
      · have hx := sgt_iff.1 hg
        have ih := putR_rises x l true h2 (fun _ y hy => slt_trans hx (h1 y hy))
        simp only [putR, hg, if_pos (show (false = false ∧ true = true) by simp), Bool.or_true, if_neg (show ¬ z.s = x.s from fun h => slt_ne hx h.symm)]
        refine List.pairwise_cons.2 ⟨fun y hy => ?_, List.pairwise_cons.2 ⟨fun y hy => ?_, ih⟩⟩
        · rcases List.mem_cons.1 hy with rfl | hy
          · exact hx
          · rcases (mem_putR x l true y).1 hy with ⟨h, _⟩ | ⟨hy, _⟩
            · cases h
            · exact slt_trans hx (h1 y hy)
        · rcases (mem_putR x l true y).1 hy with ⟨h, _⟩ | ⟨hy, _⟩
          · cases h
          · exact h1 y hy
    · have hx := ht rfl z (List.mem_cons_self)
      have ih := putR_rises x l true h2 (fun _ y hy => ht rfl y (List.mem_cons_of_mem _ hy))
      simp only [putR, if_neg (show ¬ (true = false ∧ sgt z.s x.s = true) by simp), List.nil_append, Bool.true_or, if_neg (show ¬ z.s = x.s from fun h => slt_ne hx h.symm)]
      refine List.pairwise_cons.2 ⟨fun y hy => ?_, ih⟩
      rcases (mem_putR x l true y).1 hy with ⟨h, _⟩ | ⟨hy, _⟩
      · cases h
      · exact h1 y hy
theorem putP_rises {l : List Nd} (h : rises l) (x : Nd) : rises (putQ l x) := putR_rises x l false h (fun h => by cases h)
theorem outP_rises {l : List Nd} (h : rises l) (s : ByteArray) : rises (outP l s) := List.Pairwise.filter _ h

theorem find_mem {l : List Nd} (h : rises l) (s : ByteArray) (i : Int) : findP l s = some i ↔ (⟨s, i⟩ : Nd) ∈ l := by
  induction l with
  | nil => simp [findP]
  | cons x l ih =>
    obtain ⟨h1, h2⟩ := List.pairwise_cons.1 h
    rw [findP, List.mem_cons]
    by_cases e : x.s = s
    · rw [if_pos e]
      constructor
      · intro hi
        simp only [Option.some.injEq] at hi
        left; subst e hi; rfl
      · rintro (hx | hx)
        · rw [← hx]
        · have := h1 _ hx
          exact absurd e (slt_ne this)
    · rw [if_neg e, ih h2]
      constructor
      · exact Or.inr
      · rintro (hx | hx)
        · exact absurd (by rw [← hx]) e
        · exact hx
theorem opt_ext {a b : Option Int} (h : ∀ i, a = some i ↔ b = some i) : a = b := by
  cases a with
  | none => cases b with
    | none => rfl
    | some j => have := (h j).2 rfl; cases this
  | some j => exact ((h j).1 rfl).symm
theorem find_putP {l : List Nd} (h : rises l) (x : Nd) (s : ByteArray) : findP (putQ l x) s = if s = x.s then some x.id else findP l s := by
  apply opt_ext
  intro i
  rw [find_mem (putP_rises h x), mem_putP]
  by_cases e : s = x.s
  · rw [if_pos e]
    subst e
    constructor
    · rintro (hx | ⟨_, hx⟩)
      · rw [← hx]
      · exact absurd rfl hx
    · intro hi
      simp only [Option.some.injEq] at hi
      left; subst hi; rfl
  · rw [if_neg e, find_mem h]
    constructor
    · rintro (hx | ⟨hx, _⟩)
      · exact absurd (by rw [← hx]) e
      · exact hx
    · exact fun hx => Or.inr ⟨hx, e⟩
theorem find_outP {l : List Nd} (h : rises l) (s t : ByteArray) : findP (outP l s) t = if t = s then none else findP l t := by
  apply opt_ext
  intro i
  rw [find_mem (outP_rises h s), mem_outP]
  by_cases e : t = s
  · rw [if_pos e]
    exact ⟨fun hx => absurd e hx.2, fun hx => by cases hx⟩
  · rw [if_neg e, find_mem h]
    exact ⟨fun hx => hx.1, fun hx => ⟨hx, e⟩⟩
/-- two rows that rise and hold the same are one -/
theorem rises_ext {l m : List Nd} (hl : rises l) (hm : rises m) (h : ∀ s i, findP l s = some i ↔ findP m s = some i) : l = m := by
  have hmem : ∀ x : Nd, x ∈ l ↔ x ∈ m := fun x => by rw [← find_mem hl x.s x.id, ← find_mem hm x.s x.id]; exact h _ _
  clear h
  induction l generalizing m with
  | nil => cases m with
    | nil => rfl
    | cons y m => have := (hmem y).2 List.mem_cons_self; cases this
  | cons x l ih => cases m with
    | nil => have := (hmem x).1 List.mem_cons_self; cases this
    | cons y m =>
      obtain ⟨a1, a2⟩ := List.pairwise_cons.1 hl
      obtain ⟨b1, b2⟩ := List.pairwise_cons.1 hm
      have hxy : x = y := by
        rcases List.mem_cons.1 ((hmem x).1 List.mem_cons_self) with e | hx
        · exact e
        · rcases List.mem_cons.1 ((hmem y).2 List.mem_cons_self) with e | hy
          · exact e.symm
          · exact absurd (b1 x hx) (fun h => slt_asymm h (a1 y hy))
      subst hxy
      congr 1
      refine ih a2 b2 fun z => ⟨fun hz => ?_, fun hz => ?_⟩
      · rcases List.mem_cons.1 ((hmem z).1 (List.mem_cons_of_mem _ hz)) with e | h
        · subst e; exact absurd (a1 _ hz) (slt_irrefl _)
        · exact h
      · rcases List.mem_cons.1 ((hmem z).2 (List.mem_cons_of_mem _ hz)) with e | h
        · subst e; exact absurd (b1 _ hz) (slt_irrefl _)
        · exact h

theorem chg_both {l : List Nd} (h : rises l) (c : Cg) : rises (chgP l c) ∧ findP (chgP l c) = chgF (findP l) c := by
  unfold chgP chgF
  by_cases h1 : c.k = 1
  · refine ⟨by rw [if_pos h1]; exact putP_rises h _, funext fun s => ?_⟩
    rw [if_pos h1, if_pos h1, find_putP h]
  by_cases h2 : c.k = 2
  · cases hf : findP l c.a with
    | none => exact ⟨by rw [if_neg h1, if_pos h2]; exact h, funext fun s => by rw [if_neg h1, if_pos h2, if_neg h1]⟩
    | some i =>
      refine ⟨by rw [if_neg h1, if_pos h2]; exact putP_rises (outP_rises h _) _, funext fun s => ?_⟩
      rw [if_neg h1, if_pos h2, if_neg h1]
      dsimp only
      rw [if_pos h2, find_putP (outP_rises h _), find_outP h]
  by_cases h3 : c.k = 3
  · refine ⟨by rw [if_neg h1, if_neg h2, if_pos h3]; exact outP_rises h _, funext fun s => ?_⟩
    rw [if_neg h1, if_neg h2, if_pos h3, if_neg h1, find_outP h]
    cases hf : findP l c.a with
    | none =>
      by_cases e : s = c.a
      · rw [if_pos e, e, hf]
      · rw [if_neg e]
    | some i =>
      dsimp only
      rw [if_neg h2, if_pos h3]
  · refine ⟨by rw [if_neg h1, if_neg h2, if_neg h3]; exact h, funext fun s => ?_⟩
    rw [if_neg h1, if_neg h2, if_neg h3, if_neg h1]
    cases hf : findP l c.a with
    | none => rfl
    | some i =>
      dsimp only
      rw [if_neg h2, if_neg h3]
theorem base_both (l : List Nd) : rises (baseP l) ∧ findP (baseP l) = findP l := by
  induction l with
  | nil => exact ⟨List.Pairwise.nil, rfl⟩
  | cons x l ih =>
    refine ⟨putP_rises ih.1 x, funext fun s => ?_⟩
    show findP (putQ (baseP l) x) s = _
    rw [find_putP ih.1, ih.2, findP]
    by_cases e : s = x.s
    · rw [if_pos e, if_pos e.symm]
    · rw [if_neg e, if_neg (fun h => e h.symm)]
theorem fold_both (p : List Cg) {l : List Nd} (h : rises l) : rises (p.foldl chgP l) ∧ findP (p.foldl chgP l) = p.foldl chgF (findP l) := by
  induction p generalizing l with
  | nil => exact ⟨h, rfl⟩
  | cons c p ih =>
    obtain ⟨h1, h2⟩ := chg_both h c
    have := ih h1
    rw [h2] at this
    exact this
theorem beh_both (F : Fd) (n : Nat) : rises (behP F n) ∧ findP (behP F n) = aftF F n := by
  have := fold_both (F.p.take n) (base_both F.l).1
  rw [(base_both F.l).2] at this
  exact this
theorem baseP_self {l : List Nd} (h : rises l) : baseP l = l :=
  rises_ext (base_both l).1 h fun s i => by rw [(base_both l).2]
theorem behP_none (l : List Nd) (n : Nat) (h : rises l) : behP ⟨l, []⟩ n = l := by
  unfold behP
  rw [show (⟨l, []⟩ : Fd).p.take n = [] from List.take_nil]
  exact baseP_self h
theorem behP_now (F : Fd) (n : Nat) (m : Nat) : behP (syncQ F) m = nowQ F := behP_none _ _ (beh_both _ _).1
theorem behP_all {F : Fd} {n : Nat} (h : F.p.length ≤ n) : behP F n = nowQ F := by
  unfold nowQ behP
  rw [List.take_of_length_le h, List.take_of_length_le (Nat.le_refl _)]
theorem behP_step {F : Fd} {n : Nat} (h : n < F.p.length) : behP F (n + 1) = chgP (behP F n) (F.p.getD n cg0) := by
  unfold behP
  rw [List.take_succ_eq_append_getElem h, List.foldl_append, List.getD_eq_getElem?_getD, List.getElem?_eq_getElem h]
  rfl
theorem aftF_step {F : Fd} {n : Nat} (h : n < F.p.length) : aftF F (n + 1) = chgF (aftF F n) (F.p.getD n cg0) := by
  unfold aftF
  rw [List.take_succ_eq_append_getElem h, List.foldl_append, List.getD_eq_getElem?_getD, List.getElem?_eq_getElem h]
  rfl

/-! ### what is fit -/
def InI (n : Int) : Prop := -9223372036854775808 ≤ n ∧ n ≤ 9223372036854775807
def Nd.ok (x : Nd) : Prop := x.s.size ≤ 1048576 ∧ InI x.id
def Cg.ok (c : Cg) : Prop := InI c.k ∧ c.a.size ≤ 1048576 ∧ c.b.size ≤ 1048576 ∧ InI c.id
def Fd.ok (F : Fd) : Prop := (∀ x ∈ F.l, x.ok) ∧ (∀ c ∈ F.p, c.ok) ∧ F.l.length + F.p.length ≤ 1048576
def okF (f : ByteArray → Option Int) : Prop := ∀ s i, f s = some i → s.size ≤ 1048576 ∧ InI i
theorem nd0_ok : nd0.ok := ⟨by decide, by unfold InI nd0; decide⟩
theorem cg0_ok : cg0.ok := ⟨by unfold InI cg0; decide, by decide, by decide, by unfold InI cg0; decide⟩
theorem okF_find {l : List Nd} (h : ∀ x ∈ l, x.ok) : okF (findP l) := by
  induction l with
  | nil => intro s i h; cases h
  | cons x l ih =>
    intro s i hi
    rw [findP] at hi
    by_cases e : x.s = s
    · rw [if_pos e] at hi
      simp only [Option.some.injEq] at hi
      subst e hi
      exact h x List.mem_cons_self
    · rw [if_neg e] at hi
      exact ih (fun y hy => h y (List.mem_cons_of_mem _ hy)) s i hi
theorem okF_chg {f : ByteArray → Option Int} (h : okF f) {c : Cg} (hc : c.ok) : okF (chgF f c) := by
  intro s i hi
  unfold chgF at hi
  split at hi
  · split at hi
    · rename_i e
      simp only [Option.some.injEq] at hi
      subst e hi
      exact ⟨hc.2.1, hc.2.2.2⟩
    · exact h s i hi
  · split at hi
    · exact h s i hi
    · rename_i j hj
      split at hi
      · split at hi
        · rename_i e
          simp only [Option.some.injEq] at hi
          subst e hi
          exact ⟨hc.2.2.1, (h _ _ hj).2⟩
        · split at hi
          · cases hi
          · exact h s i hi
      · split at hi
        · split at hi
          · cases hi
          · exact h s i hi
        · exact h s i hi
theorem okF_fold {p : List Cg} (hp : ∀ c ∈ p, c.ok) {f : ByteArray → Option Int} (h : okF f) : okF (p.foldl chgF f) := by
  induction p generalizing f with
  | nil => exact h
  | cons c p ih => exact ih (fun d hd => hp d (List.mem_cons_of_mem _ hd)) (okF_chg h (hp c List.mem_cons_self))
theorem okF_aft {F : Fd} (h : F.ok) (n : Nat) : okF (aftF F n) := okF_fold (fun c hc => h.2.1 c (List.mem_of_mem_take hc)) (okF_find h.1)
theorem ok_of_find {l : List Nd} (hr : rises l) (h : okF (findP l)) : ∀ x ∈ l, x.ok := fun x hx => h x.s x.id ((find_mem hr _ _).2 hx)
theorem behP_ok {F : Fd} (h : F.ok) (n : Nat) : ∀ x ∈ behP F n, x.ok := ok_of_find (beh_both F n).1 (by rw [(beh_both F n).2]; exact okF_aft h n)

/-! ### numbers of files -/
def irises (l : List Int) : Prop := l.Pairwise (· < ·)
def putIR (n : Int) : List Int → Bool → List Int
  | [], t => if t then [] else [n]
  | y :: l, t => (if t = false ∧ n ≤ y ∧ n < y then [n] else []) ++ (y :: putIR n l (t || decide (n ≤ y)))
def putI (l : List Int) (n : Int) : List Int := putIR n l false
def idsF (F : Fd) (n : Nat) (o : List Int) : List Int := (behP F n).foldl (fun o x => putI o x.id) o
def idsN (F : Fd) : Nat → List Int
  | 0 => []
  | n + 1 => idsF F n (idsN F n)
def idsP (F : Fd) : List Int := idsN F (F.p.length + 1)
theorem putIR_length (n : Int) : ∀ l t, (putIR n l t).length ≤ l.length + (if t then 0 else 1)
  | [], t => by cases t <;> simp [putIR]
  | y :: l, t => by
    have h := putIR_length n l (t || decide (n ≤ y))
    simp only [putIR, List.length_append, List.length_cons]
    cases t
    · by_cases h1 : n ≤ y <;> by_cases h2 : n < y <;> simp [h1, h2] at h ⊢ <;> omega
    · simp at h ⊢; omega
theorem mem_putIR (n : Int) : ∀ l t y, y ∈ putIR n l t ↔ (t = false ∧ y = n) ∨ y ∈ l
  | [], t, y => by cases t <;> simp [putIR]
  | z :: l, t, y => by
    have ih := mem_putIR n l (t || decide (n ≤ z)) y
    simp only [putIR, List.mem_append, List.mem_cons, ih]
    by_cases h1 : n ≤ z
    · by_cases h2 : n < z
      · cases t <;> simp [h1, h2] <;> grind
      · have : n = z := by omega
        subst this
        cases t <;> simp <;> grind
    · cases t <;> simp [h1] <;> grind
theorem mem_putI {l : List Int} {n y : Int} : y ∈ putI l n ↔ y = n ∨ y ∈ l := by rw [putI, mem_putIR]; simp
theorem putIR_rises (n : Int) : ∀ l t, irises l → (t = true → ∀ y ∈ l, n < y) → irises (putIR n l t)
  | [], t, _, _ => by
    cases t
    · exact List.pairwise_singleton _ _
    · exact List.Pairwise.nil
  | z :: l, t, hl, ht => by
    obtain ⟨h1, h2⟩ := List.pairwise_cons.1 hl
    cases t
    · by_cases h3 : n ≤ z
      · have ih := putIR_rises n l true h2 (fun _ y hy => by have := h1 y hy; omega)
        have hz : irises (z :: putIR n l true) := List.pairwise_cons.2 ⟨fun y hy => by
          rcases (mem_putIR n l true y).1 hy with ⟨h, _⟩ | hy
          · cases h
          · exact h1 y hy, ih⟩
        simp only [putIR, Bool.false_or, decide_eq_true h3]
        by_cases h4 : n < z
        · rw [if_pos (by simp [h3, h4])]
          refine List.pairwise_cons.2 ⟨fun y hy => ?_, hz⟩
          rcases List.mem_cons.1 hy with rfl | hy
          · exact h4
          · rcases (mem_putIR n l true y).1 hy with ⟨h, _⟩ | hy
            · cases h
            · have := h1 y hy; omega
        · rw [if_neg (fun h => h4 h.2.2)]; exact hz
      · have ih := putIR_rises n l false h2 (fun h => by cases h)
        simp only [putIR, Bool.false_or, decide_eq_false h3]
        rw [if_neg (fun h => h3 h.2.1)]
        refine List.pairwise_cons.2 ⟨fun y hy => ?_, ih⟩
        rcases (mem_putIR n l false y).1 hy with ⟨_, rfl⟩ | hy
        · omega
        · exact h1 y hy
    · have hx := ht rfl z (List.mem_cons_self)
      have ih := putIR_rises n l true h2 (fun _ y hy => ht rfl y (List.mem_cons_of_mem _ hy))
      simp only [putIR, Bool.true_or]
      rw [if_neg (fun h => by cases h.1)]
      refine List.pairwise_cons.2 ⟨fun y hy => ?_, ih⟩
      rcases (mem_putIR n l true y).1 hy with ⟨h, _⟩ | hy
      · cases h
      · exact h1 y hy
theorem putI_rises {l : List Int} (h : irises l) (n : Int) : irises (putI l n) := putIR_rises n l false h (fun h => by cases h)
theorem foldI_both (r : List Nd) {o : List Int} (h : irises o) : irises (r.foldl (fun o x => putI o x.id) o) ∧ ∀ i, i ∈ r.foldl (fun o x => putI o x.id) o ↔ i ∈ o ∨ ∃ x ∈ r, x.id = i := by
  induction r generalizing o with
  | nil => exact ⟨h, fun i => by simp⟩
  | cons x r ih =>
    obtain ⟨h1, h2⟩ := ih (putI_rises h x.id)
    refine ⟨h1, fun i => ?_⟩
    rw [List.foldl_cons, h2 i, mem_putI]
    constructor
    · rintro ((h | h) | ⟨y, hy, h⟩)
      · exact Or.inr ⟨x, List.mem_cons_self, h.symm⟩
      · exact Or.inl h
      · exact Or.inr ⟨y, List.mem_cons_of_mem _ hy, h⟩
    · rintro (h | ⟨y, hy, h⟩)
      · exact Or.inl (Or.inr h)
      · rcases List.mem_cons.1 hy with rfl | hy
        · exact Or.inl (Or.inl h.symm)
        · exact Or.inr ⟨y, hy, h⟩
theorem idsN_both (F : Fd) : ∀ n, irises (idsN F n) ∧ ∀ i, i ∈ idsN F n ↔ ∃ m, m < n ∧ ∃ x ∈ behP F m, x.id = i
  | 0 => ⟨List.Pairwise.nil, fun i => by simp [idsN]⟩
  | n + 1 => by
    obtain ⟨h1, h2⟩ := idsN_both F n
    obtain ⟨h3, h4⟩ := foldI_both (behP F n) h1
    refine ⟨h3, fun i => ?_⟩
    rw [idsN, idsF, h4 i, h2 i]
    constructor
    · rintro (⟨m, hm, hx⟩ | hx)
      · exact ⟨m, by omega, hx⟩
      · exact ⟨n, by omega, hx⟩
    · rintro ⟨m, hm, hx⟩
      by_cases e : m = n
      · subst e; exact Or.inr hx
      · exact Or.inl ⟨m, by omega, hx⟩
theorem mem_idsP (F : Fd) (i : Int) : i ∈ idsP F ↔ ∃ m, m ≤ F.p.length ∧ ∃ x ∈ behP F m, x.id = i := by
  rw [idsP, (idsN_both F _).2 i]
  constructor <;> rintro ⟨m, hm, hx⟩ <;> exact ⟨m, by omega, hx⟩
theorem irises_ext {l m : List Int} (hl : irises l) (hm : irises m) (hmem : ∀ x, x ∈ l ↔ x ∈ m) : l = m := by
  induction l generalizing m with
  | nil => cases m with
    | nil => rfl
    | cons y m => have := (hmem y).2 List.mem_cons_self; cases this
  | cons x l ih => cases m with
    | nil => have := (hmem x).1 List.mem_cons_self; cases this
    | cons y m =>
      obtain ⟨a1, a2⟩ := List.pairwise_cons.1 hl
      obtain ⟨b1, b2⟩ := List.pairwise_cons.1 hm
      have hxy : x = y := by
        rcases List.mem_cons.1 ((hmem x).1 List.mem_cons_self) with e | hx
        · exact e
        · rcases List.mem_cons.1 ((hmem y).2 List.mem_cons_self) with e | hy
          · exact e.symm
          · have h1 := b1 x hx; have h2 := a1 y hy; omega
      subst hxy
      congr 1
      refine ih a2 b2 fun z => ⟨fun hz => ?_, fun hz => ?_⟩
      · rcases List.mem_cons.1 ((hmem z).1 (List.mem_cons_of_mem _ hz)) with e | h
        · subst e; have := a1 _ hz; omega
        · exact h
      · rcases List.mem_cons.1 ((hmem z).2 (List.mem_cons_of_mem _ hz)) with e | h
        · subst e; have := b1 _ hz; omega
        · exact h
/-- the numbers that the names' files have, from the function's side -/
theorem mem_idsP' (F : Fd) (i : Int) : i ∈ idsP F ↔ (∃ s, findP F.l s = some i) ∨ ∃ c ∈ F.p, c.k = 1 ∧ c.id = i := by
  have key : ∀ m, (∃ s, aftF F m s = some i) → (∃ s, findP F.l s = some i) ∨ ∃ c ∈ F.p, c.k = 1 ∧ c.id = i := by
    intro m
    induction m with
    | zero => exact Or.inl
    | succ m ih =>
      by_cases hm : m < F.p.length
      · rintro ⟨s, hs⟩
        rw [aftF_step hm] at hs
        have hc : F.p.getD m cg0 ∈ F.p := by rw [List.getD_eq_getElem?_getD, List.getElem?_eq_getElem hm]; exact List.getElem_mem hm
        generalize F.p.getD m cg0 = c at *
        unfold chgF at hs
        split at hs
        · split at hs
          · rename_i h1 _
            simp only [Option.some.injEq] at hs
            exact Or.inr ⟨c, hc, h1, hs⟩
          · exact ih ⟨s, hs⟩
        · split at hs
          · exact ih ⟨s, hs⟩
          · rename_i j hj
            split at hs
            · split at hs
              · simp only [Option.some.injEq] at hs
                subst hs
                exact ih ⟨_, hj⟩
              · split at hs
                · cases hs
                · exact ih ⟨s, hs⟩
            · split at hs
              · split at hs
                · cases hs
                · exact ih ⟨s, hs⟩
              · exact ih ⟨s, hs⟩
      · intro h
        have e : aftF F (m + 1) = aftF F m := by
          unfold aftF
          rw [List.take_of_length_le (by omega), List.take_of_length_le (by omega)]
        rw [e] at h
        exact ih h
  rw [mem_idsP]
  constructor
  · rintro ⟨m, _, x, hx, rfl⟩
    obtain ⟨h1, h2⟩ := beh_both F m
    refine key m ⟨x.s, ?_⟩
    rw [← h2]
    exact (find_mem h1 _ _).2 hx
  · rintro (⟨s, hs⟩ | ⟨c, hc, h1, h2⟩)
    · obtain ⟨h3, h4⟩ := beh_both F 0
      refine ⟨0, by omega, ⟨s, i⟩, (find_mem h3 _ _).1 ?_, rfl⟩
      rw [h4]; exact hs
    · obtain ⟨m, hm, rfl⟩ := List.getElem_of_mem hc
      obtain ⟨h3, h4⟩ := beh_both F (m + 1)
      refine ⟨m + 1, by omega, ⟨F.p[m].a, i⟩, (find_mem h3 _ _).1 ?_, rfl⟩
      rw [h4, aftF_step hm, List.getD_eq_getElem?_getD, List.getElem?_eq_getElem hm]
      unfold chgF
      dsimp only [Option.getD_some]
      rw [if_pos h1, if_pos rfl, h2]
theorem behP_ids (F : Fd) (n : Nat) : ∀ x ∈ behP F n, x.id ∈ idsP F := by
  intro x hx
  rw [mem_idsP]
  by_cases h : n ≤ F.p.length
  · exact ⟨n, h, x, hx, rfl⟩
  · refine ⟨F.p.length, Nat.le_refl _, x, ?_, rfl⟩
    rw [behP_all (by omega)] at hx
    exact hx

/-! ### a change -/
def errP (disk : List Int → Bool) (F : Fd) (c : Cg) : Int :=
  if c.k = 1 then (if disk (numsOf c.a) = false then 12 else if (findP (nowQ F) c.a).isSome = true then 7 else 0)
  else if c.k = 2 then (if (findP (nowQ F) c.a).isSome = false then 6 else if disk (numsOf c.b) = false then 12 else 0)
  else if c.k = 3 then (if (findP (nowQ F) c.a).isSome = false then 6 else 0)
  else 2
def doP (disk : List Int → Bool) (F : Fd) (c : Cg) : Fd := if errP disk F c = 0 then ⟨F.l, F.p ++ [c]⟩ else F
end Go.Proofs.YtncbgddgkpaoeaaGreat

namespace Go.Proofs.YtncbgddgkpaoeaaGreat
set_option linter.unusedVariables false

/-- a change: where, whether it cuts, the bytes -/
structure Ch where
  off : Int
  cut : Bool
  dat : List Int
def rightP (c : Ch) : Bool := decide (0 ≤ c.off ∧ c.off ≤ 1048576 - (c.dat.length : Int))
/-- bytes written from a place on, bytes 0 before them where there are none -/
def putP (b : List Int) (o : Nat) (d : List Int) : List Int :=
  if d = [] then b else b.take o ++ List.replicate (o - b.length) 0 ++ d ++ b.drop (o + d.length)
/-- a change, of whose bytes the first m survive -/
def appP (b : List Int) (c : Ch) (m : Nat) : List Int :=
  if rightP c = false then b else if c.cut = true then b.take c.off.toNat else putP b c.off.toNat (c.dat.take m)
def allP (b : List Int) (l : List Ch) : List Int := l.foldl (fun b c => appP b c c.dat.length) b
/-- how many bytes of a change survive by a choice -/
def mostP (c : Ch) (x : Int) : Nat := if x = 255 then c.dat.length else x.toNat
def surP : List Int → List Ch → List Int → List Int
  | b, [], _ => b
  | b, _ :: _, [] => b
  | b, c :: l, x :: ch => surP (if 0 < x then appP b c (mostP c x) else b) l ch
def peakOne (n : Int) (c : Ch) : Int := if rightP c = true ∧ c.cut = false ∧ c.dat ≠ [] ∧ n < c.off + c.dat.length then c.off + c.dat.length else n
def peakP (n : Int) (l : List Ch) : Int := l.foldl peakOne n

theorem putP_nil (b : List Int) (o : Nat) : putP b o [] = b := by simp [putP]
theorem putP_length (b : List Int) (o : Nat) {d : List Int} (h : d ≠ []) : (putP b o d).length = max b.length (o + d.length) := by
  rw [putP, if_neg h]
  have : 0 < d.length := List.length_pos_iff.2 h
  simp only [List.length_append, List.length_take, List.length_replicate, List.length_drop]
  omega
theorem putP_getD (b : List Int) (o : Nat) (d : List Int) (j : Nat) : (putP b o d).getD j 0 = if o ≤ j ∧ j < o + d.length then d.getD (j - o) 0 else b.getD j 0 := by
  by_cases h : d = []
  · subst h
    rw [putP_nil, if_neg (by simp <;> omega)]
  · have hd : 0 < d.length := List.length_pos_iff.2 h
    rw [putP, if_neg h]
    simp only [List.getD_eq_getElem?_getD]
    by_cases h1 : j < o
    · rw [if_neg (by omega)]
      by_cases h2 : j < b.length
      · rw [List.append_assoc, List.append_assoc, List.getElem?_append_left (by rw [List.length_take]; omega), List.getElem?_take_of_lt h1]
      · rw [List.append_assoc, List.getElem?_append_left (by simp; omega), List.getElem?_append_right (by rw [List.length_take]; omega), List.getElem?_eq_none (l := b) (by omega)]
        rw [List.getElem?_replicate]
        split <;> rfl
    · have hl : (b.take o ++ List.replicate (o - b.length) 0).length = o := by simp; omega
      by_cases h2 : j < o + d.length
      · rw [if_pos ⟨by omega, h2⟩, List.append_assoc, List.getElem?_append_right (by rw [hl]; omega), hl, List.getElem?_append_left (by omega)]
      · rw [if_neg (by omega), List.append_assoc, List.getElem?_append_right (by rw [hl]; omega), hl, List.getElem?_append_right (by omega), List.getElem?_drop]
        congr 2; omega
theorem ext_getD {a b : List Int} (hl : a.length = b.length) (h : ∀ j, j < a.length → a.getD j 0 = b.getD j 0) : a = b := by
  apply List.ext_getElem hl
  intro i h1 h2
  have := h i h1
  simpa [List.getD_eq_getElem?_getD, h1, h2] using this
/-- one more byte -/
theorem putP_step (b : List Int) (o : Nat) (d : List Int) (k : Nat) (hk : k < d.length) :
    putP b o (d.take (k + 1)) = (putP b o (d.take k) ++ List.replicate (o + k + 1 - (putP b o (d.take k)).length) 0).set (o + k) (d.getD k 0) := by
  have hl1 : (d.take (k + 1)).length = k + 1 := by rw [List.length_take]; omega
  have hne : d.take (k + 1) ≠ [] := fun h => by rw [h] at hl1; simp at hl1
  have hl0 : (d.take k).length = k := by rw [List.length_take]; omega
  have hlk : (putP b o (d.take k)).length = if k = 0 then b.length else max b.length (o + k) := by
    by_cases h0 : k = 0
    · subst h0; simp [putP]
    · rw [if_neg h0, putP_length _ _ (fun h => by have := congrArg List.length h; rw [hl0] at this; simp at this; omega), hl0]
  refine ext_getD ?_ fun j hj => ?_
  · rw [putP_length _ _ hne, List.length_set, List.length_append, List.length_replicate, hl1, hlk]
    split <;> omega
  · rw [putP_getD, hl1]
    rw [putP_length _ _ hne, hl1] at hj
    have hset : ((putP b o (d.take k) ++ List.replicate (o + k + 1 - (putP b o (d.take k)).length) 0).set (o + k) (d.getD k 0)).getD j 0 = if j = o + k then d.getD k 0 else (putP b o (d.take k)).getD j 0 := by
      simp only [List.getD_eq_getElem?_getD]
      rw [List.getElem?_set]
      by_cases e : o + k = j
      · have hlt : o + k < (putP b o (d.take k) ++ List.replicate (o + k + 1 - (putP b o (d.take k)).length) 0).length := by
          rw [List.length_append, List.length_replicate]; omega
        rw [if_pos e, if_pos hlt, if_pos e.symm]; rfl
      · rw [if_neg e, if_neg (fun h => e h.symm)]
        by_cases h2 : j < (putP b o (d.take k)).length
        · rw [List.getElem?_append_left h2]
        · rw [List.getElem?_append_right (by omega), List.getElem?_eq_none (l := putP b o (d.take k)) (by omega), List.getElem?_replicate]
          split <;> rfl
    rw [hset, putP_getD, hl0]
    have ht : ∀ q m, q < m → (d.take m).getD q 0 = d.getD q 0 := fun q m hq => by
      rw [List.getD_eq_getElem?_getD, List.getElem?_take_of_lt hq, List.getD_eq_getElem?_getD]
    by_cases e : j = o + k
    · subst e
      rw [if_pos (by omega), if_pos rfl, show o + k - o = k by omega, ht k (k + 1) (by omega)]
    · rw [if_neg e]
      by_cases h2 : o ≤ j ∧ j < o + k
      · rw [if_pos (by omega), if_pos h2, ht _ _ (by omega), ht _ _ (by omega)]
      · rw [if_neg (by omega), if_neg h2]

/-- everything survives -/
theorem surP_all (b : List Int) (l : List Ch) : surP b l (List.replicate l.length 255) = allP b l := by
  induction l generalizing b with
  | nil => rfl
  | cons c l ih =>
    show surP (if (0 : Int) < 255 then appP b c (mostP c 255) else b) l (List.replicate l.length 255) = allP (appP b c c.dat.length) l
    rw [if_pos (by decide), ih]
    rfl
theorem surP_none (b : List Int) (l : List Ch) : surP b l [] = b := by cases l <;> rfl
theorem peakP_ge (l : List Ch) : ∀ n : Int, n ≤ peakP n l := by
  induction l with
  | nil => intro n; exact Int.le_refl _
  | cons c l ih =>
    intro n
    have h1 : n ≤ peakOne n c := by unfold peakOne; split <;> omega
    exact Int.le_trans h1 (ih _)
theorem peakP_mono (l : List Ch) : ∀ {n m : Int}, n ≤ m → peakP n l ≤ peakP m l := by
  induction l with
  | nil => intro n m h; exact h
  | cons c l ih =>
    intro n m h
    refine ih ?_
    unfold peakOne
    by_cases h1 : rightP c = true ∧ c.cut = false ∧ c.dat ≠ [] ∧ n < c.off + c.dat.length
    · by_cases h2 : rightP c = true ∧ c.cut = false ∧ c.dat ≠ [] ∧ m < c.off + c.dat.length
      · rw [if_pos h1, if_pos h2]; omega
      · have h3 : ¬ m < c.off + c.dat.length := fun h => h2 ⟨h1.1, h1.2.1, h1.2.2.1, h⟩
        rw [if_pos h1, if_neg h2]; omega
    · rw [if_neg h1]; split <;> omega
/-- no change leads above the peak -/
theorem appP_peak (b : List Int) (c : Ch) (m : Nat) : ((appP b c m).length : Int) ≤ peakOne b.length c := by
  unfold appP
  by_cases h1 : rightP c = false
  · rw [if_pos h1]; unfold peakOne; split <;> omega
  · rw [if_neg h1]
    have hr : rightP c = true := by simpa using h1
    by_cases h2 : c.cut = true
    · rw [if_pos h2, List.length_take]; unfold peakOne; split <;> omega
    · rw [if_neg h2]
      have hc : c.cut = false := by simpa using h2
      by_cases h3 : c.dat.take m = []
      · rw [h3, putP_nil]; unfold peakOne; split <;> omega
      · rw [putP_length _ _ h3, List.length_take]
        have hd : c.dat ≠ [] := fun h => h3 (by rw [h]; simp)
        have ho : 0 ≤ c.off := by unfold rightP at hr; exact (of_decide_eq_true hr).1
        unfold peakOne
        by_cases h4 : (b.length : Int) < c.off + c.dat.length
        · rw [if_pos ⟨hr, hc, hd, h4⟩]; omega
        · rw [if_neg (fun h => h4 h.2.2.2)]; omega
theorem allP_peak (l : List Ch) : ∀ b : List Int, ((allP b l).length : Int) ≤ peakP b.length l := by
  induction l with
  | nil => intro b; exact Int.le_refl _
  | cons c l ih =>
    intro b
    exact Int.le_trans (ih (appP b c c.dat.length)) (peakP_mono l (appP_peak b c _))
theorem surP_peak (l : List Ch) : ∀ (b ch : List Int), ((surP b l ch).length : Int) ≤ peakP b.length l := by
  induction l with
  | nil => intro b ch; cases ch <;> exact Int.le_refl _
  | cons c l ih =>
    intro b ch
    cases ch with
    | nil => exact peakP_ge (c :: l) _
    | cons x ch =>
      show ((surP (if 0 < x then appP b c (mostP c x) else b) l ch).length : Int) ≤ peakP (peakOne b.length c) l
      refine Int.le_trans (ih _ ch) (peakP_mono l ?_)
      split
      · exact appP_peak b c _
      · unfold peakOne; split <;> omega
/-- of a first part of the changes the peak is not above that of all -/
theorem peakP_take (l : List Ch) (k : Nat) (n : Int) : peakP n (l.take k) ≤ peakP n l := by
  have h : peakP n l = peakP (peakP n (l.take k)) (l.drop k) := by
    conv => lhs; rw [← List.take_append_drop k l]
    unfold peakP
    rw [List.foldl_append]
  rw [h]
  exact peakP_ge _ _
end Go.Proofs.YtncbgddgkpaoeaaGreat

namespace Go.Proofs.YtncbgddgkpaoeaaGreat
set_option linter.unusedVariables false
open Go.RowKit Go.Lib

theorem numsOf_getD (s : ByteArray) (pos : Nat) (h : pos < s.size) : (numsOf s).getD pos 0 = ((s[pos]'h).toNat : Int) := by
  have h1 : pos < s.data.toList.length := by simpa using h
  simp only [numsOf, List.getD_eq_getElem?_getD, List.getElem?_map, List.getElem?_eq_getElem h1, Option.map_some, Option.getD_some]
  rfl

theorem run_index_nums (W : World) (s : ByteArray) (i : Nat) (h : i < s.size) :
    (Instr.index 9 (.string s) (.int .i64 (i : Int))).run Tryz.prog W = .ok (.int .u8 ((numsOf s).getD i 0)) W := by
  rw [run_index_string W 9 _ .i64 (i : Int) Tryz.underlying9, dif_pos ⟨by omega, by omega⟩, numsOf_getD s i h]
  rfl

end Go.Proofs.YtncbgddgkpaoeaaGreat
