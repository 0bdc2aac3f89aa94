/- Rows of plain values (structs of cells that lead nowhere): what a slice reads as, rows of the call's own, append; such arguments opened; Rows of numbers in memory; Rows of strings in memory; append, with the block of the answer: the old one, or a new one; Rows of numbers of the call's own: small facts; A row of structs that are stored to in place, one by one -/
import Derived.Test.YtpfbfhigelbfcaaGreatSd3
import Derived.Test.YtpfbfhigelbfcaaGreatSd9
import Derived.Great.BuildSlice
import Derived.Deep.Strs
set_option linter.unusedSimpArgs false
set_option linter.unusedVariables false
namespace Go.Proofs.YtpfbfhigelbfcaaGreat
open Go.RowKit Go.Lib
/-- how a value lies in cells -/
structure Ec (α : Type) where
 f : α → List Value
 k : Nat
 t : TypeId
 d : α
 len : ∀ x, (f x).length = k
 one : ∀ x, ∀ v ∈ f x, v.oneCell' = true
 pos : 0 < k
variable {α : Type}
def Ec.flat (E : Ec α) : List α → List Value
 | [] => []
 | x :: L => E.f x ++ E.flat L
theorem Ec.flat_append (E : Ec α) (L M : List α) : E.flat (L ++ M) = E.flat L ++ E.flat M := by
 induction L with
 | nil => rfl
 | cons x L ih => simp [Ec.flat, ih]
theorem Ec.flat_length (E : Ec α) (L : List α) : (E.flat L).length = L.length * E.k := by
 induction L with
 | nil => simp [Ec.flat]
 | cons x L ih => rw [Ec.flat, List.length_append, ih, E.len, List.length_cons, Nat.succ_mul]; omega
theorem Ec.flat_one (E : Ec α) {L : List α} {u : Value} (h : u ∈ E.flat L) : u.oneCell' = true := by
 induction L with
 | nil => simp [Ec.flat] at h
 | cons x L ih =>
   rw [Ec.flat, List.mem_append] at h
   exact h.elim (E.one x u) ih
theorem Ec.flat_get (E : Ec α) : ∀ (L : List α) (j i : Nat), j < L.length → i < E.k → (E.flat L)[j * E.k + i]? = (E.f (L.getD j E.d))[i]?
 | [], j, i, hj, _ => by simp at hj
 | x :: L, 0, i, _, hi => by
   rw [Ec.flat, Nat.zero_mul, Nat.zero_add, List.getElem?_append_left (by rw [E.len]; exact hi)]
   rfl
 | x :: L, j + 1, i, hj, hi => by
   have hl := E.len x
   rw [Ec.flat, List.getElem?_append_right (by rw [hl, Nat.succ_mul]; omega), hl, show (j + 1) * E.k + i - E.k = j * E.k + i by rw [Nat.succ_mul]; omega, E.flat_get L j i (by simpa using hj) hi]
   rfl
/-- Values that a slice reads as. -/
def Gs (E : Ec α) (w : World) (p : Option Addr) (n : Nat) (L : List α) : Prop :=
 L.length = n ∧ (n = 0 ∨ ∃ b off, p = some ⟨b, off, none⟩ ∧ ∀ j, j < n → ∀ i u, (E.f (L.getD j E.d))[i]? = some u → w.cell? ⟨b, off + j * E.k + i, none⟩ = some u)
theorem Gs.len {E : Ec α} {w : World} {p : Option Addr} {n : Nat} {L : List α} (h : Gs E w p n L) : L.length = n := h.1
theorem Gs.empty (E : Ec α) (w : World) (p : Option Addr) : Gs E w p 0 [] := ⟨rfl, Or.inl rfl⟩
theorem Ec.first (E : Ec α) (x : α) : ∃ u, (E.f x)[0]? = some u := by
 have h : 0 < (E.f x).length := by rw [E.len]; exact E.pos
 exact ⟨_, List.getElem?_eq_getElem h⟩
theorem Gs.block_lt {E : Ec α} {w : World} {b off n : Nat} {L : List α} (h : Gs E w (some ⟨b, off, none⟩) n L) (hn : 0 < n) : b < w.heap.size := by
 rcases h.2 with h0 | ⟨b', off', hp, hc⟩
 ·omega
 ·simp only [Option.some.injEq, Addr.mk.injEq, and_true] at hp
  obtain ⟨rfl, rfl⟩ := hp
  obtain ⟨u, hu⟩ := E.first (L.getD 0 E.d)
  exact World.block_lt_of_cell? w _ (hc 0 hn 0 u hu)
theorem Gs.later {E : Ec α} {w w' : World} {p : Option Addr} {n : Nat} {L : List α} (h : Gs E w p n L) (hb : Below w.heap.size w w') : Gs E w' p n L := by
 obtain ⟨h1, h3⟩ := h
 refine ⟨h1, ?_⟩
 rcases h3 with h3 | ⟨b, off, hp, hc⟩
 ·exact Or.inl h3
 ·refine Or.inr ⟨b, off, hp, fun j hj i u hu => ?_⟩
  have h4 := hc j hj i u hu
  rw [hb.cell (World.block_lt_of_cell? w _ h4)]
  exact h4
theorem Gs.ptr {E : Ec α} {w : World} {p : Option Addr} {n : Nat} {L : List α} (h : Gs E w p n L) (j : Nat) (hj : j < n) :
 ∃ b off, p = some ⟨b, off, none⟩ ∧ ∀ i u, (E.f (L.getD j E.d))[i]? = some u → w.cell? ⟨b, off + j * E.k + i, none⟩ = some u := by
 rcases h.2 with h3 | ⟨b, off, hp, hc⟩
 ·omega
 ·exact ⟨b, off, hp, hc j hj⟩
theorem Gs.take {E : Ec α} {w : World} {p : Option Addr} {n : Nat} {L : List α} (h : Gs E w p n L) (m : Nat) (hm : m ≤ n) : Gs E w p m (L.take m) := by
 obtain ⟨h1, h3⟩ := h
 refine ⟨by rw [List.length_take]; omega, ?_⟩
 rcases h3 with h3 | ⟨b, off, hp, hc⟩
 ·exact Or.inl (by omega)
 ·refine Or.inr ⟨b, off, hp, fun j hj => ?_⟩
  have e : (L.take m).getD j E.d = L.getD j E.d := by rw [List.getD_eq_getElem?_getD, List.getElem?_take_of_lt hj, List.getD_eq_getElem?_getD]
  rw [e]
  exact hc j (by omega)
/-- where a block that is no row of cells has turned -/
theorem Gs.beside {E : Ec α} {w w' : World} {g : Nat} {p : Option Addr} {n : Nat} {L : List α} (h : Gs E w p n L) (hg : ∀ o u, w.cell? ⟨g, o, none⟩ ≠ some u) (hb : w.grownBy w' (some g)) : Gs E w' p n L := by
 obtain ⟨h1, h3⟩ := h
 refine ⟨h1, ?_⟩
 rcases h3 with h3 | ⟨b, off, hp, hc⟩
 ·exact Or.inl h3
 ·refine Or.inr ⟨b, off, hp, fun j hj i u hu => ?_⟩
  have h4 := hc j hj i u hu
  refine hb.cell h4 fun e => ?_
  simp only [Option.some.injEq] at e
  exact hg _ _ (by rw [← e]; exact h4)
/-- A row of the call's own from block B on, whose first elements are these values. -/
def Gw (E : Ec α) (w : World) (B : Nat) (v : Value) (L : List α) : Prop := w.ownsRow B E.t E.k v L.length (E.flat L)
theorem Gw.nil (E : Ec α) (w : World) (B : Nat) : Gw E w B (.slice none 0 0) [] := World.ownsRow_nil w B _ _
theorem Gw.empty (E : Ec α) (w : World) (B : Nat) (hB : B ≤ w.heap.size) : Gw E (w.alloc (.cells #[] E.t)) B (.slice (some ⟨w.heap.size, 0, none⟩) 0 0) [] :=
 World.ownsRow_made w #[] 0 hB (Nat.zero_le _) (by simp)
theorem Gw.open {E : Ec α} {w : World} {B : Nat} {v : Value} {L : List α} (h : Gw E w B v L) :
 ∃ p cap, v = .slice p L.length cap ∧ L.length ≤ cap ∧ cap ≤ maxLen ∧ Gs E w p L.length L ∧ (p = none → cap = 0) := by
 have h' := h
 obtain ⟨hl, h2⟩ := h
 rcases h2 with ⟨rfl, h0⟩ | ⟨g, cap, cur, rfl, hB, hg, hn, hm, hs, ht⟩
 ·exact ⟨none, 0, by rw [h0], by omega, by simp, ⟨rfl, Or.inl h0⟩, fun _ => rfl⟩
 ·refine ⟨_, cap, rfl, hn, hm, ⟨rfl, Or.inr ⟨g, 0, rfl, fun j hj i u hu => ?_⟩⟩, by simp⟩
  have hi : i < E.k := by
   have := (List.getElem?_eq_some_iff.1 hu).1
   rwa [E.len] at this
  have h3 := World.ownsRow.cells h' (g := g) rfl (j * E.k + i) u (by rw [E.flat_get L j i hj hi]; exact hu)
  simp only [WideShapes.add_plain] at h3
  rw [Nat.add_assoc]
  exact h3
theorem Gw.later {E : Ec α} {w w' : World} {B : Nat} {v : Value} {L : List α} (h : Gw E w B v L) (hb : Below w.heap.size w w') : Gw E w' B v L := by
 obtain ⟨hl, h2⟩ := h
 refine ⟨hl, ?_⟩
 rcases h2 with h2 | ⟨g, cap, cur, hv, hB, hg, r⟩
 ·exact Or.inl h2
 ·have hlt : g < w.heap.size := (Array.getElem?_eq_some_iff.1 hg).1
  exact Or.inr ⟨g, cap, cur, hv, hB, by rw [hb.block g hlt]; exact hg, r⟩
theorem Gw.alloc {E : Ec α} {w : World} {B : Nat} {v : Value} {L : List α} (h : Gw E w B v L) (o : Obj) : Gw E (w.alloc o) B v L := h.later ((Below.refl _ _).alloc (Nat.le_refl _) _)
theorem Gw.mono {E : Ec α} {w : World} {B B' : Nat} {v : Value} {L : List α} (h : Gw E w B v L) (hB : B' ≤ B) : Gw E w B' v L := by
 obtain ⟨hl, h2⟩ := h
 refine ⟨hl, ?_⟩
 rcases h2 with h2 | ⟨g, cap, cur, hv, hb, r⟩
 ·exact Or.inl h2
 ·exact Or.inr ⟨g, cap, cur, hv, by omega, r⟩
/-- kept, while its own block is -/
theorem Gw.kept {E : Ec α} {w w' : World} {B : Nat} {v : Value} {L : List α} {row : Option Nat} (h : Gw E w B v L) (hg : w.grownBy w' row) (hne : ∀ b, v.ownBlock = some b → some b ≠ row) : Gw E w' B v L := by
 obtain ⟨hl, h2⟩ := h
 refine ⟨hl, ?_⟩
 rcases h2 with h2 | ⟨g, cap, cur, hv, hB, hgb, r⟩
 ·exact Or.inl h2
 ·have hlt : g < w.heap.size := (Array.getElem?_eq_some_iff.1 hgb).1
  exact Or.inr ⟨g, cap, cur, hv, hB, by rw [hg.block g hlt (hne g (by rw [hv]; rfl))]; exact hgb, r⟩
theorem Gw.gs {E : Ec α} {w : World} {B n c : Nat} {p : Option Addr} {L : List α} (h : Gw E w B (.slice p n c) L) : Gs E w p n L := by
 obtain ⟨p', c', hv, _, _, h3, _⟩ := h.open
 simp only [Value.slice.injEq] at hv
 obtain ⟨rfl, rfl, rfl⟩ := hv
 exact h3
theorem Gw.len {E : Ec α} {w : World} {B n c : Nat} {p : Option Addr} {L : List α} (h : Gw E w B (.slice p n c) L) : L.length = n := h.gs.1
theorem Gw.ptr {E : Ec α} {w : World} {B n cap : Nat} {p : Option Addr} {L : List α} (h : Gw E w B (.slice p n cap) L) (hn : 0 < n) : ∃ g, p = some ⟨g, 0, none⟩ := by
 rcases h.2 with ⟨hv, h0⟩ | ⟨g, cap', cur, hv, _⟩
 ·simp only [Value.slice.injEq] at hv; omega
 ·simp only [Value.slice.injEq] at hv; exact ⟨g, hv.1⟩
theorem Gw.block {E : Ec α} {w : World} {B g n c : Nat} {L : List α} (h : Gw E w B (.slice (some ⟨g, 0, none⟩) n c) L) :
 n = L.length ∧ B ≤ g ∧ n ≤ c ∧ c ≤ maxLen ∧ ∃ cur, w.heap[g]? = some (.cells cur E.t (0, 0)) ∧ cur.size = c * E.k ∧ cur.toList.take (n * E.k) = E.flat L := by
 obtain ⟨hl, h2⟩ := h
 rcases h2 with ⟨h3, _⟩ | ⟨g', c', cur, hv, hB, hg, hn, hm, hs, ht⟩
 ·cases h3
 ·simp only [Value.slice.injEq, Option.some.injEq, Addr.mk.injEq, and_true] at hv
  obtain ⟨rfl, rfl, rfl⟩ := hv
  exact ⟨rfl, hB, hn, hm, cur, hg, hs, ht⟩
theorem Gw.mk {E : Ec α} {w : World} {B g c : Nat} {L : List α} (hB : B ≤ g) (hn : L.length ≤ c) (hm : c ≤ maxLen) {cur : Array Value} (hg : w.heap[g]? = some (.cells cur E.t (0, 0))) (hs : cur.size = c * E.k) (ht : cur.toList.take (L.length * E.k) = E.flat L) :
 Gw E w B (.slice (some ⟨g, 0, none⟩) L.length c) L := ⟨E.flat_length L, Or.inr ⟨g, c, cur, rfl, hB, hg, hn, hm, hs, ht⟩⟩
theorem below_new_gw {E : Ec α} {B : Nat} {a w w' : World} {v : Value} {L : List α} (hb : Below B a w) (ho : Gw E w B v L) (h : w.grownBy w' v.ownBlock) (hB : B ≤ w.heap.size) : Below B a w' :=
 hb.grown h hB (fun j hj => (World.ownsRow.lt ho j hj).1)
/-- one value, just laid -/
theorem Gs.one (E : Ec α) (w : World) (x : α) (cs : Array Value) (hcs : cs.toList = E.f x) (t : TypeId) (fr : Nat × Nat) : Gs E (w.alloc (.cells cs t fr)) (some ⟨w.heap.size, 0, none⟩) 1 [x] := by
 refine ⟨rfl, Or.inr ⟨w.heap.size, 0, rfl, fun j hj i u hu => ?_⟩⟩
 obtain rfl : j = 0 := by omega
 rw [cell_of_row _ _ _ cs t fr (heap_alloc_new _ _)]
 have e : ([x] : List α).getD 0 E.d = x := rfl
 rw [e, ← hcs] at hu
 simpa using hu
variable {P : Program}
/-- 'append(s, x...)', s of the call's own, x any values: at one operation. -/
theorem wp_append_gen (E : Ec α) {w : World} {o : Oper} {a : Act} {K : Act → World → Prop} {Q : Exit → Act → World → Prop} (s x : Operand) (t : TypeId)
 (ho : o.op = .call { callee := .builtin .append, args := #[s, x], argTypes := #[t, t] }) (ht : P.underlying t = some (.slice E.t))
 (z : Value) (by_ : Nat) (hinfo : (P.info? E.t).map (fun i => (i.zero, i.size, i.bytes)) = some (some z, E.k, by_)) (hzs : z.cells.size = E.k) (hby : by_ ≤ 4096)
 (B : Nat) (v : Value) (L : List α) (hs : a.eval s = v) (hob : Gw E w B v L) (p : Option Addr) (m c : Nat) (M : List α) (hx : a.eval x = .slice p m c) (hbs : Gs E w p m M) (hpc : p = none → c = 0)
 (hbytes : L.length + m ≤ 2097216) (hB : B ≤ w.heap.size)
 (h : ∀ v' w', Gw E w' B v' (L ++ M) → w.grownBy w' v.ownBlock → K (a.put o.dst v') w') : o.wp P a w K Q := by
 obtain ⟨i, hi, hzz⟩ := Option.map_eq_some_iff.1 hinfo
 simp only [Prod.mk.injEq] at hzz
 obtain ⟨hz, hsz, hb⟩ := hzz
 obtain ⟨hy1, hy3⟩ := hbs
 cases p with
 | none =>
   obtain rfl := hpc rfl
   have hm : m = 0 := by
    rcases hy3 with h0 | ⟨_, _, hh, _⟩
    ·exact h0
    ·cases hh
   subst hm
   obtain rfl : M = [] := List.length_eq_zero_iff.1 hy1
   have hrun := run_append_owned_none (P := P) (w := w) B t o.type E.t i E.k ht hi v _ _ hob
   unfold Oper.wp
   simp [execOp, ho, resolve, invoke, builtin, hs, hx, hrun, Result.andThen]
   exact h _ _ (by rw [List.append_nil]; exact hob) ⟨rfl, rfl, rfl, Nat.le_refl _, fun _ _ _ => rfl⟩
 | some ad =>
   have hbb : (L.length + m) * by_ ≤ 140737488355328 := Nat.le_trans (Nat.mul_le_mul hbytes hby) (by decide)
   refine wp_append_own _ s x t ho B E.t i z E.k by_ ht hi hz hsz hb hzs E.pos v _ _ hs hob ad m c (E.flat M) hx (by rw [E.flat_length, hy1]) ?_ (fun u hu => E.flat_one hu) (by unfold maxLen; omega) hbb hB ?_
   ·intro j u hu
    have hj : j < m * E.k := by
     have := (List.getElem?_eq_some_iff.1 hu).1
     rw [E.flat_length, hy1] at this
     exact this
    rcases hy3 with h0 | ⟨b, off, hp, hc⟩
    ·rw [h0] at hj; omega
    ·obtain rfl : ad = ⟨b, off, none⟩ := by simpa using hp
     have hd : j / E.k < m := Nat.div_lt_of_lt_mul (by rw [Nat.mul_comm]; exact hj)
     have hm2 : j % E.k < E.k := Nat.mod_lt _ E.pos
     have e0 : j / E.k * E.k + j % E.k = j := by rw [Nat.mul_comm]; exact Nat.div_add_mod j E.k
     have hu' := hu
     rw [← e0, E.flat_get M _ _ (by rw [hy1]; exact hd) hm2] at hu'
     have := hc _ hd _ u hu'
     rw [Nat.add_assoc, e0] at this
     rw [WideShapes.add_plain]
     exact this
   ·intro v' w' h1 h2 _
    refine h v' w' ?_ h2
    unfold Gw
    rw [List.length_append, hy1, E.flat_append]
    exact h1
theorem wpList_append_gen (E : Ec α) {w : World} {ops : Array Oper} {rest : List Oper} {o : Oper} {a : Act} {Q : Exit → Act → World → Prop} (hgd : o.guard = none) (s x : Operand) (t : TypeId)
 (ho : o.op = .call { callee := .builtin .append, args := #[s, x], argTypes := #[t, t] }) (ht : P.underlying t = some (.slice E.t))
 (z : Value) (by_ : Nat) (hinfo : (P.info? E.t).map (fun i => (i.zero, i.size, i.bytes)) = some (some z, E.k, by_)) (hzs : z.cells.size = E.k) (hby : by_ ≤ 4096)
 (B : Nat) (v : Value) (L : List α) (hs : a.eval s = v) (hob : Gw E w B v L) (p : Option Addr) (m c : Nat) (M : List α) (hx : a.eval x = .slice p m c) (hbs : Gs E w p m M) (hpc : p = none → c = 0)
 (hbytes : L.length + m ≤ 2097216) (hB : B ≤ w.heap.size)
 (h : ∀ v' w', Gw E w' B v' (L ++ M) → w.grownBy w' v.ownBlock → wpList P ops Q rest (a.put o.dst v') w') : wpList P ops Q (o :: rest) a w :=
 wpList_plain hgd fun _ hK => wp_append_gen E s x t ho ht z by_ hinfo hzs hby B v L hs hob p m c M hx hbs hpc hbytes hB fun v' w' h1 h2 => hK _ _ (h v' w' h1 h2)
/-! ### arguments -/
theorem bulk_sum {H : Type} (sz : α → Nat) : ∀ (ys : List (DataW H × List MemPlace)) (L : List α), ys.length = L.length → (∀ (i : Nat) (y : DataW H × List MemPlace) (x : α), ys[i]? = some y → L[i]? = some x → sz x ≤ Rows.uptoBulk y.1) → (L.map sz).sum ≤ Rows.uptoBulkAll (ys.map (·.1))
 | [], [], _, _ => by simp
 | [], _ :: _, h, _ => by simp at h
 | _ :: _, [], h, _ => by simp at h
 | y :: ys, x :: L, h, hb => by
   have h1 := hb 0 y x rfl rfl
   have h2 := bulk_sum sz ys L (by simpa using h) (fun i y' x' h3 h4 => hb (i + 1) y' x' (by simpa using h3) (by simpa using h4))
   simp only [List.map_cons, Rows.uptoBulkAll, List.sum_cons]
   omega
theorem sum_len {sz : α → Nat} (h : ∀ x, 1 ≤ sz x) (L : List α) : L.length ≤ (L.map sz).sum := by
 induction L with
 | nil => simp
 | cons x L ih => have := h x; simp only [List.map_cons, List.sum_cons, List.length_cons]; omega
/-- A row of values, opened, with what it weighs. -/
theorem open_gs (E : Ec α) {H : Type} {enc : TypeId × Value → H} {W : World} {base : Nat} {held : Bool} {fuel : Nat} {T : TypeId} {a0 : Option Addr} {len cap : Nat} {x : DataW H × List MemPlace} (hT : Tryz.prog.underlying T = some (.slice E.t)) (hcell : Tryz.prog.cellsOf E.t = E.k)
 (sz : α → Nat) (ok : α → Prop) (hel : ∀ (fuel : Nat) (cs : List Value) (y : DataW H × List MemPlace), DataW.trod enc Tryz.prog W base (fun _ => true) held fuel E.t cs = some y → ∃ q : α, cs = E.f q ∧ ok q ∧ sz q ≤ Rows.uptoBulk y.1)
 (h : DataW.trod enc Tryz.prog W base (fun _ => true) held fuel T [.slice a0 len cap] = some x) :
 len ≤ cap ∧ cap ≤ maxLen ∧ (a0 = none → cap = 0) ∧ ∃ L, Gs E W a0 len L ∧ (∀ q ∈ L, ok q) ∧ (L.map sz).sum + 1 ≤ Rows.uptoBulk x.1 := by
 rcases DataW.trod_slice hT h with ⟨hcs, hx⟩ | ⟨a, len', cap', elems, rest, n, _, hcs, hx, hba, hl, hm, hel', hi, _, _⟩
 ·simp at hcs
  obtain ⟨rfl, rfl, rfl⟩ := hcs
  subst hx
  exact ⟨Nat.le_refl _, by simp, fun _ => rfl, [], Gs.empty E W _, by simp, by simp [Rows.uptoBulk]⟩
 ·simp at hcs
  obtain ⟨rfl, rfl, rfl⟩ := hcs
  rw [hcell] at hi
  have hc : ∀ i, i < len → ∃ q : α, (∀ j u, (E.f q)[j]? = some u → W.cell? ((a.add (i * E.k)).add j) = some u) ∧ ok q ∧ ∃ y, elems[i]? = some y ∧ sz q ≤ Rows.uptoBulk y.1 := by
   intro i hil
   have h1 := hi i hil
   have hy : elems[i]? = some (elems[i]'(by omega)) := List.getElem?_eq_getElem _
   rw [hy] at h1
   obtain ⟨cs, h2, h3⟩ := Option.bind_eq_some_iff.1 h1
   obtain ⟨q, hcs, hok, hb⟩ := hel _ _ _ h3
   obtain ⟨_, _, h4⟩ := World.cells?_some h2
   subst hcs
   refine ⟨q, fun j u hu => ?_, hok, _, hy, hb⟩
   have hj := (List.getElem?_eq_some_iff.1 hu).1
   rw [← hu]
   exact h4 j (by rw [E.len] at hj; exact hj)
  refine ⟨hl, hm, by simp, ?_⟩
  by_cases h0 : len = 0
  ·subst h0
   refine ⟨[], Gs.empty E W _, by simp, ?_⟩
   subst hx
   simp [Rows.uptoBulk]
  ·obtain ⟨b, off, spot⟩ := a
   have hspot : spot = none := by
    obtain ⟨q, h2, _⟩ := hc 0 (by omega)
    obtain ⟨u, hu⟩ := E.first q
    simpa [Addr.add] using World.cell?_spot (h2 0 u hu)
   subst hspot
   have hc' : ∀ i, ∃ q : α, i < len → (∀ j u, (E.f q)[j]? = some u → W.cell? ⟨b, off + i * E.k + j, none⟩ = some u) ∧ ok q ∧ ∃ y, elems[i]? = some y ∧ sz q ≤ Rows.uptoBulk y.1 := by
    intro i
    by_cases hil : i < len
    ·obtain ⟨q, h1, h2⟩ := hc i hil
     simp only [WideShapes.add_plain] at h1
     exact ⟨q, fun _ => ⟨h1, h2⟩⟩
    ·exact ⟨E.d, fun h => absurd h hil⟩
   let f : Nat → α := fun i => Classical.choose (hc' i)
   have hf : ∀ i, i < len → _ := fun i => Classical.choose_spec (hc' i)
   refine ⟨(List.range len).map f, ⟨by simp, Or.inr ⟨b, off, rfl, fun j hj => ?_⟩⟩, fun d hd => ?_, ?_⟩
   ·have e : ((List.range len).map f).getD j E.d = f j := by
     rw [List.getD_eq_getElem?_getD, List.getElem?_map, List.getElem?_range hj]
     rfl
    rw [e]
    exact (hf j hj).1
   ·obtain ⟨i, hil, rfl⟩ := List.mem_map.1 hd
    exact (hf i (List.mem_range.1 hil)).2.1
   ·have hs := bulk_sum sz elems ((List.range len).map f) (by simp; omega) (fun i y q h1 h2 => by
     have hil : i < len := by
      have := (List.getElem?_eq_some_iff.1 h2).1
      simpa using this
     rw [List.getElem?_map, List.getElem?_range hil] at h2
     simp only [Option.map_some, Option.some.injEq] at h2
     subst h2
     obtain ⟨y', h3, h4⟩ := (hf i hil).2.2
     rw [h1] at h3
     simp only [Option.some.injEq] at h3
     subst h3
     exact h4)
    subst hx
    simp only [Rows.uptoBulk]
    omega
theorem below_allocF {w0 w : World} (h : Below w0.heap.size w0 w) (o : Obj) : Below w0.heap.size w0 (w.alloc o) := h.alloc h.size o
def encI : Ec Int where
 f n := [.int .i64 n]
 k := 1
 t := 3
 d := 0
 len _ := rfl
 one x v hv := by
  simp only [List.mem_cons, List.not_mem_nil, or_false] at hv
  rcases hv with rfl; rfl
 pos := by decide
theorem infoI : (Tryz.prog.info? encI.t).map (fun i => (i.zero, i.size, i.bytes)) = some (some (.int .i64 0), encI.k, 8) := by kernel_rfl
theorem Gs.it {w : World} {p : Option Addr} {n : Nat} {L : List Int} (h : Gs encI w p n L) (j : Nat) (hj : j < n) : ∃ b off, p = some ⟨b, off, none⟩ ∧ w.cell? ⟨b, off + j, none⟩ = some (.int .i64 (L.getD j 0)) := by
 obtain ⟨b, off, hp, hc⟩ := h.ptr j hj
 have := hc 0 _ rfl
 rw [show encI.k = 1 from rfl, Nat.mul_one, Nat.add_zero] at this
 exact ⟨b, off, hp, this⟩
end Go.Proofs.YtpfbfhigelbfcaaGreat
namespace Go.Proofs.YtpfbfhigelbfcaaGreat
open Go.RowKit Go.Lib Go.Maps
end Go.Proofs.YtpfbfhigelbfcaaGreat
namespace Go.Proofs.YtpfbfhigelbfcaaGreat
open Go.RowKit Go.Lib
section
variable {P : Program} (w : World)
theorem run_append_ownF (base : Nat) (t ty e : TypeId) (i : TypeInfo) (z : Value) (size bytes : Nat) (ht : P.underlying t = some (.slice e)) (hi : P.info? e = some i) (hz : i.zero = some z)
 (hsize : i.size = size) (hby : i.bytes = bytes) (hzs : z.cells.size = size) (hsz : 0 < size)
 (v : Value) (n : Nat) (xs : List Value) (hown : w.ownsRow base e size v n xs)
 (a : Addr) (m c : Nat) (news : List Value) (hl : news.length = m * size) (hnews : ∀ j u, news[j]? = some u → w.cell? (a.add j) = some u) (h1 : ∀ u ∈ news, u.oneCell' = true)
 (h63 : n + m ≤ maxLen) (hbytes : (n + m) * bytes ≤ 140737488355328) (hbase : base ≤ w.heap.size) :
 ∃ v' w', (Builtin.append_ #[t, t] ty #[v, .slice (some a) m c]).run P w = .ok v' w' ∧ w'.ownsRow base e size v' (n + m) (xs ++ news) ∧ w.grownBy w' v.ownBlock ∧
   ∀ b, v'.ownBlock = some b → v.ownBlock = some b ∨ w.heap.size ≤ b := by
 obtain ⟨v', w', hr, h2, h3, h4⟩ := run_append_own (P := P) w base t ty e i z size bytes ht hi hz hsize hby hzs hsz v n xs hown a m c news hl hnews h1 h63 hbytes hbase
 refine ⟨v', w', hr, h2, h3, ?_⟩
 subst hsize
 subst hby
 have hsmall : n + m ≤ 9223372036854775807 := by simp only [maxLen] at h63; omega
 rcases hown.2 with ⟨rfl, rfl⟩ | ⟨g, cap, cur, rfl, hbg, hg, hnc, hcm, hcs, htake⟩
 ·by_cases hm : m = 0
  ·intro b hb
   rw [h4.2 ⟨rfl, hm⟩] at hb
   exact Or.inl hb
  ·have hr2 := run_append_nil (P := P) w t ty e i z ht hi hz a m c news hl hnews (by omega) (by omega) (by have hb := hbytes; simp only [Nat.zero_add] at hb; omega)
   rw [hr] at hr2
   simp only [Result.ok.injEq] at hr2
   intro b hb
   rw [hr2.1] at hb
   simp only [Value.ownBlock, Option.some.injEq] at hb
   exact Or.inr (Nat.le_of_eq hb)
 ·by_cases hroom : n + m ≤ cap
  ·have hfit : n * i.size + news.length ≤ cur.size := by rw [hl, hcs, ← Nat.add_mul]; exact Nat.mul_le_mul_right _ hroom
   have hr2 := run_append_room (P := P) w t ty e i ht hi g n cap cur hg a m c news hl hnews h1 hroom hfit
   rw [hr] at hr2
   simp only [Result.ok.injEq] at hr2
   intro b hb
   rw [hr2.1] at hb
   exact Or.inl hb
  ·have holds : ∀ j u, xs[j]? = some u → w.cell? ((⟨g, 0, none⟩ : Addr).add j) = some u := hown.cells (g := g) rfl
   have hr2 := run_append_grow (P := P) w t ty e i z ht hi hz ⟨g, 0, none⟩ n cap xs hown.1 holds a m c news hl hnews (by omega) (by omega) (growslice_fits (by omega) hbytes)
   rw [hr] at hr2
   simp only [Result.ok.injEq] at hr2
   intro b hb
   rw [hr2.1] at hb
   simp only [Value.ownBlock, Option.some.injEq] at hb
   exact Or.inr (Nat.le_of_eq hb)
theorem wp_append_ownF {o : Oper} {a : Act} {K : Act → World → Prop} {Q : Exit → Act → World → Prop} (s x : Operand) (t : TypeId)
 (ho : o.op = .call { callee := .builtin .append, args := #[s, x], argTypes := #[t, t] })
 (base : Nat) (e : TypeId) (i : TypeInfo) (z : Value) (size bytes : Nat) (ht : P.underlying t = some (.slice e)) (hi : P.info? e = some i) (hz : i.zero = some z)
 (hsize : i.size = size) (hby : i.bytes = bytes) (hzs : z.cells.size = size) (hsz : 0 < size)
 (v : Value) (n : Nat) (xs : List Value) (hs : a.eval s = v) (hown : w.ownsRow base e size v n xs)
 (ad : Addr) (m c : Nat) (news : List Value) (hx : a.eval x = .slice (some ad) m c) (hl : news.length = m * size) (hnews : ∀ j u, news[j]? = some u → w.cell? (ad.add j) = some u) (h1 : ∀ u ∈ news, u.oneCell' = true)
 (h63 : n + m ≤ maxLen) (hbytes : (n + m) * bytes ≤ 140737488355328) (hbase : base ≤ w.heap.size)
 (h : ∀ v' w', w'.ownsRow base e size v' (n + m) (xs ++ news) → w.grownBy w' v.ownBlock → (∀ b, v'.ownBlock = some b → v.ownBlock = some b ∨ w.heap.size ≤ b) → K (a.put o.dst v') w') : o.wp P a w K Q := by
 obtain ⟨v', w', hr, h2, h3, h4⟩ := run_append_ownF (P := P) w base t o.type e i z size bytes ht hi hz hsize hby hzs hsz v n xs hown ad m c news hl hnews h1 h63 hbytes hbase
 unfold Oper.wp execOp
 simp only [ho, resolve, invoke, builtin, Sem.run_bind, Sem.run_pure, Result.andThen_ok, List.map_toArray, List.map_cons, List.map_nil, hs, hx, hr]
 exact h v' w' h2 h3 h4
end
variable {α : Type} {P : Program}
/-- 'append(s, x...)', s of the call's own, x any values: at one operation. -/
theorem wp_append_fr (E : Ec α) {w : World} {o : Oper} {a : Act} {K : Act → World → Prop} {Q : Exit → Act → World → Prop} (s x : Operand) (t : TypeId)
 (ho : o.op = .call { callee := .builtin .append, args := #[s, x], argTypes := #[t, t] }) (ht : P.underlying t = some (.slice E.t))
 (z : Value) (by_ : Nat) (hinfo : (P.info? E.t).map (fun i => (i.zero, i.size, i.bytes)) = some (some z, E.k, by_)) (hzs : z.cells.size = E.k) (hby : by_ ≤ 4096)
 (B : Nat) (v : Value) (L : List α) (hs : a.eval s = v) (hob : Gw E w B v L) (p : Option Addr) (m c : Nat) (M : List α) (hx : a.eval x = .slice p m c) (hbs : Gs E w p m M) (hpc : p = none → c = 0)
 (hbytes : L.length + m ≤ 2097216) (hB : B ≤ w.heap.size)
 (h : ∀ v' w', Gw E w' B v' (L ++ M) → w.grownBy w' v.ownBlock → (∀ b, v'.ownBlock = some b → v.ownBlock = some b ∨ w.heap.size ≤ b) → K (a.put o.dst v') w') : o.wp P a w K Q := by
 obtain ⟨i, hi, hzz⟩ := Option.map_eq_some_iff.1 hinfo
 simp only [Prod.mk.injEq] at hzz
 obtain ⟨hz, hsz, hb⟩ := hzz
 obtain ⟨hy1, hy3⟩ := hbs
 cases p with
 | none =>
   obtain rfl := hpc rfl
   have hm : m = 0 := by
    rcases hy3 with h0 | ⟨_, _, hh, _⟩
    ·exact h0
    ·cases hh
   subst hm
   obtain rfl : M = [] := List.length_eq_zero_iff.1 hy1
   have hrun := run_append_owned_none (P := P) (w := w) B t o.type E.t i E.k ht hi v _ _ hob
   unfold Oper.wp
   simp [execOp, ho, resolve, invoke, builtin, hs, hx, hrun, Result.andThen]
   exact h _ _ (by rw [List.append_nil]; exact hob) ⟨rfl, rfl, rfl, Nat.le_refl _, fun _ _ _ => rfl⟩ (fun b hb => Or.inl hb)
 | some ad =>
   have hbb : (L.length + m) * by_ ≤ 140737488355328 := Nat.le_trans (Nat.mul_le_mul hbytes hby) (by decide)
   refine wp_append_ownF _ s x t ho B E.t i z E.k by_ ht hi hz hsz hb hzs E.pos v _ _ hs hob ad m c (E.flat M) hx (by rw [E.flat_length, hy1]) ?_ (fun u hu => E.flat_one hu) (by unfold maxLen; omega) hbb hB ?_
   ·intro j u hu
    have hj : j < m * E.k := by
     have := (List.getElem?_eq_some_iff.1 hu).1
     rw [E.flat_length, hy1] at this
     exact this
    rcases hy3 with h0 | ⟨b, off, hp, hc⟩
    ·rw [h0] at hj; omega
    ·obtain rfl : ad = ⟨b, off, none⟩ := by simpa using hp
     have hd : j / E.k < m := Nat.div_lt_of_lt_mul (by rw [Nat.mul_comm]; exact hj)
     have hm2 : j % E.k < E.k := Nat.mod_lt _ E.pos
     have e0 : j / E.k * E.k + j % E.k = j := by rw [Nat.mul_comm]; exact Nat.div_add_mod j E.k
     have hu' := hu
     rw [← e0, E.flat_get M _ _ (by rw [hy1]; exact hd) hm2] at hu'
     have := hc _ hd _ u hu'
     rw [Nat.add_assoc, e0] at this
     rw [WideShapes.add_plain]
     exact this
   ·intro v' w' h1 h2 h3
    refine h v' w' ?_ h2 h3
    unfold Gw
    rw [List.length_append, hy1, E.flat_append]
    exact h1
theorem wpList_append_fr (E : Ec α) {w : World} {ops : Array Oper} {rest : List Oper} {o : Oper} {a : Act} {Q : Exit → Act → World → Prop} (hgd : o.guard = none) (s x : Operand) (t : TypeId)
 (ho : o.op = .call { callee := .builtin .append, args := #[s, x], argTypes := #[t, t] }) (ht : P.underlying t = some (.slice E.t))
 (z : Value) (by_ : Nat) (hinfo : (P.info? E.t).map (fun i => (i.zero, i.size, i.bytes)) = some (some z, E.k, by_)) (hzs : z.cells.size = E.k) (hby : by_ ≤ 4096)
 (B : Nat) (v : Value) (L : List α) (hs : a.eval s = v) (hob : Gw E w B v L) (p : Option Addr) (m c : Nat) (M : List α) (hx : a.eval x = .slice p m c) (hbs : Gs E w p m M) (hpc : p = none → c = 0)
 (hbytes : L.length + m ≤ 2097216) (hB : B ≤ w.heap.size)
 (h : ∀ v' w', Gw E w' B v' (L ++ M) → w.grownBy w' v.ownBlock → (∀ b, v'.ownBlock = some b → v.ownBlock = some b ∨ w.heap.size ≤ b) → wpList P ops Q rest (a.put o.dst v') w') : wpList P ops Q (o :: rest) a w :=
 wpList_plain hgd fun _ hK => wp_append_fr E s x t ho ht z by_ hinfo hzs hby B v L hs hob p m c M hx hbs hpc hbytes hB fun v' w' h1 h2 h3 => hK _ _ (h v' w' h1 h2 h3)
theorem flatI_eq (L : List Int) : encI.flat L = L.map (Value.int .i64) := by
 induction L with
 | nil => rfl
 | cons x L ih => rw [Ec.flat, ih]; rfl
theorem Gw.atG {α : Type} {E : Ec α} {w : World} {B n c : Nat} {ad : Addr} {L : List α} (h : Gw E w B (.slice (some ad) n c) L) : ∃ g, ad = ⟨g, 0, none⟩ := by
 rcases h.2 with ⟨hv, h0⟩ | ⟨g, cap', cur, hv, _⟩
 ·cases hv
 ·simp only [Value.slice.injEq, Option.some.injEq] at hv; exact ⟨g, hv.1⟩
theorem Gw.nilN {α : Type} {E : Ec α} {w : World} {B n c : Nat} {L : List α} (h : Gw E w B (.slice none n c) L) : n = 0 := by
 by_cases h0 : n = 0
 ·exact h0
 ·obtain ⟨g, hg⟩ := h.ptr (by omega); cases hg
variable {α : Type}
theorem list_over (cur : List Value) (o : Nat) (v : Value) (r : List Value) (h : o < cur.length) : (cur.set o v).take (o + 1) ++ r ++ (cur.set o v).drop (o + 1 + r.length) = cur.take o ++ v :: r ++ cur.drop (o + (v :: r).length) := by
 rw [List.set_eq_take_append_cons_drop, if_pos h]
 have h1 : (cur.take o).length = o := by rw [List.length_take]; omega
 have e1 : (cur.take o ++ v :: cur.drop (o + 1)).take (o + 1) = cur.take o ++ [v] := by
  rw [List.take_append, h1, List.take_of_length_le (by omega), show o + 1 - o = 1 by omega]
  rfl
 have e2 : (cur.take o ++ v :: cur.drop (o + 1)).drop (o + 1 + r.length) = cur.drop (o + (v :: r).length) := by
  rw [List.drop_append, h1, List.drop_of_length_le (by rw [h1]; omega), List.nil_append, show o + 1 + r.length - o = r.length + 1 by omega, List.drop_succ_cons, List.drop_drop, List.length_cons]
  congr 1
  omega
 rw [e1, e2]
 simp
theorem setCells_over (b : Nat) (t : TypeId) (fr : Nat × Nat) : ∀ (vs : List Value) (o : Nat) (w : World) (cur : List Value), w.heap[b]? = some (.cells cur.toArray t fr) → o + vs.length ≤ cur.length →
 w.setCells b o vs = w.setRow b (cur.take o ++ vs ++ cur.drop (o + vs.length)).toArray
 | [], o, w, cur, h, hl => by
   have e : cur.take o ++ ([] : List Value) ++ cur.drop (o + ([] : List Value).length) = cur := by simp
   rw [e, setRow_self w b _ t fr h]
   rfl
 | v :: r, o, w, cur, h, hl => by
   have hlt : o < cur.length := by rw [List.length_cons] at hl; omega
   rw [World.setCells, setCell_eq_setRow w b o _ t fr v h, List.setIfInBounds_toArray]
   rw [setCells_over b t fr r (o + 1) _ (cur.set o v) (setRow_heap w b _ _ t fr h) (by rw [List.length_set]; rw [List.length_cons] at hl; omega), setRow_setRow, list_over cur o v r hlt]
theorem flat_set (E : Ec α) : ∀ (L : List α) (j : Nat) (x : α), j < L.length → E.flat (L.set j x) = (E.flat L).take (j * E.k) ++ E.f x ++ (E.flat L).drop (j * E.k + (E.f x).length)
 | [], j, x, h => absurd h (Nat.not_lt_zero _)
 | y :: L, 0, x, h => by
   rw [List.set_cons_zero, Ec.flat, Ec.flat, Nat.zero_mul, List.take_zero, List.nil_append, Nat.zero_add, E.len, ← E.len y, List.drop_left]
 | y :: L, j + 1, x, h => by
   have hl := E.len y
   rw [List.set_cons_succ, Ec.flat, Ec.flat, flat_set E L j x (by simpa using h)]
   have e1 : (E.f y ++ E.flat L).take ((j + 1) * E.k) = E.f y ++ (E.flat L).take (j * E.k) := by
    rw [show (j + 1) * E.k = (E.f y).length + j * E.k by rw [hl, Nat.succ_mul]; omega, List.take_length_add_append]
   have e2 : (E.f y ++ E.flat L).drop ((j + 1) * E.k + (E.f x).length) = (E.flat L).drop (j * E.k + (E.f x).length) := by
    rw [show (j + 1) * E.k + (E.f x).length = (E.f y).length + (j * E.k + (E.f x).length) by rw [hl, Nat.succ_mul]; omega, List.drop_length_add_append]
   rw [e1, e2]
   simp
/-- block b is a row of these -/
def Ir (E : Ec α) (w : World) (b : Nat) (L : List α) : Prop := w.heap[b]? = some (.cells (E.flat L).toArray E.t (0, 0))
theorem Ir.keep {E : Ec α} {w w' : World} {b : Nat} {L : List α} (h : Ir E w b L) (hk : w'.heap[b]? = w.heap[b]?) : Ir E w' b L := hk.trans h
theorem Ir.lt {E : Ec α} {w : World} {b : Nat} {L : List α} (h : Ir E w b L) : b < w.heap.size := (Array.getElem?_eq_some_iff.1 h).1
theorem Ir.later {E : Ec α} {w w' : World} {b : Nat} {L : List α} (h : Ir E w b L) (hb : Below w.heap.size w w') : Ir E w' b L := h.keep (hb.block _ h.lt)
theorem mul_le_row {j n k : Nat} (h : j < n) : j * k + k ≤ n * k := by
 have := Nat.mul_le_mul_right k (show j + 1 ≤ n by omega)
 rw [Nat.succ_mul] at this
 exact this
theorem Ir.range {E : Ec α} {w : World} {b : Nat} {L : List α} (h : Ir E w b L) {j : Nat} (hj : j < L.length) : w.rangeAt b (j * E.k) (E.f (L.getD j E.d)) := fun i v hv => by
 have hi : i < E.k := by rw [← E.len (L.getD j E.d)]; exact (List.getElem?_eq_some_iff.1 hv).1
 have h1 := E.flat_get L j i hj hi
 rw [hv] at h1
 rw [cell_of_row w b (j * E.k + i) _ _ _ h, List.getElem?_toArray]
 exact h1
theorem Ir.there {E : Ec α} {w : World} {b : Nat} {L : List α} (h : Ir E w b L) {j : Nat} (hj : j < L.length) : w.there b (j * E.k) E.k := fun i hi => by
 have hl := E.flat_length L
 have hm := mul_le_row (k := E.k) hj
 refine ⟨?_, ?_⟩
 ·rw [cell_of_row w b (j * E.k + i) _ _ _ h, List.getElem?_toArray, List.getElem?_eq_getElem (by omega)]
  rfl
 ·unfold World.frozen?
  have h1 : w.heap[b]? = some (.cells (E.flat L).toArray E.t (0, 0)) := h
  simp [h1]
/-- one of them stored to -/
theorem Ir.store {E : Ec α} {w : World} {b : Nat} {L : List α} (h : Ir E w b L) {j : Nat} (hj : j < L.length) (x : α) : Ir E (w.setCells b (j * E.k) (E.f x)) b (L.set j x) := by
 have hm := mul_le_row (k := E.k) hj
 rw [setCells_over b E.t (0, 0) (E.f x) (j * E.k) w (E.flat L) h (by rw [E.len, E.flat_length]; exact hm)]
 unfold Ir
 rw [setRow_heap w b _ _ E.t (0, 0) h, flat_set E L j x hj]
theorem Ir.storeOther {E : Ec α} {w : World} {b : Nat} {L : List α} (h : Ir E w b L) {j : Nat} (hj : j < L.length) (x : α) : ∀ g, g ≠ b → (w.setCells b (j * E.k) (E.f x)).heap[g]? = w.heap[g]? := fun g hg => by
 have hm := mul_le_row (k := E.k) hj
 rw [setCells_over b E.t (0, 0) (E.f x) (j * E.k) w (E.flat L) h (by rw [E.len, E.flat_length]; exact hm), setRow_other w b g _ hg]
theorem Ir.storeSize {E : Ec α} {w : World} {b : Nat} {L : List α} (h : Ir E w b L) {j : Nat} (hj : j < L.length) (x : α) : (w.setCells b (j * E.k) (E.f x)).heap.size = w.heap.size ∧ (w.setCells b (j * E.k) (E.f x)).os = w.os ∧ (w.setCells b (j * E.k) (E.f x)).tape = w.tape ∧ (w.setCells b (j * E.k) (E.f x)).output = w.output := by
 have hm := mul_le_row (k := E.k) hj
 rw [setCells_over b E.t (0, 0) (E.f x) (j * E.k) w (E.flat L) h (by rw [E.len, E.flat_length]; exact hm)]
 exact ⟨setRow_size _ _ _, setRow_os _ _ _, setRow_tape _ _ _, setRow_output _ _ _⟩
/-- what make lays: copies of the zero value -/
theorem flat_made (E : Ec α) (n : Nat) (x : α) : (madeCells (E.f x).toArray (n * E.k)).toList = E.flat (List.replicate n x) := by
 have hk := E.pos
 apply List.ext_getElem?
 intro q
 by_cases hq : q < n * E.k
 ·have e1 : (madeCells (E.f x).toArray (n * E.k)).toList[q]? = some ((E.f x).toArray[q % (E.f x).toArray.size]!) := by
   unfold madeCells
   simp [hq]
  have hj : q / E.k < n := (Nat.div_lt_iff_lt_mul hk).2 hq
  have hi : q % E.k < E.k := Nat.mod_lt _ hk
  have h1 := E.flat_get (List.replicate n x) (q / E.k) (q % E.k) (by rw [List.length_replicate]; exact hj) hi
  rw [Nat.div_add_mod' q E.k] at h1
  have h2 : (List.replicate n x).getD (q / E.k) E.d = x := by rw [List.getD_eq_getElem?_getD, List.getElem?_replicate_of_lt hj]; rfl
  rw [h2] at h1
  rw [e1, h1]
  have hs : (E.f x).toArray.size = E.k := by rw [List.size_toArray, E.len]
  rw [hs, getElem!_pos (E.f x).toArray (q % E.k) (by rw [hs]; exact hi), List.getElem_toArray, List.getElem?_eq_getElem]
 ·rw [List.getElem?_eq_none (by rw [Array.length_toList, size_madeCells]; omega), List.getElem?_eq_none (by rw [E.flat_length, List.length_replicate]; omega)]
theorem Ir.made {E : Ec α} {w : World} {base g n : Nat} {x : α} (hn : 0 < n) (h : w.ownsRow base E.t E.k (.slice (some ⟨g, 0, none⟩) n n) n (madeCells (E.f x).toArray (n * E.k)).toList) : Ir E w g (List.replicate n x) := by
 obtain ⟨_, ⟨h1, h2⟩ | ⟨g2, cap, cur, hv, _, hg, _, _, hs, ht⟩⟩ := h
 ·cases h1
 ·simp only [Value.slice.injEq, Option.some.injEq, Addr.mk.injEq, true_and, and_true] at hv
  obtain ⟨rfl, rfl⟩ := hv
  rw [flat_made, List.take_of_length_le (by rw [Array.length_toList, hs]; exact Nat.le_refl _)] at ht
  unfold Ir
  rw [hg, ← ht]
end Go.Proofs.YtpfbfhigelbfcaaGreat

