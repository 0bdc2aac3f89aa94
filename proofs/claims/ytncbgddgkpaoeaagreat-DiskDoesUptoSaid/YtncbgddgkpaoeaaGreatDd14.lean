/- Layer 10: rows of changes that a call makes; a file as a value -/
import Derived.Test.YtncbgddgkpaoeaaGreatDd11
import Derived.Great.BuildSlice
set_option linter.unusedSimpArgs false
set_option linter.unusedVariables false
namespace Go.Proofs.YtncbgddgkpaoeaaGreat
set_option linter.unusedVariables false
open Go.RowKit Go.Lib

/-- the cells of changes, one behind another -/
def wcells : List Wd → List Value
  | [] => []
  | x :: L => .bool x.c.cut :: .int .i64 x.c.off :: .slice x.p x.n x.cap :: wcells L
theorem wcells_append (L M : List Wd) : wcells (L ++ M) = wcells L ++ wcells M := by
  induction L with
  | nil => rfl
  | cons d L ih => simp [wcells, ih]
theorem wcells_length (L : List Wd) : (wcells L).length = L.length * 3 := by
  induction L with
  | nil => rfl
  | cons d L ih => simp only [wcells, List.length_cons, ih]; omega
theorem wcells_get (L : List Wd) (j : Nat) (hj : j < L.length) : (wcells L)[j * 3]? = some (.bool (L.getD j wd0).c.cut) ∧ (wcells L)[j * 3 + 1]? = some (.int .i64 (L.getD j wd0).c.off) ∧ (wcells L)[j * 3 + 2]? = some (.slice (L.getD j wd0).p (L.getD j wd0).n (L.getD j wd0).cap) := by
  induction L generalizing j with
  | nil => simp at hj
  | cons d L ih =>
    cases j with
    | zero => exact ⟨rfl, rfl, rfl⟩
    | succ j =>
      have h := ih j (by simpa using hj)
      have e : ∀ k, (wcells (d :: L))[(j + 1) * 3 + k]? = (wcells L)[j * 3 + k]? := fun k => by
        rw [show (j + 1) * 3 + k = j * 3 + k + 1 + 1 + 1 by omega]
        rfl
      have e0 := e 0
      rw [Nat.add_zero, Nat.add_zero] at e0
      rw [e0, e 1, e 2]
      simpa using h
theorem wcells_one {L : List Wd} {u : Value} (h : u ∈ wcells L) : u.oneCell' = true := by
  induction L with
  | nil => simp [wcells] at h
  | cons d L ih =>
    simp only [wcells, List.mem_cons] at h
    rcases h with rfl | rfl | rfl | h
    · rfl
    · rfl
    · rfl
    · exact ih h
/-- another place for a change's bytes -/
def Wd.at (x : Wd) (p : Option Addr) (n cap : Nat) : Wd := ⟨x.c, p, n, cap⟩
theorem wcells_set (L : List Wd) (j : Nat) (p : Option Addr) (n cap : Nat) : (wcells L).set (j * 3 + 2) (.slice p n cap) = wcells (L.set j ((L.getD j wd0).at p n cap)) := by
  induction L generalizing j with
  | nil => rfl
  | cons d L ih =>
    cases j with
    | zero => rfl
    | succ j =>
      rw [show (j + 1) * 3 + 2 = j * 3 + 2 + 1 + 1 + 1 by omega]
      simp only [wcells, List.set_cons_succ, List.getD_cons_succ, ih]
def wzero : Value := .agg #[.bool false, .int .i64 0, .slice none 0 0]
theorem info48 : (Tryz.prog.info? 137).map (fun i => (i.zero, i.size, i.bytes)) = some (some wzero, 3, 40) := by kernel_rfl

/-- A row of the call's own from block B on, whose first elements are these changes. -/
def Ow (w : World) (B : Nat) (v : Value) (L : List Wd) : Prop := (∀ x ∈ L, Wd.fit w x) ∧ w.ownsRow B 137 3 v L.length (wcells L)
/-- no change's bytes lie in the row's own block -/
def Apart (v : Value) (L : List Wd) : Prop := ∀ x ∈ L, 0 < x.n → ∀ a, x.p = some a → v.ownBlock ≠ some a.block
theorem Ow.nil (w : World) (B : Nat) : Ow w B (.slice none 0 0) [] := ⟨by simp, World.ownsRow_nil w B _ 3⟩
theorem Apart.nil (L : List Wd) : Apart (.slice none 0 0) L := fun _ _ _ _ _ h => by cases h
theorem Ow.empty (w : World) (B : Nat) (hB : B ≤ w.heap.size) : Ow (w.alloc (.cells #[] 137)) B (.slice (some ⟨w.heap.size, 0, none⟩) 0 0) [] :=
  ⟨by simp, World.ownsRow_made w #[] 0 hB (Nat.zero_le _) (by simp)⟩
theorem Ow.open {w : World} {B : Nat} {v : Value} {L : List Wd} (h : Ow w B v L) :
    ∃ p cap, v = .slice p L.length cap ∧ L.length ≤ cap ∧ cap ≤ maxLen ∧ Ws w p L.length L ∧ (p = none → cap = 0) := by
  have h' := h
  obtain ⟨hok, hl, h2⟩ := h
  rcases h2 with ⟨rfl, h0⟩ | ⟨g, cap, cur, rfl, hB, hg, hn, hm, hs, ht⟩
  · exact ⟨none, 0, by rw [h0], by omega, by simp, ⟨rfl, hok, Or.inl h0⟩, fun _ => rfl⟩
  · refine ⟨_, cap, rfl, hn, hm, ⟨rfl, hok, Or.inr ⟨g, 0, rfl, fun j hj => ?_⟩⟩, by simp⟩
    obtain ⟨c0, c1, c2⟩ := wcells_get L j hj
    have h3 := fun k u hk => h'.2.cells (g := g) rfl (j * 3 + k) u hk
    simp only [WideShapes.add_plain] at h3
    exact ⟨h3 0 _ c0, h3 1 _ c1, h3 2 _ c2⟩
theorem Ow.later {w w' : World} {B : Nat} {v : Value} {L : List Wd} (h : Ow w B v L) (hb : Below w.heap.size w w') : Ow w' B v L := by
  obtain ⟨hok, hl, h2⟩ := h
  refine ⟨fun x hx => (hok x hx).later hb, hl, ?_⟩
  rcases h2 with h2 | ⟨g, cap, cur, hv, hB, hg, r⟩
  · exact Or.inl h2
  · have hlt : g < w.heap.size := (Array.getElem?_eq_some_iff.1 hg).1
    exact Or.inr ⟨g, cap, cur, hv, hB, by rw [hb.block g hlt]; exact hg, r⟩
theorem Ow.alloc {w : World} {B : Nat} {v : Value} {L : List Wd} (h : Ow w B v L) (o : Obj) : Ow (w.alloc o) B v L := h.later ((Below.refl _ _).alloc (Nat.le_refl _) _)
theorem Ow.mono {w : World} {B B' : Nat} {v : Value} {L : List Wd} (h : Ow w B v L) (hB : B' ≤ B) : Ow w B' v L := by
  obtain ⟨hok, hl, h2⟩ := h
  refine ⟨hok, hl, ?_⟩
  rcases h2 with h2 | ⟨g, cap, cur, hv, hb, r⟩
  · exact Or.inl h2
  · exact Or.inr ⟨g, cap, cur, hv, by omega, r⟩
theorem Ow.ws {w : World} {B n c : Nat} {p : Option Addr} {L : List Wd} (h : Ow w B (.slice p n c) L) : Ws w p n L := by
  obtain ⟨p', c', hv, _, _, h3, _⟩ := h.open
  simp only [Value.slice.injEq] at hv
  obtain ⟨rfl, rfl, rfl⟩ := hv
  exact h3
theorem Ow.len {w : World} {B n c : Nat} {p : Option Addr} {L : List Wd} (h : Ow w B (.slice p n c) L) : L.length = n := h.ws.1
theorem Ow.ptr {w : World} {B n cap : Nat} {p : Option Addr} {L : List Wd} (h : Ow w B (.slice p n cap) L) (hn : 0 < n) : ∃ g, p = some ⟨g, 0, none⟩ := by
  rcases h.2.2 with ⟨hv, h0⟩ | ⟨g, cap', cur, hv, _⟩
  · simp only [Value.slice.injEq] at hv; omega
  · simp only [Value.slice.injEq] at hv; exact ⟨g, hv.1⟩
theorem Ow.block_own {w : World} {B g n cap : Nat} {L : List Wd} (h : Ow w B (.slice (some ⟨g, 0, none⟩) n cap) L) : B ≤ g ∧ g < w.heap.size := h.2.lt g rfl
theorem Ow.cells {w : World} {B g n cap : Nat} {L : List Wd} (h : Ow w B (.slice (some ⟨g, 0, none⟩) n cap) L) (j : Nat) (hj : j < n) :
    w.cell? ⟨g, j * 3, none⟩ = some (.bool (L.getD j wd0).c.cut) ∧ w.cell? ⟨g, j * 3 + 1, none⟩ = some (.int .i64 (L.getD j wd0).c.off) ∧ w.cell? ⟨g, j * 3 + 2, none⟩ = some (.slice (L.getD j wd0).p (L.getD j wd0).n (L.getD j wd0).cap) ∧ w.frozen? ⟨g, j * 3 + 2, none⟩ = false := by
  obtain ⟨b, off, hp, c0, c1, c2⟩ := h.ws.ptr j hj
  simp only [Option.some.injEq, Addr.mk.injEq, and_true] at hp
  obtain ⟨rfl, rfl⟩ := hp
  rw [Nat.zero_add] at c0 c1 c2
  refine ⟨c0, c1, c2, ?_⟩
  rcases h.2.2 with ⟨hv, _⟩ | ⟨g', cap', cur, hv, _, hg, _⟩
  · cases hv
  · simp only [Value.slice.injEq, Option.some.injEq, Addr.mk.injEq, and_true] at hv
    obtain ⟨rfl, _⟩ := hv
    exact frozen_of_row w g _ _ _ hg
theorem below_new_ow {B : Nat} {a w w' : World} {v : Value} {L : List Wd} (hb : Below B a w) (ho : Ow w B v L) (h : w.grownBy w' v.ownBlock) (hB : B ≤ w.heap.size) : Below B a w' :=
  hb.grown h hB (fun j hj => (ho.2.lt j hj).1)
theorem fit_block {w : World} {x : Wd} (h : Wd.fit w x) (hn : 0 < x.n) {a : Addr} (ha : x.p = some a) : a.block < w.heap.size := by
  rcases h.1.2.2 with h0 | ⟨b, off, hp, hc⟩
  · omega
  · rw [ha] at hp
    obtain rfl : a = ⟨b, off, none⟩ := by simpa using hp
    exact World.block_lt_of_cell? w _ (hc 0 hn)
/-- a change's bytes where nothing has touched their block -/
theorem fit_keep {w w' : World} {x : Wd} (h : Wd.fit w x) (hk : 0 < x.n → ∀ a, x.p = some a → w'.heap[a.block]? = w.heap[a.block]?) : Wd.fit w' x := by
  obtain ⟨⟨h1, h2, h3⟩, hr⟩ := h
  refine ⟨⟨h1, h2, ?_⟩, hr⟩
  rcases h3 with h0 | ⟨b, off, hp, hc⟩
  · exact Or.inl h0
  · refine Or.inr ⟨b, off, hp, fun j hj => ?_⟩
    have := hk (by omega) _ hp
    rw [World.cell?_of_block (a := ⟨b, off + j, none⟩) this]
    exact hc j hj
theorem apart_of_below {w0 w : World} {B : Nat} {v : Value} {L M : List Wd} (h : Ow w B v L) (hB : w0.heap.size ≤ B) (hM : ∀ x ∈ M, Wd.fit w0 x) : Apart v M := by
  intro x hx hn a ha e
  have h1 := (h.2.lt a.block e).1
  have h2 := fit_block (hM x hx) hn ha
  omega

/-- a change's bytes moved -/
theorem Ow.set {w : World} {B g n cap : Nat} {L : List Wd} (h : Ow w B (.slice (some ⟨g, 0, none⟩) n cap) L) (ha : Apart (.slice (some ⟨g, 0, none⟩) n cap) L) (j : Nat) (hj : j < n) (p : Option Addr) (m c : Nat)
    (hf : Wd.fit w ((L.getD j wd0).at p m c)) (hp : 0 < m → ∀ a, p = some a → g ≠ a.block) :
    Ow (w.setCell ⟨g, j * 3 + 2, none⟩ (.slice p m c)) B (.slice (some ⟨g, 0, none⟩) n cap) (L.set j ((L.getD j wd0).at p m c)) ∧ Apart (.slice (some ⟨g, 0, none⟩) n cap) (L.set j ((L.getD j wd0).at p m c)) := by
  have hkeep : ∀ x : Wd, Wd.fit w x → (0 < x.n → ∀ a, x.p = some a → g ≠ a.block) → Wd.fit (w.setCell ⟨g, j * 3 + 2, none⟩ (.slice p m c)) x := fun x hx hne =>
    fit_keep hx fun hn a ha' => heap_setCell_other w ⟨g, j * 3 + 2, none⟩ a.block _ (fun e => hne hn a ha' e.symm)
  have hap : Apart (.slice (some ⟨g, 0, none⟩) n cap) (L.set j ((L.getD j wd0).at p m c)) := by
    intro x hx hn a hxa e
    have e' : g = a.block := by simpa [Value.ownBlock] using e
    rcases List.mem_or_eq_of_mem_set hx with hx | rfl
    · exact ha x hx hn a hxa e
    · exact hp hn a hxa e'
  refine ⟨⟨fun x hx => ?_, ?_⟩, hap⟩
  · rcases List.mem_or_eq_of_mem_set hx with hx' | rfl
    · exact hkeep x (h.1 x hx') (fun hn a hxa e => ha x hx' hn a hxa (by simp [Value.ownBlock, e]))
    · exact hkeep _ hf hp
  · obtain ⟨hl, h2⟩ := h.2
    refine ⟨by rw [wcells_length], ?_⟩
    rcases h2 with ⟨hv, _⟩ | ⟨g', cap', cur, hv, hB, hg, hn, hm, hs, ht⟩
    · cases hv
    · right
      simp only [Value.slice.injEq, Option.some.injEq, Addr.mk.injEq, and_true] at hv
      obtain ⟨rfl, hnl, rfl⟩ := hv
      refine ⟨g, cap, cur.setIfInBounds (j * 3 + 2) (.slice p m c), by simp [hnl], hB, ?_, by simpa using hn, hm, by simpa using hs, ?_⟩
      · exact heap_setCell_same w g _ _ _ _ hg
      · rw [Array.toList_setIfInBounds, List.length_set, List.take_set, ht, wcells_set]

variable {P : Program}
/-- 'append(s, x...)', s of the call's own, x any changes: at one operation. -/
theorem wp_append_wds {w : World} {o : Oper} {a : Act} {K : Act → World → Prop} {Q : Exit → Act → World → Prop} (s x : Operand) (t : TypeId)
    (ho : o.op = .call { callee := .builtin .append, args := #[s, x], argTypes := #[t, t] }) (ht : P.underlying t = some (.slice 137))
    (hinfo : (P.info? 137).map (fun i => (i.zero, i.size, i.bytes)) = some (some wzero, 3, 40))
    (B : Nat) (v : Value) (L : List Wd) (hs : a.eval s = v) (hob : Ow w B v L) (hal : Apart v L) (p : Option Addr) (m c : Nat) (M : List Wd) (hx : a.eval x = .slice p m c) (hbs : Ws w p m M) (ham : Apart v M) (hpc : p = none → c = 0)
    (hbytes : L.length + m ≤ 2097152) (hB : B ≤ w.heap.size)
    (h : ∀ v' w', Ow w' B v' (L ++ M) → w.grownBy w' v.ownBlock → K (a.put o.dst v') w') : o.wp P a w K Q := by
  obtain ⟨i, hi, hzz⟩ := Option.map_eq_some_iff.1 hinfo
  simp only [Prod.mk.injEq] at hzz
  obtain ⟨hz, hsz, hb⟩ := hzz
  obtain ⟨hy1, hy2, hy3⟩ := hbs
  cases p with
  | none =>
    obtain rfl := hpc rfl
    have hm : m = 0 := by
      rcases hy3 with h0 | ⟨_, _, hh, _⟩
      · exact h0
      · cases hh
    subst hm
    obtain rfl : M = [] := List.length_eq_zero_iff.1 hy1
    have hrun := run_append_owned_none (P := P) (w := w) B t o.type 137 i 3 ht hi v _ _ hob.2
    unfold Oper.wp
    simp [execOp, ho, resolve, invoke, builtin, hs, hx, hrun, Result.andThen]
    exact h _ _ (by rw [List.append_nil]; exact hob) ⟨rfl, rfl, rfl, Nat.le_refl _, fun _ _ _ => rfl⟩
  | some ad =>
    refine wp_append_own _ s x t ho B 137 i wzero 3 40 ht hi hz hsz hb rfl (by decide) v _ _ hs hob.2 ad m c (wcells M) hx (by rw [wcells_length, hy1]) ?_ (fun u hu => wcells_one hu) (by unfold maxLen; omega) (by omega) hB ?_
    · intro j u hu
      have hj : j < m * 3 := by
        have := (List.getElem?_eq_some_iff.1 hu).1
        rw [wcells_length, hy1] at this
        exact this
      rcases hy3 with h0 | ⟨b, off, hp, hc⟩
      · omega
      · obtain rfl : ad = ⟨b, off, none⟩ := by simpa using hp
        obtain ⟨g0, g1, g2⟩ := wcells_get M (j / 3) (by omega)
        obtain ⟨c0, c1, c2⟩ := hc (j / 3) (by omega)
        rw [WideShapes.add_plain]
        have h3 : j % 3 = 0 ∨ j % 3 = 1 ∨ j % 3 = 2 := by omega
        rcases h3 with h3 | h3 | h3
        · rw [show j / 3 * 3 = j by omega] at g0 c0
          rw [c0, ← g0, hu]
        · rw [Nat.add_assoc, show j / 3 * 3 + 1 = j by omega] at c1
          rw [show j / 3 * 3 + 1 = j by omega] at g1
          rw [c1, ← g1, hu]
        · rw [Nat.add_assoc, show j / 3 * 3 + 2 = j by omega] at c2
          rw [show j / 3 * 3 + 2 = j by omega] at g2
          rw [c2, ← g2, hu]
    · intro v' w' h1 h2 _
      have hkeep : ∀ x : Wd, Wd.fit w x → (0 < x.n → ∀ a, x.p = some a → v.ownBlock ≠ some a.block) → Wd.fit w' x := fun x hx hne =>
        fit_keep hx fun hn a ha => h2.block a.block (fit_block hx hn ha) (fun e => hne hn a ha e.symm)
      refine h v' w' ⟨fun d hd => ?_, ?_⟩ h2
      · rcases List.mem_append.1 hd with hd | hd
        · exact hkeep d (hob.1 d hd) (hal d hd)
        · exact hkeep d (hy2 d hd) (ham d hd)
      · rw [List.length_append, hy1, wcells_append]
        exact h1
theorem wpList_append_wds {w : World} {ops : Array Oper} {rest : List Oper} {o : Oper} {a : Act} {Q : Exit → Act → World → Prop} (hgd : o.guard = none) (s x : Operand) (t : TypeId)
    (ho : o.op = .call { callee := .builtin .append, args := #[s, x], argTypes := #[t, t] }) (ht : P.underlying t = some (.slice 137))
    (hinfo : (P.info? 137).map (fun i => (i.zero, i.size, i.bytes)) = some (some wzero, 3, 40))
    (B : Nat) (v : Value) (L : List Wd) (hs : a.eval s = v) (hob : Ow w B v L) (hal : Apart v L) (p : Option Addr) (m c : Nat) (M : List Wd) (hx : a.eval x = .slice p m c) (hbs : Ws w p m M) (ham : Apart v M) (hpc : p = none → c = 0)
    (hbytes : L.length + m ≤ 2097152) (hB : B ≤ w.heap.size)
    (h : ∀ v' w', Ow w' B v' (L ++ M) → w.grownBy w' v.ownBlock → wpList P ops Q rest (a.put o.dst v') w') : wpList P ops Q (o :: rest) a w :=
  wpList_plain hgd fun _ hK => wp_append_wds s x t ho ht hinfo B v L hs hob hal p m c M hx hbs ham hpc hbytes hB fun v' w' h1 h2 => hK _ _ (h v' w' h1 h2)
/-- .. at a step of a region that draws its order. -/
theorem step_append_wds {w : World} {ops : Array Oper} {o : Oper} {a : Act} {K : Act → World → Prop} {Q : Exit → Act → World → Prop} {E : Prop} (hgd : o.guard = none) (s x : Operand) (t : TypeId)
    (ho : o.op = .call { callee := .builtin .append, args := #[s, x], argTypes := #[t, t] }) (ht : P.underlying t = some (.slice 137))
    (hinfo : (P.info? 137).map (fun i => (i.zero, i.size, i.bytes)) = some (some wzero, 3, 40))
    (B : Nat) (v : Value) (L : List Wd) (hs : a.eval s = v) (hob : Ow w B v L) (hal : Apart v L) (p : Option Addr) (m c : Nat) (M : List Wd) (hx : a.eval x = .slice p m c) (hbs : Ws w p m M) (ham : Apart v M) (hpc : p = none → c = 0)
    (hbytes : L.length + m ≤ 2097152) (hB : B ≤ w.heap.size)
    (h : ∀ v' w', Ow w' B v' (L ++ M) → w.grownBy w' v.ownBlock → K (a.put o.dst v') w') : if Region.wanted o (yielded ops a.tmps) = true then Oper.wp P o a w K Q else E := by
  have hw : Region.wanted o (yielded ops a.tmps) = true := by simp [Region.wanted, hgd]
  rw [if_pos hw]
  exact wp_append_wds s x t ho ht hinfo B v L hs hob hal p m c M hx hbs ham hpc hbytes hB h
/-- one change, just laid -/
theorem ws_one {w : World} (x : Wd) (h : Wd.fit w x) : Ws (w.alloc (.cells #[.bool x.c.cut, .int .i64 x.c.off, .slice x.p x.n x.cap] 137)) (some ⟨w.heap.size, 0, none⟩) 1 [x] := by
  refine ⟨rfl, fun y hy => ?_, Or.inr ⟨w.heap.size, 0, rfl, fun j hj => ?_⟩⟩
  · obtain rfl : y = x := by simpa using hy
    exact h.later ((Below.refl _ _).alloc (Nat.le_refl _) _)
  · obtain rfl : j = 0 := by omega
    exact Cw.cells (c := x.c) (p := x.p) (n := x.n) (cap := x.cap) (heap_alloc_new _ _)

theorem chs_getD (L : List Wd) (j : Nat) (hj : j < L.length) : (chs L)[j]? = some (L.getD j wd0).c := by
  rw [List.getD_eq_getElem?_getD, List.getElem?_eq_getElem hj]
  simp [chs, hj]
/-- a file's slices, and what they read as -/
structure Ni where
  p : Option Addr
  n : Nat
  c : Nat
  q : Option Addr
  m : Nat
  d : Nat
  zs : List Int
  L : List Wd
def Ni.v (x : Ni) : Value := .agg #[.slice x.p x.n x.c, .slice x.q x.m x.d]
def Ni.fi (x : Ni) : Fi := ⟨x.zs, chs x.L⟩
def Ni.fit (w : World) (x : Ni) : Prop := Bs w x.p x.n x.zs ∧ (x.p = none → x.c = 0) ∧ x.n ≤ x.c ∧ Ws w x.q x.m x.L ∧ (x.q = none → x.d = 0) ∧ x.m ≤ x.d
theorem Ni.fit.later {w w' : World} {x : Ni} (h : Ni.fit w x) (hb : Below w.heap.size w w') : Ni.fit w' x := ⟨h.1.later hb, h.2.1, h.2.2.1, h.2.2.2.1.later hb, h.2.2.2.2⟩
theorem Ni.len {w : World} {x : Ni} (h : Ni.fit w x) (ho : x.fi.ok) : x.n ≤ 2097152 ∧ x.m ≤ 1048575 ∧ x.zs.length = x.n ∧ x.L.length = x.m := by
  obtain ⟨h1, h2, h3⟩ := ho
  have e1 := h.1.1
  have e2 := h.2.2.2.1.1
  simp only [Ni.fi, chs_length] at h1 h2
  exact ⟨by omega, by omega, e1, e2⟩
theorem Ni.dat {w : World} {x : Ni} (h : Ni.fit w x) (ho : x.fi.ok) (j : Nat) : (x.L.getD j wd0).n ≤ 2097152 := by
  have hf := h.2.2.2.1.fit j
  rw [← hf.1.1]
  by_cases hj : j < x.L.length
  · refine ho.2.2 _ ?_
    simp only [Ni.fi, chs]
    refine List.mem_map.2 ⟨_, ?_, rfl⟩
    rw [List.getD_eq_getElem?_getD, List.getElem?_eq_getElem hj]
    exact List.getElem_mem hj
  · rw [List.getD_eq_getElem?_getD, List.getElem?_eq_none (by omega)]
    simp [wd0]
/-- a block of two slices: nothing that is read as bytes or as changes lies there -/
def Sl2 (w : World) (g : Nat) : Prop := ∃ p n c q m d t fr, w.heap[g]? = some (.cells #[.slice p n c, .slice q m d] t fr)
theorem Sl2.no {w : World} {g j : Nat} {v : Value} (h : Sl2 w g) (hc : w.cell? ⟨g, j, none⟩ = some v) : ∃ p n c, v = .slice p n c := by
  obtain ⟨p, n, c, q, m, d, t, fr, hg⟩ := h
  rw [cell_of_row _ _ _ _ _ _ hg] at hc
  match j, hc with
  | 0, hc => exact ⟨p, n, c, by simpa using hc.symm⟩
  | 1, hc => exact ⟨q, m, d, by simpa using hc.symm⟩
  | j + 2, hc => simp at hc
theorem Bs.stored {w w' : World} {g : Nat} (hg : Sl2 w g) (hk : ∀ k, k ≠ g → w'.heap[k]? = w.heap[k]?) {p : Option Addr} {n : Nat} {zs : List Int} (h : Bs w p n zs) : Bs w' p n zs := by
  obtain ⟨h1, h2, h3⟩ := h
  refine ⟨h1, h2, ?_⟩
  rcases h3 with h0 | ⟨b, off, hp, hc⟩
  · exact Or.inl h0
  · refine Or.inr ⟨b, off, hp, fun j hj => ?_⟩
    have hne : b ≠ g := fun e => by
      subst e
      obtain ⟨_, _, _, hv⟩ := hg.no (hc j hj)
      cases hv
    rw [World.cell?_of_block (a := ⟨b, off + j, none⟩) (hk b hne)]
    exact hc j hj
theorem Wd.fit_stored {w w' : World} {g : Nat} (hg : Sl2 w g) (hk : ∀ k, k ≠ g → w'.heap[k]? = w.heap[k]?) {x : Wd} (h : Wd.fit w x) : Wd.fit w' x := ⟨h.1.stored hg hk, h.2⟩
theorem Ws.stored {w w' : World} {g : Nat} (hg : Sl2 w g) (hk : ∀ k, k ≠ g → w'.heap[k]? = w.heap[k]?) {p : Option Addr} {n : Nat} {L : List Wd} (h : Ws w p n L) : Ws w' p n L := by
  obtain ⟨h1, h2, h3⟩ := h
  refine ⟨h1, fun x hx => Wd.fit_stored hg hk (h2 x hx), ?_⟩
  rcases h3 with h0 | ⟨b, off, hp, hc⟩
  · exact Or.inl h0
  · refine Or.inr ⟨b, off, hp, fun j hj => ?_⟩
    obtain ⟨c0, c1, c2⟩ := hc j hj
    have hne : b ≠ g := fun e => by
      subst e
      obtain ⟨_, _, _, hv⟩ := hg.no c0
      cases hv
    have hkb := hk b hne
    exact ⟨by rw [World.cell?_of_block (a := ⟨b, off + j * 3, none⟩) hkb]; exact c0, by rw [World.cell?_of_block (a := ⟨b, off + j * 3 + 1, none⟩) hkb]; exact c1, by rw [World.cell?_of_block (a := ⟨b, off + j * 3 + 2, none⟩) hkb]; exact c2⟩
theorem Ni.fit.stored {w w' : World} {g : Nat} (hg : Sl2 w g) (hk : ∀ k, k ≠ g → w'.heap[k]? = w.heap[k]?) {x : Ni} (h : Ni.fit w x) : Ni.fit w' x := ⟨h.1.stored hg hk, h.2.1, h.2.2.1, h.2.2.2.1.stored hg hk, h.2.2.2.2⟩
theorem cells2_stored {w : World} {g : Nat} {a0 a1 : Value} {t : TypeId} (h : w.heap[g]? = some (.cells #[a0, a1] t (0, 0))) (v0 v1 : Value) :
    ((w.setCell ⟨g, 0, none⟩ v0).setCell ⟨g, 1, none⟩ v1).heap[g]? = some (.cells #[v0, v1] t (0, 0)) := by
  rw [heap_setCell_same _ g 1 _ t v1 (heap_setCell_same w g 0 _ t v0 h)]
  rfl
theorem stored2_keep (w : World) (g : Nat) (v0 v1 : Value) : ∀ k, k ≠ g → ((w.setCell ⟨g, 0, none⟩ v0).setCell ⟨g, 1, none⟩ v1).heap[k]? = w.heap[k]? := fun k hk => by
  rw [heap_setCell_other _ ⟨g, 1, none⟩ k v1 hk, heap_setCell_other _ ⟨g, 0, none⟩ k v0 hk]
theorem stored1_keep (w : World) (g j : Nat) (v : Value) : ∀ k, k ≠ g → (w.setCell ⟨g, j, none⟩ v).heap[k]? = w.heap[k]? := fun k hk => heap_setCell_other _ ⟨g, j, none⟩ k v hk

/-- a file in a block of its own -/
def Iw (w : World) (g : Nat) (x : Ni) : Prop := w.heap[g]? = some (.cells #[.slice x.p x.n x.c, .slice x.q x.m x.d] 73 (0, 0))
theorem Iw.sl2 {w : World} {g : Nat} {x : Ni} (h : Iw w g x) : Sl2 w g := ⟨_, _, _, _, _, _, _, _, h⟩
theorem Iw.keep {w w' : World} {B : Nat} {x : Ni} (h : Iw w B x) (hb : Below (B + 1) w w') : Iw w' B x := by
  unfold Iw; rw [hb.block B (Nat.lt_succ_self B)]; exact h
theorem Iw.lt {w : World} {B : Nat} {x : Ni} (h : Iw w B x) : B < w.heap.size := by
  unfold Iw at h
  exact (Array.getElem?_eq_some_iff.1 h).1
theorem Iw.later {w w' : World} {B : Nat} {x : Ni} (h : Iw w B x) (hb : Below w.heap.size w w') : Iw w' B x := by
  have := h.lt
  unfold Iw; rw [hb.block B this]; exact h
theorem Iw.cells {w : World} {B : Nat} {p q : Option Addr} {n c m d : Nat} {zs : List Int} {L : List Wd} (h : Iw w B ⟨p, n, c, q, m, d, zs, L⟩) : w.cell? ⟨B, 0, none⟩ = some (.slice p n c) ∧ w.cell? ⟨B, 1, none⟩ = some (.slice q m d) := by
  refine ⟨?_, ?_⟩ <;> (rw [cell_of_row _ _ _ _ _ _ h]; rfl)
theorem Iw.frozen {w : World} {B : Nat} {x : Ni} (h : Iw w B x) (j : Nat) : w.frozen? ⟨B, j, none⟩ = false := frozen_of_row w B j _ _ h
theorem Ow.stored {w w' : World} {B g : Nat} {y : Ni} (hg : Iw w g y) (hk : ∀ k, k ≠ g → w'.heap[k]? = w.heap[k]?) {v : Value} {L : List Wd} (h : Ow w B v L) : Ow w' B v L := by
  obtain ⟨hok, hl, h2⟩ := h
  refine ⟨fun x hx => Wd.fit_stored hg.sl2 hk (hok x hx), hl, ?_⟩
  rcases h2 with h2 | ⟨g', cap, cur, hv, hB, hg', r⟩
  · exact Or.inl h2
  · have hne : g' ≠ g := fun e => by
      subst e
      unfold Iw at hg
      rw [hg] at hg'
      simp at hg'
    exact Or.inr ⟨g', cap, cur, hv, hB, by rw [hk g' hne]; exact hg', r⟩
theorem Iw.not_own {w : World} {B g : Nat} {y : Ni} (hg : Iw w g y) {v : Value} {L : List Wd} (h : Ow w B v L) : some g ≠ v.ownBlock := by
  rcases h.2.2 with ⟨rfl, _⟩ | ⟨g', cap, cur, rfl, hB, hg', r⟩
  · intro h; cases h
  · intro e
    have e' : g = g' := by simpa [Value.ownBlock] using e
    subst e'
    unfold Iw at hg
    rw [hg] at hg'
    simp at hg'
theorem Iw.grown {w w' : World} {B g : Nat} {y : Ni} (hg : Iw w g y) {v : Value} {L : List Wd} (h : Ow w B v L) (hw : w.grownBy w' v.ownBlock) : Iw w' g y := by
  have := hw.block g hg.lt (hg.not_own h)
  unfold Iw
  rw [this]
  exact hg
theorem Iw.set1 {w : World} {g : Nat} {x : Ni} (h : Iw w g x) (q : Option Addr) (m d : Nat) (L : List Wd) : Iw (w.setCell ⟨g, 1, none⟩ (.slice q m d)) g ⟨x.p, x.n, x.c, q, m, d, x.zs, L⟩ := by
  unfold Iw at h ⊢
  rw [heap_setCell_same _ g 1 _ _ _ h]
  rfl
/-- bytes that lie apart from a row of the call's own -/
def ApB (v : Value) (p : Option Addr) (n : Nat) : Prop := 0 < n → ∀ a, p = some a → v.ownBlock ≠ some a.block
theorem Bs.grown {w w' : World} {v : Value} {p : Option Addr} {n : Nat} {zs : List Int} (h : Bs w p n zs) (ha : ApB v p n) (hg : w.grownBy w' v.ownBlock) : Bs w' p n zs := by
  obtain ⟨h1, h2, h3⟩ := h
  refine ⟨h1, h2, ?_⟩
  rcases h3 with h0 | ⟨b, off, hp, hc⟩
  · exact Or.inl h0
  · refine Or.inr ⟨b, off, hp, fun j hj => ?_⟩
    exact hg.cell (hc j hj) (fun e => ha (by omega) _ hp e.symm)
theorem apB_of {w w' : World} {B B' n c m d : Nat} {p q : Option Addr} {e : TypeId} {zs : List Int} {L : List Wd} (h : Ob w B e (.slice p n c) zs) (ho : Ow w' B' (.slice q m d) L) (hB : w'.heap.size ≤ B) : ApB (.slice q m d) p n := by
  intro _ a ha e
  have h1 := (h.2.lt a.block (by rw [ha]; rfl)).1
  have h2 := (ho.2.lt a.block e).2
  omega
/-- an empty file -/
def ni0 : Ni := ⟨none, 0, 0, none, 0, 0, [], []⟩
end Go.Proofs.YtncbgddgkpaoeaaGreat
