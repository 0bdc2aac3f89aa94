/- Layer 9: rows of changes that come in as a statement's arguments -/
import Derived.Test.YtncbgddgkpaoeaaGreatDd3
import Derived.Test.YtncbgddgkpaoeaaGreatDd9
import Derived.Deep.Strs
set_option linter.unusedSimpArgs false
set_option linter.unusedVariables false
namespace Go.Proofs.YtncbgddgkpaoeaaGreat
set_option linter.unusedVariables false
open Go.RowKit Go.Lib Go.ChangeShapes Go.WideShapes Go.ChangeAt Go.Deep

/-- a change and where its bytes lie -/
structure Wd where
  c : Ch
  p : Option Addr
  n : Nat
  cap : Nat
def wd0 : Wd := ⟨⟨0, false, []⟩, none, 0, 0⟩
def Wd.fit (w : World) (x : Wd) : Prop := chIn w x.c x.p x.n x.cap
theorem wd0_fit (w : World) : Wd.fit w wd0 := ⟨Bs.empty w none, fun _ => rfl, Nat.le_refl _, by simp [wd0], by unfold InI64 wd0; simp⟩
/-- Changes that a slice reads as. -/
def Ws (w : World) (p : Option Addr) (n : Nat) (L : List Wd) : Prop :=
  L.length = n ∧ (∀ x ∈ L, Wd.fit w x) ∧ (n = 0 ∨ ∃ b off, p = some ⟨b, off, none⟩ ∧ ∀ j, j < n →
    w.cell? ⟨b, off + j * 3, none⟩ = some (.bool (L.getD j wd0).c.cut) ∧ w.cell? ⟨b, off + j * 3 + 1, none⟩ = some (.int .i64 (L.getD j wd0).c.off) ∧ w.cell? ⟨b, off + j * 3 + 2, none⟩ = some (.slice (L.getD j wd0).p (L.getD j wd0).n (L.getD j wd0).cap))
theorem Ws.fit {w : World} {p : Option Addr} {n : Nat} {L : List Wd} (h : Ws w p n L) (j : Nat) : Wd.fit w (L.getD j wd0) := by
  by_cases hl : j < L.length
  · rw [List.getD_eq_getElem?_getD, List.getElem?_eq_getElem hl]
    exact h.2.1 _ (List.getElem_mem hl)
  · rw [List.getD_eq_getElem?_getD, List.getElem?_eq_none (by omega)]
    exact wd0_fit w
theorem Ws.later {w w' : World} {p : Option Addr} {n : Nat} {L : List Wd} (h : Ws w p n L) (hb : Below w.heap.size w w') : Ws w' p n L := by
  obtain ⟨h1, h2, h3⟩ := h
  refine ⟨h1, fun x hx => (h2 x hx).later hb, ?_⟩
  rcases h3 with h3 | ⟨b, off, hp, hc⟩
  · exact Or.inl h3
  · refine Or.inr ⟨b, off, hp, fun j hj => ?_⟩
    obtain ⟨c0, c1, c2⟩ := hc j hj
    refine ⟨?_, ?_, ?_⟩
    · rw [hb.cell (World.block_lt_of_cell? w _ c0)]; exact c0
    · rw [hb.cell (World.block_lt_of_cell? w _ c1)]; exact c1
    · rw [hb.cell (World.block_lt_of_cell? w _ c2)]; exact c2
theorem Ws.take {w : World} {p : Option Addr} {n : Nat} {L : List Wd} (h : Ws w p n L) (m : Nat) (hm : m ≤ n) : Ws w p m (L.take m) := by
  obtain ⟨h1, h2, h3⟩ := h
  refine ⟨by rw [List.length_take]; omega, fun x hx => h2 x (List.mem_of_mem_take hx), ?_⟩
  rcases h3 with h3 | ⟨b, off, hp, hc⟩
  · exact Or.inl (by omega)
  · refine Or.inr ⟨b, off, hp, fun j hj => ?_⟩
    have e : (L.take m).getD j wd0 = L.getD j wd0 := by rw [List.getD_eq_getElem?_getD, List.getElem?_take_of_lt hj, List.getD_eq_getElem?_getD]
    rw [e]
    exact hc j (by omega)
theorem Ws.ptr {w : World} {p : Option Addr} {n : Nat} {L : List Wd} (h : Ws w p n L) (j : Nat) (hj : j < n) : ∃ b off, p = some ⟨b, off, none⟩ ∧
    w.cell? ⟨b, off + j * 3, none⟩ = some (.bool (L.getD j wd0).c.cut) ∧ w.cell? ⟨b, off + j * 3 + 1, none⟩ = some (.int .i64 (L.getD j wd0).c.off) ∧ w.cell? ⟨b, off + j * 3 + 2, none⟩ = some (.slice (L.getD j wd0).p (L.getD j wd0).n (L.getD j wd0).cap) := by
  rcases h.2.2 with h3 | ⟨b, off, hp, hc⟩
  · omega
  · exact ⟨b, off, hp, hc j hj⟩

theorem cellsW : Tryz.prog.cellsOf 137 = 3 := by kernel_rfl
set_option maxRecDepth 100000 in
/-- A change's cells, opened. -/
theorem open_wd {H : Type} {enc : TypeId × Value → H} {W : World} {base : Nat} {held : Bool} {fuel : Nat} {cs : List Value} {x : DataW H × List MemPlace} (h : DataW.trod enc Tryz.prog W base (fun _ => true) held fuel 137 cs = some x) :
    ∃ y : Wd, Wd.fit W y ∧ cs = [.bool y.c.cut, .int .i64 y.c.off, .slice y.p y.n y.cap] ∧ 4 + y.cap ≤ Rows.uptoBulk x.1 := by
  obtain ⟨y0, y1, y2, m, hx, hl, h0, h1, h2⟩ := trod_struct3 Tryz.underlying137 h
  rw [cellsW] at hl
  match cs, hl with
  | [v0, v1, v2], _ =>
    have e0 : Tryz.prog.cellsOf 4 = 1 := by kernel_rfl
    have e1 : Tryz.prog.cellsOf 3 = 1 := by kernel_rfl
    have e2 : Tryz.prog.cellsOf 32 = 1 := by kernel_rfl
    have e3 : Tryz.prog.cellsOf 5 = 1 := by kernel_rfl
    simp only [e0, e1, e2, List.drop_succ_cons, List.drop_zero, List.take_succ_cons, List.take_zero] at h0 h1 h2
    obtain ⟨b, hb, hy0⟩ := DataW.trod_bool Tryz.underlying4 h0
    obtain ⟨o, ho, hy1, hw⟩ := DataW.trod_int Tryz.underlying3 h1
    obtain ⟨a0, len, cap, zs, hv, hlc, hcm, hpc, hbk, hbs⟩ := open_bs' Tryz.underlying32 Tryz.underlying5 e3 h2
    simp only [List.cons.injEq, and_true] at hb ho
    subst hb ho hv
    refine ⟨⟨⟨o, b, zs⟩, a0, len, cap⟩, ⟨hbs, hpc, hlc, hcm, ?_⟩, rfl, ?_⟩
    · have := wf_i64 hw; unfold InI64; exact ⟨this.1, Int.lt_of_le_of_lt this.2 (by decide)⟩
    · subst hx
      simp only [Rows.uptoBulk, Rows.uptoBulkAll, hbk, hy0, hy1]
      omega
/-- A row of changes, opened. -/
theorem open_wds {H : Type} {enc : TypeId × Value → H} {W : World} {base : Nat} {held : Bool} {fuel : Nat} {a0 : Option Addr} {len cap : Nat} {x : DataW H × List MemPlace}
    (h : DataW.trod enc Tryz.prog W base (fun _ => true) held fuel 71 [.slice a0 len cap] = some x) :
    len ≤ cap ∧ cap ≤ maxLen ∧ (a0 = none → cap = 0) ∧ 4 * len + 1 ≤ Rows.uptoBulk x.1 ∧ ∃ L, Ws W a0 len L := by
  rcases DataW.trod_slice Tryz.underlying71 h with ⟨hcs, hx⟩ | ⟨a, len', cap', elems, rest, n, _, hcs, hx, hba, hl, hm, hel, hi, _, _⟩
  · simp at hcs
    obtain ⟨rfl, rfl, rfl⟩ := hcs
    subst hx
    exact ⟨Nat.le_refl _, by simp, fun _ => rfl, by simp [Rows.uptoBulk], [], rfl, by simp, Or.inl rfl⟩
  · simp at hcs
    obtain ⟨rfl, rfl, rfl⟩ := hcs
    rw [cellsW] at hi
    have hc : ∀ i, i < len → ∃ q : Wd, Wd.fit W q ∧ (W.cell? (a.add (i * 3)) = some (.bool q.c.cut) ∧ W.cell? ((a.add (i * 3)).add 1) = some (.int .i64 q.c.off) ∧ W.cell? ((a.add (i * 3)).add 2) = some (.slice q.p q.n q.cap)) ∧ ∃ y, elems[i]? = some y ∧ 4 ≤ Rows.uptoBulk y.1 := by
      intro i hil
      have h1 := hi i hil
      have hy : elems[i]? = some (elems[i]'(by omega)) := List.getElem?_eq_getElem _
      rw [hy] at h1
      obtain ⟨cs, h2, h3⟩ := Option.bind_eq_some_iff.1 h1
      obtain ⟨q, hok, hcs, hb⟩ := open_wd h3
      obtain ⟨_, _, h4⟩ := World.cells?_some h2
      subst hcs
      refine ⟨q, hok, ⟨?_, h4 1 (by omega), h4 2 (by omega)⟩, _, hy, by omega⟩
      have := h4 0 (by omega)
      have e : ∀ b : Addr, b.add 0 = b := fun b => by unfold Addr.add; split <;> simp_all
      rw [e] at this
      exact this
    have hbulk : ∀ ys : List (DataW H × List MemPlace), (∀ y ∈ ys, 4 ≤ Rows.uptoBulk y.1) → 4 * ys.length ≤ Rows.uptoBulkAll (ys.map (·.1)) := by
      intro ys
      induction ys with
      | nil => intro _; simp
      | cons y ys ih =>
        intro hy
        have h1 := hy y (by simp)
        have h2 := ih (fun z hz => hy z (by simp [hz]))
        simp only [List.map_cons, Rows.uptoBulkAll, List.length_cons]
        omega
    refine ⟨hl, hm, by simp, ?_, ?_⟩
    · subst hx
      simp only [Rows.uptoBulk]
      have := hbulk elems (fun y hy => by
        obtain ⟨i, h1, h2⟩ := List.getElem_of_mem hy
        obtain ⟨_, _, _, y', h3, h4⟩ := hc i (by omega)
        rw [List.getElem?_eq_getElem h1, h2] at h3
        simp only [Option.some.injEq] at h3
        rw [h3]; exact h4)
      omega
    · by_cases h0 : len = 0
      · subst h0
        exact ⟨[], rfl, by simp, Or.inl rfl⟩
      · obtain ⟨b, off, spot⟩ := a
        have hspot : spot = none := by
          obtain ⟨_, _, ⟨h2, _⟩, _⟩ := hc 0 (by omega)
          simpa [Addr.add] using World.cell?_spot h2
        subst hspot
        have hc' : ∀ i, ∃ q : Wd, i < len → Wd.fit W q ∧ (W.cell? ⟨b, off + i * 3, none⟩ = some (.bool q.c.cut) ∧ W.cell? ⟨b, off + i * 3 + 1, none⟩ = some (.int .i64 q.c.off) ∧ W.cell? ⟨b, off + i * 3 + 2, none⟩ = some (.slice q.p q.n q.cap)) := by
          intro i
          by_cases hil : i < len
          · obtain ⟨q, h1, h2, _⟩ := hc i hil
            simp only [WideShapes.add_plain] at h2
            exact ⟨q, fun _ => ⟨h1, h2⟩⟩
          · exact ⟨wd0, fun h => absurd h hil⟩
        let f : Nat → Wd := fun i => Classical.choose (hc' i)
        have hf : ∀ i, i < len → _ := fun i => Classical.choose_spec (hc' i)
        refine ⟨(List.range len).map f, by simp, fun d hd => ?_, Or.inr ⟨b, off, rfl, fun j hj => ?_⟩⟩
        · obtain ⟨i, hil, rfl⟩ := List.mem_map.1 hd
          exact (hf i (List.mem_range.1 hil)).1
        · have e : ((List.range len).map f).getD j wd0 = f j := by
            rw [List.getD_eq_getElem?_getD, List.getElem?_map, List.getElem?_range hj]
            rfl
          rw [e]
          exact (hf j hj).2
end Go.Proofs.YtncbgddgkpaoeaaGreat
