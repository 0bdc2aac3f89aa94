/- Layer 10: a file that comes in as a statement's argument. -/
import Derived.Test.YtapobakolnlpmaaInoC
import Derived.Lib.SmallJoins
namespace Go.Proofs.Ytapobakolnlpmaa
set_option linter.unusedVariables false
open Go.RowKit Go.Lib Go.ChangeShapes Go.WideShapes Go.ChangeAt Go.Deep

theorem bulk_mem {H : Type} : ∀ {ys : List (DataW H × List MemPlace)} {y : DataW H × List MemPlace}, y ∈ ys → Rows.uptoBulk y.1 ≤ Rows.uptoBulkAll (ys.map (·.1)) := by
  intro ys
  induction ys with
  | nil => intro y hy; cases hy
  | cons z ys ih =>
    intro y hy
    simp only [List.map_cons, Rows.uptoBulkAll]
    rcases List.mem_cons.1 hy with rfl | hy
    · omega
    · have := ih hy; omega
/-- A row of changes, opened, with what its bytes weigh. -/
theorem open_wds2 {H : Type} {enc : TypeId × Value → H} {W : World} {base : Nat} {held : Bool} {fuel : Nat} {a0 : Option Addr} {len cap : Nat} {x : DataW H × List MemPlace}
    (h : DataW.trod enc Try.prog W base (fun _ => true) held fuel 23 [.slice a0 len cap] = some x) :
    len ≤ cap ∧ cap ≤ maxLen ∧ (a0 = none → cap = 0) ∧ 4 * len + 1 ≤ Rows.uptoBulk x.1 ∧ ∃ L, Ws W a0 len L ∧ ∀ u ∈ L, u.n ≤ Rows.uptoBulk x.1 := by
  rcases DataW.trod_slice Try.underlying23 h with ⟨hcs, hx⟩ | ⟨a, len', cap', elems, rest, n, _, hcs, hx, hba, hl, hm, hel, hi, _, _⟩
  · simp at hcs
    obtain ⟨rfl, rfl, rfl⟩ := hcs
    subst hx
    exact ⟨Nat.le_refl _, by simp, fun _ => rfl, by simp [Rows.uptoBulk], [], ⟨rfl, by simp, Or.inl rfl⟩, by simp⟩
  · simp at hcs
    obtain ⟨rfl, rfl, rfl⟩ := hcs
    rw [cellsW] at hi
    have hc : ∀ i, i < len → ∃ q : Wd, Wd.fit W q ∧ (W.cell? (a.add (i * 3)) = some (.bool q.c.cut) ∧ W.cell? ((a.add (i * 3)).add 1) = some (.int .i64 q.c.off) ∧ W.cell? ((a.add (i * 3)).add 2) = some (.slice q.p q.n q.cap)) ∧ ∃ y, elems[i]? = some y ∧ 4 + q.cap ≤ Rows.uptoBulk y.1 := by
      intro i hil
      have h1 := hi i hil
      have hy : elems[i]? = some (elems[i]'(by omega)) := List.getElem?_eq_getElem _
      rw [hy] at h1
      obtain ⟨cs, h2, h3⟩ := Option.bind_eq_some_iff.1 h1
      obtain ⟨q, hok, hcs, hb⟩ := open_wd h3
      obtain ⟨_, _, h4⟩ := World.cells?_some h2
      subst hcs
      refine ⟨q, hok, ⟨?_, h4 1 (by omega), h4 2 (by omega)⟩, _, hy, hb⟩
      have := h4 0 (by omega)
      have e : ∀ b : Addr, b.add 0 = b := fun b => by unfold Addr.add; split <;> simp_all
      rw [e] at this
      exact this
    have hbulk : ∀ ys : List (DataW H × List MemPlace), (∀ y ∈ ys, 4 ≤ Rows.uptoBulk y.1) → 4 * ys.length ≤ Rows.uptoBulkAll (ys.map (·.1)) := by
      intro ys
      induction ys with
      | nil => intro _; simp
      | cons y ys ih =>
        intro hy
        have h1 := hy y (by simp)
        have h2 := ih (fun z hz => hy z (by simp [hz]))
        simp only [List.map_cons, Rows.uptoBulkAll, List.length_cons]
        omega
    have hcap : ∀ i (hil : i < len) (q : Wd) (y : DataW H × List MemPlace), Wd.fit W q → elems[i]? = some y → 4 + q.cap ≤ Rows.uptoBulk y.1 → q.n ≤ Rows.uptoBulk x.1 := by
      intro i hil q y hq hy hb
      have h1 := bulk_mem (List.mem_of_getElem? hy)
      have h2 := hq.2.2.1
      subst hx
      simp only [Rows.uptoBulk]
      omega
    refine ⟨hl, hm, by simp, ?_, ?_⟩
    · subst hx
      simp only [Rows.uptoBulk]
      have := hbulk elems (fun y hy => by
        obtain ⟨i, h1, h2⟩ := List.getElem_of_mem hy
        obtain ⟨_, _, _, y', h3, h4⟩ := hc i (by omega)
        rw [List.getElem?_eq_getElem h1, h2] at h3
        simp only [Option.some.injEq] at h3
        rw [h3]; omega)
      omega
    · by_cases h0 : len = 0
      · subst h0
        exact ⟨[], ⟨rfl, by simp, Or.inl rfl⟩, by simp⟩
      · obtain ⟨b, off, spot⟩ := a
        have hspot : spot = none := by
          obtain ⟨_, _, ⟨h2, _⟩, _⟩ := hc 0 (by omega)
          simpa [Addr.add] using World.cell?_spot h2
        subst hspot
        have hc' : ∀ i, ∃ q : Wd, i < len → Wd.fit W q ∧ (W.cell? ⟨b, off + i * 3, none⟩ = some (.bool q.c.cut) ∧ W.cell? ⟨b, off + i * 3 + 1, none⟩ = some (.int .i64 q.c.off) ∧ W.cell? ⟨b, off + i * 3 + 2, none⟩ = some (.slice q.p q.n q.cap)) ∧ q.n ≤ Rows.uptoBulk x.1 := by
          intro i
          by_cases hil : i < len
          · obtain ⟨q, h1, h2, y, h3, h4⟩ := hc i hil
            simp only [WideShapes.add_plain] at h2
            exact ⟨q, fun _ => ⟨h1, h2, hcap i hil q y h1 h3 h4⟩⟩
          · exact ⟨wd0, fun h => absurd h hil⟩
        let f : Nat → Wd := fun i => Classical.choose (hc' i)
        have hf : ∀ i, i < len → _ := fun i => Classical.choose_spec (hc' i)
        refine ⟨(List.range len).map f, ⟨by simp, fun d hd => ?_, Or.inr ⟨b, off, rfl, fun j hj => ?_⟩⟩, fun d hd => ?_⟩
        · obtain ⟨i, hil, rfl⟩ := List.mem_map.1 hd
          exact (hf i (List.mem_range.1 hil)).1
        · have e : ((List.range len).map f).getD j wd0 = f j := by
            rw [List.getD_eq_getElem?_getD, List.getElem?_map, List.getElem?_range hj]
            rfl
          rw [e]
          exact (hf j hj).2.1
        · obtain ⟨i, hil, rfl⟩ := List.mem_map.1 hd
          exact (hf i (List.mem_range.1 hil)).2.2

/-- A file, opened. -/
theorem open_ino {H : Type} {enc : TypeId × Value → H} {W : World} {base : Nat} {held : Bool} {r : Reach} {b0 : Nat} {v : Value} {d : DataW H} {ps : List MemPlace} (hv : Value.okWide Try.prog W r b0 25 v)
    (h : DataW.Trod enc Try.prog W base (fun _ => true) held 25 v d ps) (hk : Rows.uptoBulk d ≤ 1048576) :
    ∃ x : Ni, v = x.v ∧ Ni.fit W x ∧ x.fi.b.length ≤ 1048576 ∧ x.fi.l.length ≤ 262144 ∧ (∀ c ∈ x.fi.l, c.dat.length ≤ 1048576) := by
  obtain ⟨v0, v1, y0, y1, n, rfl, rfl, _, s0, s1⟩ := Joins.open_agg2 Try.underlying25 (by kernel_rfl) (by kernel_rfl) hv h
  have e3 : Try.prog.cellsOf 5 = 1 := by kernel_rfl
  obtain ⟨a0, len, cap, zs, rfl, hlc, hcm, hpc, hbk, hbs⟩ := open_bs' Try.underlying22 Try.underlying5 e3 s0
  have hsl : ∃ a1 len1 cap1, v1 = .slice a1 len1 cap1 := by
    rcases DataW.trod_slice Try.underlying23 s1 with ⟨hcs, _⟩ | ⟨a, len', cap', elems, rest, n, _, hcs, _⟩
    · simp only [List.cons.injEq, and_true] at hcs; exact ⟨_, _, _, hcs⟩
    · simp only [List.cons.injEq, and_true] at hcs; exact ⟨_, _, _, hcs⟩
  obtain ⟨a1, len1, cap1, rfl⟩ := hsl
  obtain ⟨hl1, hm1, hp1, hb1, L, hL, hLn⟩ := open_wds2 s1
  have hb0 : Rows.uptoBulk (DataW.agg [y0.1, y1.1]) ≤ 1048576 := hk
  simp only [Rows.uptoBulk, Rows.uptoBulkAll, hbk] at hb0
  refine ⟨⟨a0, len, cap, a1, len1, cap1, zs, L⟩, rfl, ⟨hbs, hpc, hlc, hL, hp1, hl1⟩, ?_, ?_, ?_⟩
  · show zs.length ≤ _
    rw [hbs.1]; omega
  · show (chs L).length ≤ _
    rw [chs_length, hL.1]
    omega
  · intro c hc
    obtain ⟨u, hu, rfl⟩ := List.mem_map.1 hc
    rw [(hL.2.1 u hu).1.1]
    have := hLn u hu
    omega
end Go.Proofs.Ytapobakolnlpmaa
