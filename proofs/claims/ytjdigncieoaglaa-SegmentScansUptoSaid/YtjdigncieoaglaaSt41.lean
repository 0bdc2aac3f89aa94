/- Layer 14, the law's arguments, opened: a record, a place -/
import Derived.Test.YtjdigncieoaglaaSt11
import Derived.Test.YtjdigncieoaglaaSt12
import Derived.Lib.SmallJoins
set_option linter.unusedSimpArgs false
set_option linter.unusedVariables false
namespace Go.Proofs.Ytjdigncieoaglaa
set_option linter.unusedVariables false
open Go.RowKit Go.Lib Go.ChangeShapes Go.WideShapes Go.ChangeAt

section
variable {H : Type} {enc : TypeId × Value → H} {W : World} {base : Nat} {held : Bool}
theorem trod_struct7 {P : Program} {spare : Nat → Bool} {t : TypeId} {f0 f1 f2 f3 f4 f5 f6 : Field} {fuel : Nat} {cs : List Value} {x : DataW H × List MemPlace} (ht : P.underlying t = some (.struct #[f0, f1, f2, f3, f4, f5, f6])) (h : DataW.trod enc P W base spare held fuel t cs = some x) :
    ∃ y0 y1 y2 y3 y4 y5 y6 n, x.1 = .agg [y0.1, y1.1, y2.1, y3.1, y4.1, y5.1, y6.1] ∧ cs.length = P.cellsOf t ∧ DataW.trod enc P W base spare held n f0.type ((cs.drop f0.offset).take (P.cellsOf f0.type)) = some y0 ∧ DataW.trod enc P W base spare held n f1.type ((cs.drop f1.offset).take (P.cellsOf f1.type)) = some y1 ∧ DataW.trod enc P W base spare held n f2.type ((cs.drop f2.offset).take (P.cellsOf f2.type)) = some y2 ∧ DataW.trod enc P W base spare held n f3.type ((cs.drop f3.offset).take (P.cellsOf f3.type)) = some y3 ∧ DataW.trod enc P W base spare held n f4.type ((cs.drop f4.offset).take (P.cellsOf f4.type)) = some y4 ∧ DataW.trod enc P W base spare held n f5.type ((cs.drop f5.offset).take (P.cellsOf f5.type)) = some y5 ∧ DataW.trod enc P W base spare held n f6.type ((cs.drop f6.offset).take (P.cellsOf f6.type)) = some y6 := by
  obtain ⟨xs, n, _, rfl, hl, hlen, hf⟩ := DataW.trod_struct ht h
  match xs, hlen with
  | [y0, y1, y2, y3, y4, y5, y6], _ => exact ⟨y0, y1, y2, y3, y4, y5, y6, n, by simp, hl, by simpa using hf 0 f0 rfl, by simpa using hf 1 f1 rfl, by simpa using hf 2 f2 rfl, by simpa using hf 3 f3 rfl, by simpa using hf 4 f4 rfl, by simpa using hf 5 f5 rfl, by simpa using hf 6 f6 rfl⟩
theorem trod_struct3 {P : Program} {spare : Nat → Bool} {t : TypeId} {f0 f1 f2 : Field} {fuel : Nat} {cs : List Value} {x : DataW H × List MemPlace} (ht : P.underlying t = some (.struct #[f0, f1, f2])) (h : DataW.trod enc P W base spare held fuel t cs = some x) :
    ∃ y0 y1 y2 n, x.1 = .agg [y0.1, y1.1, y2.1] ∧ cs.length = P.cellsOf t ∧ DataW.trod enc P W base spare held n f0.type ((cs.drop f0.offset).take (P.cellsOf f0.type)) = some y0 ∧ DataW.trod enc P W base spare held n f1.type ((cs.drop f1.offset).take (P.cellsOf f1.type)) = some y1 ∧ DataW.trod enc P W base spare held n f2.type ((cs.drop f2.offset).take (P.cellsOf f2.type)) = some y2 := by
  obtain ⟨xs, n, _, rfl, hl, hlen, hf⟩ := DataW.trod_struct ht h
  match xs, hlen with
  | [y0, y1, y2], _ => exact ⟨y0, y1, y2, n, by simp, hl, by simpa using hf 0 f0 rfl, by simpa using hf 1 f1 rfl, by simpa using hf 2 f2 rfl⟩

theorem cut7 {α : Type} (cs : List α) (h : cs.length = 38) : cs = (cs.drop 0).take 1 ++ ((cs.drop 1).take 1 ++ ((cs.drop 2).take 32 ++ ((cs.drop 34).take 1 ++ ((cs.drop 35).take 1 ++ ((cs.drop 36).take 1 ++ (cs.drop 37).take 1))))) := by
  have e (a b : Nat) : cs.drop a = (cs.drop a).take b ++ cs.drop (a + b) := by
    rw [← List.drop_drop, List.take_append_drop]
  have h7 : cs.drop 37 = (cs.drop 37).take 1 := by rw [List.take_of_length_le (by rw [List.length_drop]; omega)]
  have h6 := e 36 1
  have h5 := e 35 1
  have h4 := e 34 1
  have h3 := e 2 32
  have h2 := e 1 1
  have h1 := e 0 1
  simp only [Nat.reduceAdd] at h6 h5 h4 h3 h2 h1
  rw [← h7, ← h6, ← h5, ← h4, ← h3, ← h2, ← h1, List.drop_zero]

set_option maxRecDepth 100000 in
theorem open_recL (fuel : Nat) (cs : List Value) (x : DataW H × List MemPlace) (h : DataW.trod enc Try.prog W base (fun _ => true) held fuel 29 cs = some x) (hbk : Rows.uptoBulk x.1 ≤ 1048576) :
    ∃ r : Rq, cs = mixL r.a r.dg r.z ∧ r.Fit W ∧ r.c + r.nm.size ≤ Rows.uptoBulk x.1 := by
  obtain ⟨y0, y1, y2, y3, y4, y5, y6, m, hx, hl, h0, h1, h2, h3, h4, h5, h6⟩ := trod_struct7 Try.underlying29 h
  have ec : Try.prog.cellsOf 29 = 38 := by kernel_rfl
  rw [ec] at hl
  have e0 : Try.prog.cellsOf 3 = 1 := by kernel_rfl
  have e1 : Try.prog.cellsOf 22 = 1 := by kernel_rfl
  have e2 : Try.prog.cellsOf 27 = 32 := by kernel_rfl
  have e3 : Try.prog.cellsOf 9 = 1 := by kernel_rfl
  have e4 : Try.prog.cellsOf 23 = 1 := by kernel_rfl
  have e5 : Try.prog.cellsOf 5 = 1 := by kernel_rfl
  simp only [e0, e1, e2, e3, e4] at h0 h1 h2 h3 h4 h5 h6
  have hc := cut7 cs hl
  have one : ∀ a, a < 38 → ∃ v, (cs.drop a).take 1 = [v] := fun a ha => by
    rw [List.drop_eq_getElem_cons (by omega)]
    exact ⟨_, rfl⟩
  obtain ⟨v0, q0⟩ := one 0 (by omega)
  obtain ⟨v1, q1⟩ := one 1 (by omega)
  obtain ⟨v3, q3⟩ := one 34 (by omega)
  obtain ⟨v4, q4⟩ := one 35 (by omega)
  obtain ⟨v5, q5⟩ := one 36 (by omega)
  obtain ⟨v6, q6⟩ := one 37 (by omega)
  rw [q0] at h0 hc
  rw [q1] at h1 hc
  rw [q3] at h3 hc
  rw [q4] at h4 hc
  rw [q5] at h5 hc
  rw [q6] at h6 hc
  obtain ⟨k, rfl, hw0⟩ := open_int' Try.underlying3 h0
  obtain ⟨s, rfl, hw1⟩ := open_int' Try.underlying22 h1
  obtain ⟨dg, hdg, hdc, _, _⟩ := open_dig h2
  obtain ⟨nm, rfl, hnm, hb3⟩ := open_str' Try.underlying9 h3
  obtain ⟨p, n, c, da, rfl, hlc, hcm, hpc, hb4, hbs⟩ := open_bs' Try.underlying23 Try.underlying5 e5 h4
  obtain ⟨N, rfl, hw5⟩ := open_int' Try.underlying3 h5
  obtain ⟨Z, rfl, hw6⟩ := open_int' Try.underlying3 h6
  refine ⟨⟨k, s, dg, nm, p, n, c, da, N, Z⟩, ?_, ⟨hbs, hpc, hlc, hcm, hdg, ?_, wf_u64 hw1, wf_i64 hw0, wf_i64 hw5, wf_i64 hw6⟩, ?_⟩
  · rw [hc, hdc]
    rfl
  · dsimp only
    rw [hx] at hbk
    simp only [Rows.uptoBulk, Rows.uptoBulkAll, hb3, hb4] at hbk
    omega
  · rw [hx]
    simp only [Rows.uptoBulk, Rows.uptoBulkAll, hb3, hb4]
    omega
set_option maxRecDepth 100000 in
theorem open_rec {r : Reach} {b0 : Nat} {v : Value} {d : DataW H} {ps : List MemPlace} (hv : Value.okWide Try.prog W r b0 29 v)
    (h : DataW.Trod enc Try.prog W base (fun _ => true) held 29 v d ps) (hbk : Rows.uptoBulk d ≤ 1048576) : ∃ r : Rq, v = r.v ∧ r.Fit W ∧ r.c + r.nm.size ≤ Rows.uptoBulk d := by
  obtain ⟨cs, rfl, hsz⟩ := okWide_struct Try.underlying29 hv
  obtain ⟨fuel, hf⟩ := h
  obtain ⟨r, e, g, hb⟩ := open_recL fuel cs.toList (d, ps) hf hbk
  refine ⟨r, ?_, g, hb⟩
  unfold Rq.v
  congr 1
  exact Array.toList_inj.1 e
set_option maxRecDepth 100000 in
theorem open_loc {r : Reach} {b0 : Nat} {v : Value} {d : DataW H} {ps : List MemPlace} (hv : Value.okWide Try.prog W r b0 48 v)
    (h : DataW.Trod enc Try.prog W base (fun _ => true) held 48 v d ps) : ∃ seg off len, v = locV seg off len ∧ (-9223372036854775808 ≤ seg ∧ seg ≤ 9223372036854775807) ∧ (-9223372036854775808 ≤ off ∧ off ≤ 9223372036854775807) ∧ (-9223372036854775808 ≤ len ∧ len ≤ 9223372036854775807) := by
  obtain ⟨cs, rfl, hsz⟩ := okWide_struct Try.underlying48 hv
  obtain ⟨fuel, hf⟩ := h
  obtain ⟨y0, y1, y2, m, hx, hl, h0, h1, h2⟩ := trod_struct3 Try.underlying48 hf
  have ec : Try.prog.cellsOf 48 = 3 := by kernel_rfl
  have e0 : Try.prog.cellsOf 3 = 1 := by kernel_rfl
  rw [ec] at hl
  obtain ⟨cs⟩ := cs
  match cs, hl with
  | [v0, v1, v2], _ =>
    simp only [e0, List.drop_succ_cons, List.drop_zero, List.take_succ_cons, List.take_zero] at h0 h1 h2
    obtain ⟨a, rfl, hw0⟩ := open_int' Try.underlying3 h0
    obtain ⟨b, rfl, hw1⟩ := open_int' Try.underlying3 h1
    obtain ⟨c, rfl, hw2⟩ := open_int' Try.underlying3 h2
    exact ⟨a, b, c, rfl, wf_i64 hw0, wf_i64 hw1, wf_i64 hw2⟩
end
end Go.Proofs.Ytjdigncieoaglaa
