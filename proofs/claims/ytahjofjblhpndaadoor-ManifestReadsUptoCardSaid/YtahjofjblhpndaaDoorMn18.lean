/- Layer 17, the laws' arguments, opened: references -/
import Derived.Test.YtahjofjblhpndaaDoorMn8
import Derived.Test.YtahjofjblhpndaaDoorMn10
import Derived.Lib.SmallJoins
set_option linter.unusedSimpArgs false
set_option linter.unusedVariables false
namespace Go.Proofs.YtahjofjblhpndaaDoor
set_option linter.unusedVariables false
open Go.RowKit Go.Lib Go.ChangeShapes Go.WideShapes Go.ChangeAt

theorem cut3 {α : Type} (cs : List α) (h : cs.length = 34) : cs = (cs.drop 0).take 1 ++ ((cs.drop 1).take 32 ++ (cs.drop 33).take 1) := by
  have e (a b : Nat) : cs.drop a = (cs.drop a).take b ++ cs.drop (a + b) := by
    rw [← List.drop_drop, List.take_append_drop]
  have h3 : cs.drop 33 = (cs.drop 33).take 1 := by rw [List.take_of_length_le (by rw [List.length_drop]; omega)]
  have h2 := e 1 32
  have h1 := e 0 1
  simp only [Nat.reduceAdd] at h2 h1
  rw [← h3, ← h2, ← h1, List.drop_zero]
section
variable {H : Type} {enc : TypeId × Value → H} {W : World} {base : Nat} {held : Bool}
theorem trod_struct3R {P : Program} {spare : Nat → Bool} {t : TypeId} {f0 f1 f2 : Field} {fuel : Nat} {cs : List Value} {x : DataW H × List MemPlace} (ht : P.underlying t = some (.struct #[f0, f1, f2])) (h : DataW.trod enc P W base spare held fuel t cs = some x) :
    ∃ y0 y1 y2 n, x.1 = .agg [y0.1, y1.1, y2.1] ∧ cs.length = P.cellsOf t ∧ DataW.trod enc P W base spare held n f0.type ((cs.drop f0.offset).take (P.cellsOf f0.type)) = some y0 ∧ DataW.trod enc P W base spare held n f1.type ((cs.drop f1.offset).take (P.cellsOf f1.type)) = some y1 ∧ DataW.trod enc P W base spare held n f2.type ((cs.drop f2.offset).take (P.cellsOf f2.type)) = some y2 := by
  obtain ⟨xs, n, _, rfl, hl, hlen, hf⟩ := DataW.trod_struct ht h
  match xs, hlen with
  | [y0, y1, y2], _ => exact ⟨y0, y1, y2, n, by simp, hl, by simpa using hf 0 f0 rfl, by simpa using hf 1 f1 rfl, by simpa using hf 2 f2 rfl⟩
set_option maxRecDepth 100000 in
theorem open_rf (fuel : Nat) (cs : List Value) (x : DataW H × List MemPlace) (h : DataW.trod enc Tryd.prog W base (fun _ => true) held fuel encRf.t cs = some x) :
    ∃ q : Fx, cs = encRf.f q ∧ q.1.Ok ∧ 1 ≤ Rows.uptoBulk x.1 := by
  have h' : DataW.trod enc Tryd.prog W base (fun _ => true) held fuel 41 cs = some x := h
  obtain ⟨y0, y1, y2, m, hx, hl, h0, h1, h2⟩ := trod_struct3R Tryd.underlying41 h'
  have ec : Tryd.prog.cellsOf 41 = 34 := by kernel_rfl
  rw [ec] at hl
  have e0 : Tryd.prog.cellsOf 4 = 1 := by kernel_rfl
  have e1 : Tryd.prog.cellsOf 39 = 32 := by kernel_rfl
  have e2 : Tryd.prog.cellsOf 3 = 1 := by kernel_rfl
  simp only [e0, e1, e2] at h0 h1 h2
  have hc := cut3 cs hl
  have one : ∀ a, a < 34 → ∃ v, (cs.drop a).take 1 = [v] := fun a ha => by
    rw [List.drop_eq_getElem_cons (by omega)]
    exact ⟨_, rfl⟩
  obtain ⟨v0, q0⟩ := one 0 (by omega)
  obtain ⟨v2, q2⟩ := one 33 (by omega)
  rw [q0] at h0 hc
  rw [q2] at h2 hc
  obtain ⟨b, hb, _⟩ := DataW.trod_bool Tryd.underlying4 h0
  obtain ⟨dg, hdg, hdc, _, _⟩ := open_dig h1
  obtain ⟨z, hz, _, hw⟩ := DataW.trod_int Tryd.underlying3 h2
  rw [hb] at hc
  rw [hz] at hc
  refine ⟨⟨⟨b, dg, z⟩, hdg.1⟩, ?_, ⟨hdg, wf_i64 hw⟩, ?_⟩
  · rw [hc, hdc]
    rfl
  · rw [hx]
    simp only [Rows.uptoBulk]
    omega
theorem open_refs {fuel : Nat} {a0 : Option Addr} {len cap : Nat} {x : DataW H × List MemPlace}
    (h : DataW.trod enc Tryd.prog W base (fun _ => true) held fuel 22 [.slice a0 len cap] = some x) :
    len ≤ cap ∧ cap ≤ maxLen ∧ (a0 = none → cap = 0) ∧ ∃ L : List Fx, Gs encRf W a0 len L ∧ (∀ x ∈ L, x.1.Ok) ∧ len + 1 ≤ Rows.uptoBulk x.1 := by
  obtain ⟨hl0, hm0, hp0, L, hL, hLo, hLs⟩ := open_gs encRf Tryd.underlying22 (by kernel_rfl) (fun _ => 1) (fun q => q.1.Ok) open_rf h
  refine ⟨hl0, hm0, hp0, L, hL, hLo, ?_⟩
  have h1 := sum_len (sz := fun _ : Fx => 1) (fun _ => Nat.le_refl _) L
  have h2 := hL.len
  omega
end
end Go.Proofs.YtahjofjblhpndaaDoor
