/- Layer 7: floats, rows of floats and four whole numbers that come in as a statement's arguments. -/
import Derived.Test.YtfnhhkbjbjlckaaFloD
import Derived.Test.YtfnhhkbjbjlckaaLaw
namespace Go.Proofs.Ytfnhhkbjbjlckaa
set_option linter.unusedVariables false
open Go.RowKit Go.Lib Go.ChangeShapes Go.WideShapes Go.ChangeAt

theorem cells64 : Try.prog.cellsOf 22 = 1 := by kernel_rfl
theorem float_cell {H : Type} {enc : TypeId × Value → H} {W : World} {base : Nat} {sp : Nat → Bool} {held : Bool} {fuel : Nat} {v : Value} {x : DataW H × List MemPlace} (h : DataW.trod enc Try.prog W base sp held fuel 22 [v] = some x) : ∃ b, v = .float .f64 b ∧ b < 18446744073709551616 := by
  cases fuel with
  | zero => simp [DataW.trod] at h
  | succ n =>
    have hu := Try.underlying22
    cases v with
    | float k b =>
      simp only [DataW.trod, hu] at h
      by_cases hk : k = .f64 ∧ (Lit.float .f64 b).wf = true
      · exact ⟨b, by rw [hk.1], by simpa [Lit.wf] using hk.2⟩
      · rw [if_neg hk] at h; cases h
    | _ => simp [DataW.trod, hu] at h
/-- A row of floats, opened. -/
theorem open_floats {H : Type} {enc : TypeId × Value → H} {W : World} {base : Nat} {held : Bool} {fuel : Nat} {a0 : Option Addr} {len cap : Nat} {x : DataW H × List MemPlace}
    (h : DataW.trod enc Try.prog W base (fun _ => true) held fuel 30 [.slice a0 len cap] = some x) :
    len ≤ cap ∧ cap ≤ maxLen ∧ (a0 = none → cap = 0) ∧ ∃ L, Fs W a0 len L ∧ ∀ j, L.getD j 0 < 18446744073709551616 := by
  rcases DataW.trod_slice Try.underlying30 h with ⟨hcs, hx⟩ | ⟨a, len', cap', elems, rest, n, _, hcs, hx, hba, hl, hm, hel, hi, _, _⟩
  · simp at hcs
    obtain ⟨rfl, rfl, rfl⟩ := hcs
    exact ⟨Nat.le_refl _, by simp, fun _ => rfl, [], ⟨rfl, Or.inl rfl⟩, by simp⟩
  · simp at hcs
    obtain ⟨rfl, rfl, rfl⟩ := hcs
    rw [cells64] at hi
    have hc : ∀ i, i < len → ∃ b, W.cell? (a.add i) = some (.float .f64 b) ∧ b < 18446744073709551616 := by
      intro i hil
      have h1 := hi i hil
      have hy : elems[i]? = some (elems[i]'(by omega)) := List.getElem?_eq_getElem _
      rw [hy] at h1
      obtain ⟨cs, h2, h3⟩ := Option.bind_eq_some_iff.1 h1
      obtain ⟨_, hcs1, h4⟩ := World.cells?_some h2
      obtain ⟨v, rfl⟩ := List.length_eq_one_iff.1 hcs1
      have hv := float_cell h3
      obtain ⟨b, rfl, hb64⟩ := hv
      refine ⟨b, ?_, hb64⟩
      have h5 := h4 0 (by omega)
      rw [Nat.mul_one] at h5
      simpa [Addr.add] using h5
    refine ⟨hl, hm, by simp, ?_⟩
    by_cases h0 : len = 0
    · subst h0
      exact ⟨[], ⟨rfl, Or.inl rfl⟩, by simp⟩
    · obtain ⟨b, off, spot⟩ := a
      have hspot : spot = none := by
        obtain ⟨_, h2, _⟩ := hc 0 (by omega)
        simpa [Addr.add] using World.cell?_spot h2
      subst hspot
      let f : Nat → Nat := fun i => match W.cell? ⟨b, off + i, none⟩ with | some (.float .f64 x) => x | _ => 0
      have hf : ∀ j, j < len → W.cell? ⟨b, off + j, none⟩ = some (.float .f64 (((List.range len).map f).getD j 0)) ∧ ((List.range len).map f).getD j 0 < 18446744073709551616 := fun j hj => by
        obtain ⟨z, h2, h3⟩ := hc j hj
        rw [WideShapes.add_plain] at h2
        have e : ((List.range len).map f).getD j 0 = z := by
          rw [List.getD_eq_getElem?_getD, List.getElem?_map, List.getElem?_range hj]
          simp only [Option.map_some, Option.getD_some, f, h2]
        rw [e]; exact ⟨h2, h3⟩
      refine ⟨(List.range len).map f, ⟨by simp, Or.inr ⟨b, off, rfl, fun j hj => (hf j hj).1⟩⟩, fun j => ?_⟩
      by_cases hj : j < len
      · exact (hf j hj).2
      · rw [List.getD_eq_getElem?_getD, List.getElem?_eq_none (by simp; omega)]; simp
end Go.Proofs.Ytfnhhkbjbjlckaa
