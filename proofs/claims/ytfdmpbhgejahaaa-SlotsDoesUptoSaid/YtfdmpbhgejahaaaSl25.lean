/- Digests and rows of digests that come in as a statement's arguments -/
import Derived.Test.YtfdmpbhgejahaaaSl5
import Derived.Test.YtfdmpbhgejahaaaSl9
import Derived.WideKeyArr2
set_option linter.unusedSimpArgs false
set_option linter.unusedVariables false
namespace Go.Proofs.Ytfdmpbhgejahaaa
set_option linter.unusedVariables false
open Go.RowKit Go.Lib Go.ChangeShapes Go.WideShapes Go.ChangeAt

theorem arrD : WideMaps.ArrKey Try.prog 30 5 32 := ⟨Try.underlying30, plain8, cells8, cells24⟩
set_option maxRecDepth 100000 in
/-- A digest, opened. -/
theorem open_digT {H : Type} {enc : TypeId × Value → H} {W : World} {r : Reach} {b0 base : Nat} {sp : Nat → Bool} {held : Bool} {v : Value} {d : DataW H} {ps : List MemPlace} (hval : Value.okWide Try.prog W r b0 30 v)
    (h : DataW.Trod enc Try.prog W base sp held 30 v d ps) : ∃ zs, v = .agg (bcs zs) ∧ dok zs ∧ Rows.uptoBulk d = 33 := by
  obtain ⟨xs, rfl, hx⟩ := WideMaps.okWide_arr arrD hval
  obtain ⟨fuel, hf⟩ := h
  obtain ⟨zs, hok, hcs, hb, _⟩ := open_dig hf
  refine ⟨zs, ?_, hok, hb⟩
  have e : xs.toList = zs.map (Value.int .u8) := hcs
  rw [bcs, ← e]
/-- A row of digests, opened. -/
theorem open_digs {H : Type} {enc : TypeId × Value → H} {W : World} {base : Nat} {held : Bool} {fuel : Nat} {a0 : Option Addr} {len cap : Nat} {x : DataW H × List MemPlace}
    (h : DataW.trod enc Try.prog W base (fun _ => true) held fuel 44 [.slice a0 len cap] = some x) :
    len ≤ cap ∧ cap ≤ maxLen ∧ (a0 = none → cap = 0) ∧ 33 * len + 1 ≤ Rows.uptoBulk x.1 ∧ ∃ L, Ds W a0 len L := by
  rcases DataW.trod_slice Try.underlying44 h with ⟨hcs, hx⟩ | ⟨a, len', cap', elems, rest, n, _, hcs, hx, hba, hl, hm, hel, hi, _, _⟩
  · simp at hcs
    obtain ⟨rfl, rfl, rfl⟩ := hcs
    subst hx
    exact ⟨Nat.le_refl _, by simp, fun _ => rfl, by simp [Rows.uptoBulk], [], rfl, by simp, Or.inl rfl⟩
  · simp at hcs
    obtain ⟨rfl, rfl, rfl⟩ := hcs
    rw [cells24] at hi
    have hc : ∀ i, i < len → ∃ zs, dok zs ∧ (∀ k, k < 32 → W.cell? ((a.add (i * 32)).add k) = some (.int .u8 (zs.getD k 0))) ∧ ∃ y, elems[i]? = some y ∧ Rows.uptoBulk y.1 = 33 := by
      intro i hil
      have h1 := hi i hil
      have hy : elems[i]? = some (elems[i]'(by omega)) := List.getElem?_eq_getElem _
      rw [hy] at h1
      obtain ⟨cs, h2, h3⟩ := Option.bind_eq_some_iff.1 h1
      obtain ⟨zs, hok, hcs, hb, _⟩ := open_dig h3
      obtain ⟨_, _, h4⟩ := World.cells?_some h2
      refine ⟨zs, hok, fun k hk => ?_, _, hy, hb⟩
      have hkz : k < zs.length := by rw [hok.1]; exact hk
      rw [h4 k hk, hcs, List.getElem?_map, List.getElem?_eq_getElem hkz, List.getD_eq_getElem?_getD, List.getElem?_eq_getElem hkz]
      rfl
    have hbulk : ∀ ys : List (DataW H × List MemPlace), (∀ y ∈ ys, Rows.uptoBulk y.1 = 33) → Rows.uptoBulkAll (ys.map (·.1)) = 33 * ys.length := by
      intro ys
      induction ys with
      | nil => intro _; rfl
      | cons y ys ih =>
        intro hy
        simp only [List.map_cons, Rows.uptoBulkAll, List.length_cons, hy y (by simp), ih (fun z hz => hy z (by simp [hz]))]
        omega
    refine ⟨hl, hm, by simp, ?_, ?_⟩
    · subst hx
      simp only [Rows.uptoBulk]
      rw [hbulk elems (fun y hy => ?_), hel]
      · omega
      · obtain ⟨i, h1, h2⟩ := List.getElem_of_mem hy
        obtain ⟨_, _, _, y', h3, h4⟩ := hc i (by omega)
        rw [List.getElem?_eq_getElem h1, h2] at h3
        simp only [Option.some.injEq] at h3
        rw [h3]; exact h4
    · by_cases h0 : len = 0
      · subst h0
        exact ⟨[], rfl, by simp, Or.inl rfl⟩
      · obtain ⟨b, off, spot⟩ := a
        have hspot : spot = none := by
          obtain ⟨_, _, h2, _⟩ := hc 0 (by omega)
          simpa [Addr.add] using World.cell?_spot (h2 0 (by omega))
        subst hspot
        let f : Nat → List Int := fun i => (List.range 32).map fun k => intOf ((W.cell? ⟨b, off + (i * 32 + k), none⟩).getD undef)
        have hf : ∀ i, i < len → ∀ zs, dok zs → (∀ k, k < 32 → W.cell? ((Addr.add ⟨b, off, none⟩ (i * 32)).add k) = some (.int .u8 (zs.getD k 0))) → f i = zs := by
          intro i _ zs hok hz
          refine digest_ext (by simp [f]) hok.1 fun k hk => ?_
          have h2 := hz k hk
          rw [WideShapes.add_plain, WideShapes.add_plain, Nat.add_assoc] at h2
          simp only [f, List.getD_eq_getElem?_getD, List.getElem?_map]
          rw [List.getElem?_range hk]
          simp only [Option.map_some, Option.getD_some, h2]
          rfl
        refine ⟨(List.range len).map f, by simp, fun d hd => ?_, Or.inr ⟨b, off, rfl, fun j k hj hk => ?_⟩⟩
        · obtain ⟨i, hil, rfl⟩ := List.mem_map.1 hd
          have hil := List.mem_range.1 hil
          obtain ⟨zs, hok, hz, _⟩ := hc i hil
          rw [hf i hil zs hok hz]; exact hok
        · obtain ⟨zs, hok, hz, _⟩ := hc j hj
          have e : ((List.range len).map f).getD j [] = zs := by
            rw [List.getD_eq_getElem?_getD, List.getElem?_map, List.getElem?_range hj]
            exact hf j hj zs hok hz
          have h2 := hz k hk
          rw [WideShapes.add_plain, WideShapes.add_plain, Nat.add_assoc] at h2
          rw [e]; exact h2
end Go.Proofs.Ytfdmpbhgejahaaa
