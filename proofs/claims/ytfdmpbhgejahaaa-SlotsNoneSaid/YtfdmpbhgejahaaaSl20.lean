/- Deeds in memory, and the law's argument opened -/
import Derived.Test.YtfdmpbhgejahaaaSl9
import Derived.Test.YtfdmpbhgejahaaaSl11
import Derived.Lib.SmallJoins
set_option linter.unusedSimpArgs false
set_option linter.unusedVariables false
namespace Go.Proofs.Ytfdmpbhgejahaaa
set_option linter.unusedVariables false
open Go.RowKit Go.Lib Go.ChangeShapes Go.WideShapes Go.ChangeAt

/-- a deed -/
structure De where
  k : Int
  dg : List Int
  v : Int
deriving DecidableEq
def De.a (x : De) : List Value := [.int .i64 x.k]
def De.t (x : De) : List Value := [.int .i64 x.v]
structure De.Ok (x : De) : Prop where
  dg : dok x.dg
  k : -9223372036854775808 ≤ x.k ∧ x.k ≤ 9223372036854775807
  v : -9223372036854775808 ≤ x.v ∧ x.v ≤ 9223372036854775807
abbrev Dx18 := { x : De // x.dg.length = 32 }
def encDe : Ec Dx18 where
  f := fun x => mixL x.1.a x.1.dg x.1.t
  k := 34
  t := 32
  d := ⟨⟨0, dzero, 0⟩, rfl⟩
  len := fun x => by rw [mixL_length, x.2]; rfl
  one := fun x v hv => by
    unfold mixL at hv
    rcases List.mem_append.1 hv with h | h
    · rw [De.a, List.mem_singleton] at h
      subst h
      rfl
    · rcases List.mem_append.1 h with h | h
      · obtain ⟨y, _, rfl⟩ := List.mem_map.1 h
        rfl
      · rw [De.t, List.mem_singleton] at h
        subst h
        rfl
  pos := by decide
/-- one of a row of deeds -/
theorem Gs.de {W : World} {p : Option Addr} {n : Nat} {L : List Dx18} (h : Gs encDe W p n L) (j : Nat) (hj : j < n) :
    ∃ b off x, p = some ⟨b, off, none⟩ ∧ L[j]? = some x ∧ x ∈ L ∧ W.rangeAt b (off + j * 34) (mixL x.1.a x.1.dg x.1.t) := by
  obtain ⟨b, off, hp, hc⟩ := h.ptr j hj
  have hl := h.len
  have hx : L[j]? = some (L[j]'(by omega)) := List.getElem?_eq_getElem _
  have e : L.getD j encDe.d = L[j]'(by omega) := by rw [List.getD_eq_getElem?_getD, hx]; rfl
  rw [e] at hc
  exact ⟨b, off, _, hp, hx, List.getElem_mem _, fun i v hv => hc i v hv⟩
theorem de_cells {W : World} {b o : Nat} {x : Dx18} (h : W.rangeAt b o (mixL x.1.a x.1.dg x.1.t)) : W.cell? ⟨b, o, none⟩ = some (.int .i64 x.1.k) ∧ W.rangeAt b (o + 1) (x.1.dg.map (Value.int .u8)) ∧ W.cell? ⟨b, o + 33, none⟩ = some (.int .i64 x.1.v) := by
  refine ⟨h 0 _ rfl, fun i v hv => ?_, ?_⟩
  · have h1 := h (1 + i) v (by
      unfold mixL
      rw [List.getElem?_append_right (by show 1 ≤ 1 + i; omega), show 1 + i - x.1.a.length = i by show 1 + i - 1 = i; omega, List.getElem?_append_left (List.getElem?_eq_some_iff.1 hv).1]
      exact hv)
    rwa [← Nat.add_assoc] at h1
  · exact h 33 _ (by
      unfold mixL
      rw [List.getElem?_append_right (by show 1 ≤ 33; omega), List.getElem?_append_right (by rw [List.length_map, x.2]; show 32 ≤ 33 - 1; omega), List.length_map, x.2]
      rfl)
theorem de_dig {W : World} {b o : Nat} {x : Dx18} (h : W.rangeAt b o (mixL x.1.a x.1.dg x.1.t)) : (Instr.loadAt 30 (.pointer (some ⟨b, o + 1, none⟩))).run Try.prog W = .ok (.agg (bcs x.1.dg)) W := by
  have h1 := run_loadAt_mid W b (o + 1) 30 _ _ (de_cells h).2.1 Try.underlying30 rfl (by rw [List.length_map, x.2]; exact size32)
  rw [h1]
  rfl
theorem cut3D {α : Type} (cs : List α) (h : cs.length = 34) : cs = (cs.drop 0).take 1 ++ ((cs.drop 1).take 32 ++ (cs.drop 33).take 1) := by
  have e (a b : Nat) : cs.drop a = (cs.drop a).take b ++ cs.drop (a + b) := by
    rw [← List.drop_drop, List.take_append_drop]
  have h3 : cs.drop 33 = (cs.drop 33).take 1 := by rw [List.take_of_length_le (by rw [List.length_drop]; omega)]
  have h2 := e 1 32
  have h1 := e 0 1
  simp only [Nat.reduceAdd] at h2 h1
  rw [← h3, ← h2, ← h1, List.drop_zero]
section
variable {H : Type} {enc : TypeId × Value → H} {W : World} {base : Nat} {held : Bool}
theorem trod_struct3D {P : Program} {spare : Nat → Bool} {t : TypeId} {f0 f1 f2 : Field} {fuel : Nat} {cs : List Value} {x : DataW H × List MemPlace} (ht : P.underlying t = some (.struct #[f0, f1, f2])) (h : DataW.trod enc P W base spare held fuel t cs = some x) :
    ∃ y0 y1 y2 n, x.1 = .agg [y0.1, y1.1, y2.1] ∧ cs.length = P.cellsOf t ∧ DataW.trod enc P W base spare held n f0.type ((cs.drop f0.offset).take (P.cellsOf f0.type)) = some y0 ∧ DataW.trod enc P W base spare held n f1.type ((cs.drop f1.offset).take (P.cellsOf f1.type)) = some y1 ∧ DataW.trod enc P W base spare held n f2.type ((cs.drop f2.offset).take (P.cellsOf f2.type)) = some y2 := by
  obtain ⟨xs, n, _, rfl, hl, hlen, hf⟩ := DataW.trod_struct ht h
  match xs, hlen with
  | [y0, y1, y2], _ => exact ⟨y0, y1, y2, n, by simp, hl, by simpa using hf 0 f0 rfl, by simpa using hf 1 f1 rfl, by simpa using hf 2 f2 rfl⟩
set_option maxRecDepth 100000 in
theorem open_de (fuel : Nat) (cs : List Value) (x : DataW H × List MemPlace) (h : DataW.trod enc Try.prog W base (fun _ => true) held fuel encDe.t cs = some x) :
    ∃ q : Dx18, cs = encDe.f q ∧ q.1.Ok ∧ 1 ≤ Rows.uptoBulk x.1 := by
  have h' : DataW.trod enc Try.prog W base (fun _ => true) held fuel 32 cs = some x := h
  obtain ⟨y0, y1, y2, m, hx, hl, h0, h1, h2⟩ := trod_struct3D Try.underlying32 h'
  have ec : Try.prog.cellsOf 32 = 34 := by kernel_rfl
  rw [ec] at hl
  have e1 : Try.prog.cellsOf 30 = 32 := by kernel_rfl
  have e2 : Try.prog.cellsOf 3 = 1 := by kernel_rfl
  simp only [e1, e2] at h0 h1 h2
  have hc := cut3D cs hl
  have one : ∀ a, a < 34 → ∃ v, (cs.drop a).take 1 = [v] := fun a ha => by
    rw [List.drop_eq_getElem_cons (by omega)]
    exact ⟨_, rfl⟩
  obtain ⟨v0, q0⟩ := one 0 (by omega)
  obtain ⟨v2, q2⟩ := one 33 (by omega)
  rw [q0] at h0 hc
  rw [q2] at h2 hc
  obtain ⟨b, hb, _, hwb⟩ := DataW.trod_int Try.underlying3 h0
  obtain ⟨dg, hdg, hdc, _, _⟩ := open_dig h1
  obtain ⟨z, hz, _, hw⟩ := DataW.trod_int Try.underlying3 h2
  rw [hb] at hc
  rw [hz] at hc
  refine ⟨⟨⟨b, dg, z⟩, hdg.1⟩, ?_, ⟨hdg, wf_i64 hwb, wf_i64 hw⟩, ?_⟩
  · rw [hc, hdc]
    rfl
  · rw [hx]
    simp only [Rows.uptoBulk]
    omega
theorem open_des {fuel : Nat} {a0 : Option Addr} {len cap : Nat} {x : DataW H × List MemPlace}
    (h : DataW.trod enc Try.prog W base (fun _ => true) held fuel 22 [.slice a0 len cap] = some x) :
    len ≤ cap ∧ cap ≤ maxLen ∧ (a0 = none → cap = 0) ∧ ∃ L : List Dx18, Gs encDe W a0 len L ∧ (∀ x ∈ L, x.1.Ok) ∧ len + 1 ≤ Rows.uptoBulk x.1 := by
  obtain ⟨hl0, hm0, hp0, L, hL, hLo, hLs⟩ := open_gs encDe Try.underlying22 (by kernel_rfl) (fun _ => 1) (fun q => q.1.Ok) open_de h
  refine ⟨hl0, hm0, hp0, L, hL, hLo, ?_⟩
  have h1 := sum_len (sz := fun _ : Dx18 => 1) (fun _ => Nat.le_refl _) L
  have h2 := hL.len
  omega
end
end Go.Proofs.Ytfdmpbhgejahaaa
