/- Records as arguments, opened -/
import Derived.Test.YtjdigncieoaglaaSt11
import Derived.Test.YtjdigncieoaglaaSt14
import Derived.Test.YtjdigncieoaglaaSt41
set_option linter.unusedSimpArgs false
set_option linter.unusedVariables false
namespace Go.Proofs.Ytjdigncieoaglaa
set_option linter.unusedVariables false
open Go.RowKit Go.Lib Go.ChangeShapes Go.WideShapes Go.ChangeAt

theorem makeN_le {r : Rc} (hr : r.Ok) : (makeN r).length ≤ 54 + r.da.length + r.nm.length := by
  by_cases h : rightN r = 0
  · have hk := rightN_k h
    have hd := hr.dgl
    rw [makeN_len h]
    unfold dataN
    split
    · rw [List.length_append]; omega
    · split
      · simp; omega
      · split
        · simp; omega
        · split
          · omega
          · split <;> simp [putN_length, magN] <;> omega
  · unfold makeN
    rw [if_neg h]
    simp
def rxSz (q : Rx) : Nat := q.1.c + q.1.nm.size + 40
theorem frames_le : ∀ (L : List Rx) (s : Int), (∀ x ∈ L, x.1.rc.Ok ∧ x.1.da.length ≤ x.1.c) → (framesN (rcL L) s).length * 20 ≤ 27 * (L.map rxSz).sum
  | [], s, _ => by simp [rcL, framesN]
  | x :: L, s, h => by
    have h1 := frames_le L (s + 1) fun y hy => h y (by simp [hy])
    obtain ⟨h2, h3⟩ := h x (by simp)
    have h4 := makeN_le (h2.num s)
    have h5 : (x.1.rc.num s).da = x.1.da := rfl
    have h6 : (x.1.rc.num s).nm = numsOf x.1.nm := rfl
    rw [h5, h6, numsOf_length] at h4
    have e : framesN (rcL (x :: L)) s = makeN (x.1.rc.num s) ++ framesN (rcL L) (s + 1) := rfl
    rw [e, List.length_append, List.map_cons, List.sum_cons]
    unfold rxSz at *
    omega
theorem open_int'' {H : Type} {enc : TypeId × Value → H} {P : Program} {W : World} {base : Nat} {sp : Nat → Bool} {held : Bool} {t : TypeId} {k : IntKind} {fuel : Nat} {v : Value} {x : DataW H × List MemPlace} (ht : P.underlying t = some (.int k))
    (h : DataW.trod enc P W base sp held fuel t [v] = some x) : ∃ n, v = .int k n ∧ x = (.lit (.int k n), []) ∧ (Lit.int k n).wf = true := by
  obtain ⟨n, hcs, hx, hw⟩ := DataW.trod_int ht h
  simp only [List.cons.injEq, and_true] at hcs
  exact ⟨n, hcs, hx, hw⟩
section
variable {H : Type} {enc : TypeId × Value → H} {W : World} {base : Nat} {held : Bool}
set_option maxRecDepth 100000 in
theorem open_rx (fuel : Nat) (cs : List Value) (x : DataW H × List MemPlace) (h : DataW.trod enc Try.prog W base (fun _ => true) held fuel encRc.t cs = some x) :
    ∃ q : Rx, cs = encRc.f q ∧ (q.1.nm.size ≤ 1048576 → q.1.Fit W) ∧ rxSz q ≤ Rows.uptoBulk x.1 := by
  have h' : DataW.trod enc Try.prog W base (fun _ => true) held fuel 29 cs = some x := h
  obtain ⟨y0, y1, y2, y3, y4, y5, y6, m, hx, hl, h0, h1, h2, h3, h4, h5, h6⟩ := trod_struct7 Try.underlying29 h'
  have ec : Try.prog.cellsOf 29 = 38 := by kernel_rfl
  rw [ec] at hl
  have e0 : Try.prog.cellsOf 3 = 1 := by kernel_rfl
  have e1 : Try.prog.cellsOf 22 = 1 := by kernel_rfl
  have e2 : Try.prog.cellsOf 27 = 32 := by kernel_rfl
  have e3 : Try.prog.cellsOf 9 = 1 := by kernel_rfl
  have e4 : Try.prog.cellsOf 23 = 1 := by kernel_rfl
  have e5 : Try.prog.cellsOf 5 = 1 := by kernel_rfl
  simp only [e0, e1, e2, e3, e4] at h0 h1 h2 h3 h4 h5 h6
  have hc := cut7 cs hl
  have one : ∀ a, a < 38 → ∃ v, (cs.drop a).take 1 = [v] := fun a ha => by
    rw [List.drop_eq_getElem_cons (by omega)]
    exact ⟨_, rfl⟩
  obtain ⟨v0, q0⟩ := one 0 (by omega)
  obtain ⟨v1, q1⟩ := one 1 (by omega)
  obtain ⟨v3, q3⟩ := one 34 (by omega)
  obtain ⟨v4, q4⟩ := one 35 (by omega)
  obtain ⟨v5, q5⟩ := one 36 (by omega)
  obtain ⟨v6, q6⟩ := one 37 (by omega)
  rw [q0] at h0 hc
  rw [q1] at h1 hc
  rw [q3] at h3 hc
  rw [q4] at h4 hc
  rw [q5] at h5 hc
  rw [q6] at h6 hc
  obtain ⟨k, rfl, hy0, hw0⟩ := open_int'' Try.underlying3 h0
  obtain ⟨s, rfl, hy1, hw1⟩ := open_int'' Try.underlying22 h1
  obtain ⟨dg, hdg, hdc, hb2, _⟩ := open_dig h2
  obtain ⟨nm, rfl, hnm, hb3⟩ := open_str' Try.underlying9 h3
  obtain ⟨p, n, c, da, rfl, hlc, hcm, hpc, hb4, hbs⟩ := open_bs' Try.underlying23 Try.underlying5 e5 h4
  obtain ⟨N, rfl, hy5, hw5⟩ := open_int'' Try.underlying3 h5
  obtain ⟨Z, rfl, hy6, hw6⟩ := open_int'' Try.underlying3 h6
  refine ⟨⟨⟨k, s, dg, nm, p, n, c, da, N, Z⟩, hdg.1⟩, ?_, fun hz => ⟨hbs, hpc, hlc, hcm, hdg, by dsimp only at hz ⊢; omega, wf_u64 hw1, wf_i64 hw0, wf_i64 hw5, wf_i64 hw6⟩, ?_⟩
  · rw [hc, hdc]
    rfl
  · rw [hx]
    simp only [Rows.uptoBulk, Rows.uptoBulkAll, hb2, hb3, hb4, hy0, hy1, hy5, hy6, rxSz]
    omega
theorem open_recs {fuel : Nat} {a0 : Option Addr} {len cap : Nat} {x : DataW H × List MemPlace} (hk : Rows.uptoBulk x.1 ≤ 1048576)
    (h : DataW.trod enc Try.prog W base (fun _ => true) held fuel 46 [.slice a0 len cap] = some x) :
    len ≤ cap ∧ (a0 = none → cap = 0) ∧ ∃ L : List Rx, Gs encRc W a0 len L ∧ (∀ x ∈ L, x.1.Fit W ∧ x.1.n ≤ 1048576) ∧ len ≤ 1048576 ∧ (framesN (rcL L) 0).length * 20 ≤ 27 * Rows.uptoBulk x.1 := by
  obtain ⟨hl0, hm0, hp0, L, hL, hLo, hLs⟩ := open_gs encRc Try.underlying46 (by kernel_rfl) rxSz (fun q => q.1.nm.size ≤ 1048576 → q.1.Fit W) open_rx h
  have hmem : ∀ x ∈ L, x.1.Fit W ∧ x.1.n ≤ 1048576 := fun q hq => by
    have h1 := sum_mem (List.mem_map_of_mem (f := rxSz) hq)
    have h3 : q.1.c + q.1.nm.size + 40 = rxSz q := rfl
    have h4 : (L.map rxSz).sum + 1 ≤ Rows.uptoBulk x.1 := hLs
    have h2 := hLo q hq (by omega)
    exact ⟨h2, by have := h2.nc; omega⟩
  have h1x : ∀ x : Rx, 1 ≤ rxSz x := fun x => by unfold rxSz; omega
  have hlen : L.length ≤ (L.map rxSz).sum := sum_len h1x L
  have hLs' : (L.map rxSz).sum + 1 ≤ Rows.uptoBulk x.1 := hLs
  have hLn := hL.len
  have h2 := frames_le L 0 fun q hq => ⟨(hmem q hq).1.ok, by have h1 := (hmem q hq).1; rw [h1.bs.len]; exact h1.nc⟩
  clear hLs hLo h1x hm0
  exact ⟨hl0, hp0, L, hL, hmem, by omega, by omega⟩
theorem trod_struct4B {P : Program} {spare : Nat → Bool} {t : TypeId} {f0 f1 f2 f3 : Field} {fuel : Nat} {cs : List Value} {x : DataW H × List MemPlace} (ht : P.underlying t = some (.struct #[f0, f1, f2, f3])) (h : DataW.trod enc P W base spare held fuel t cs = some x) :
    ∃ y0 y1 y2 y3 n, x.1 = .agg [y0.1, y1.1, y2.1, y3.1] ∧ cs.length = P.cellsOf t ∧ DataW.trod enc P W base spare held n f0.type ((cs.drop f0.offset).take (P.cellsOf f0.type)) = some y0 ∧
      DataW.trod enc P W base spare held n f1.type ((cs.drop f1.offset).take (P.cellsOf f1.type)) = some y1 ∧ DataW.trod enc P W base spare held n f2.type ((cs.drop f2.offset).take (P.cellsOf f2.type)) = some y2 ∧
      DataW.trod enc P W base spare held n f3.type ((cs.drop f3.offset).take (P.cellsOf f3.type)) = some y3 := by
  obtain ⟨xs, n, _, rfl, hl, hlen, hf⟩ := DataW.trod_struct ht h
  match xs, hlen with
  | [y0, y1, y2, y3], _ => exact ⟨y0, y1, y2, y3, n, by simp, hl, by simpa using hf 0 f0 rfl, by simpa using hf 1 f1 rfl, by simpa using hf 2 f2 rfl, by simpa using hf 3 f3 rfl⟩
theorem open_recs' {fuel : Nat} {a0 : Option Addr} {len cap : Nat} {x : DataW H × List MemPlace}
    (h : DataW.trod enc Try.prog W base (fun _ => true) held fuel 46 [.slice a0 len cap] = some x) :
    len ≤ cap ∧ (a0 = none → cap = 0) ∧ ∃ L : List Rx, Gs encRc W a0 len L ∧ (∀ x ∈ L, x.1.nm.size ≤ 1048576 → x.1.Fit W) ∧ (L.map rxSz).sum + 1 ≤ Rows.uptoBulk x.1 := by
  obtain ⟨hl0, hm0, hp0, L, hL, hLo, hLs⟩ := open_gs encRc Try.underlying46 (by kernel_rfl) rxSz (fun q => q.1.nm.size ≤ 1048576 → q.1.Fit W) open_rx h
  exact ⟨hl0, hp0, L, hL, hLo, hLs⟩
end
end Go.Proofs.Ytjdigncieoaglaa
