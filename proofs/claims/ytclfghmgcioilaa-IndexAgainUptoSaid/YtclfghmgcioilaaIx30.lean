/- Arguments of layer 19, opened: numbers, places, words. (cut out of EntI); Layer 19, the laws' arguments, opened: rows of numbers, entries, words. (gen_enti.py); Layer 20, the laws' arguments, opened: rows of entries, rows of words; Layer 20, the laws' arguments, opened: what goes on -/
import Derived.Test.YtclfghmgcioilaaIx1
import Derived.Test.YtclfghmgcioilaaIx8
import Derived.Test.YtclfghmgcioilaaIx10
import Derived.Lib.SmallJoins
set_option linter.unusedSimpArgs false
set_option linter.unusedVariables false
namespace Go.Proofs.Ytclfghmgcioilaa
set_option linter.unusedVariables false
open Go.RowKit Go.Lib Go.ChangeShapes Go.WideShapes Go.ChangeAt

theorem cutEn {α : Type} (cs : List α) (h : cs.length = 38) : cs = (cs.drop 0).take 32 ++ ((cs.drop 32).take 1 ++ ((cs.drop 33).take 1 ++ ((cs.drop 34).take 3 ++ ((cs.drop 37).take 1)))) := by
  have e (a b : Nat) : cs.drop a = (cs.drop a).take b ++ cs.drop (a + b) := by
    rw [← List.drop_drop, List.take_append_drop]
  have hz : cs.drop 37 = (cs.drop 37).take 1 := by rw [List.take_of_length_le (by rw [List.length_drop]; omega)]
  have h0 := e 0 32
  have h1 := e 32 1
  have h2 := e 33 1
  have h3 := e 34 3
  simp only [Nat.reduceAdd] at h0 h1 h2 h3
  rw [← hz, ← h3, ← h2, ← h1, ← h0, List.drop_zero]
theorem cutTn {α : Type} (cs : List α) (h : cs.length = 38) : cs = (cs.drop 0).take 1 ++ ((cs.drop 1).take 32 ++ ((cs.drop 33).take 1 ++ ((cs.drop 34).take 3 ++ ((cs.drop 37).take 1)))) := by
  have e (a b : Nat) : cs.drop a = (cs.drop a).take b ++ cs.drop (a + b) := by
    rw [← List.drop_drop, List.take_append_drop]
  have hz : cs.drop 37 = (cs.drop 37).take 1 := by rw [List.take_of_length_le (by rw [List.length_drop]; omega)]
  have h0 := e 0 1
  have h1 := e 1 32
  have h2 := e 33 1
  have h3 := e 34 3
  simp only [Nat.reduceAdd] at h0 h1 h2 h3
  rw [← hz, ← h3, ← h2, ← h1, ← h0, List.drop_zero]
theorem cutWd {α : Type} (cs : List α) (h : cs.length = 39) : cs = (cs.drop 0).take 1 ++ ((cs.drop 1).take 1 ++ ((cs.drop 2).take 32 ++ ((cs.drop 34).take 1 ++ ((cs.drop 35).take 1 ++ ((cs.drop 36).take 3))))) := by
  have e (a b : Nat) : cs.drop a = (cs.drop a).take b ++ cs.drop (a + b) := by
    rw [← List.drop_drop, List.take_append_drop]
  have hz : cs.drop 36 = (cs.drop 36).take 3 := by rw [List.take_of_length_le (by rw [List.length_drop]; omega)]
  have h0 := e 0 1
  have h1 := e 1 1
  have h2 := e 2 32
  have h3 := e 34 1
  have h4 := e 35 1
  simp only [Nat.reduceAdd] at h0 h1 h2 h3 h4
  rw [← hz, ← h4, ← h3, ← h2, ← h1, ← h0, List.drop_zero]
section
variable {H : Type} {enc : TypeId × Value → H} {W : World} {base : Nat} {held : Bool}
theorem trod_structE3 {P : Program} {spare : Nat → Bool} {t : TypeId} {f0 f1 f2 : Field} {fuel : Nat} {cs : List Value} {x : DataW H × List MemPlace} (ht : P.underlying t = some (.struct #[f0, f1, f2])) (h : DataW.trod enc P W base spare held fuel t cs = some x) :
    ∃ y0 y1 y2 n, x.1 = .agg [y0.1, y1.1, y2.1] ∧ cs.length = P.cellsOf t ∧ DataW.trod enc P W base spare held n f0.type ((cs.drop f0.offset).take (P.cellsOf f0.type)) = some y0 ∧ DataW.trod enc P W base spare held n f1.type ((cs.drop f1.offset).take (P.cellsOf f1.type)) = some y1 ∧ DataW.trod enc P W base spare held n f2.type ((cs.drop f2.offset).take (P.cellsOf f2.type)) = some y2 := by
  obtain ⟨xs, n, _, rfl, hl, hlen, hf⟩ := DataW.trod_struct ht h
  match xs, hlen with
  | [y0, y1, y2], _ => exact ⟨y0, y1, y2, n, by simp, hl, by simpa using hf 0 f0 rfl, by simpa using hf 1 f1 rfl, by simpa using hf 2 f2 rfl⟩
theorem trod_structE5 {P : Program} {spare : Nat → Bool} {t : TypeId} {f0 f1 f2 f3 f4 : Field} {fuel : Nat} {cs : List Value} {x : DataW H × List MemPlace} (ht : P.underlying t = some (.struct #[f0, f1, f2, f3, f4])) (h : DataW.trod enc P W base spare held fuel t cs = some x) :
    ∃ y0 y1 y2 y3 y4 n, x.1 = .agg [y0.1, y1.1, y2.1, y3.1, y4.1] ∧ cs.length = P.cellsOf t ∧ DataW.trod enc P W base spare held n f0.type ((cs.drop f0.offset).take (P.cellsOf f0.type)) = some y0 ∧ DataW.trod enc P W base spare held n f1.type ((cs.drop f1.offset).take (P.cellsOf f1.type)) = some y1 ∧ DataW.trod enc P W base spare held n f2.type ((cs.drop f2.offset).take (P.cellsOf f2.type)) = some y2 ∧ DataW.trod enc P W base spare held n f3.type ((cs.drop f3.offset).take (P.cellsOf f3.type)) = some y3 ∧ DataW.trod enc P W base spare held n f4.type ((cs.drop f4.offset).take (P.cellsOf f4.type)) = some y4 := by
  obtain ⟨xs, n, _, rfl, hl, hlen, hf⟩ := DataW.trod_struct ht h
  match xs, hlen with
  | [y0, y1, y2, y3, y4], _ => exact ⟨y0, y1, y2, y3, y4, n, by simp, hl, by simpa using hf 0 f0 rfl, by simpa using hf 1 f1 rfl, by simpa using hf 2 f2 rfl, by simpa using hf 3 f3 rfl, by simpa using hf 4 f4 rfl⟩
theorem trod_structE6 {P : Program} {spare : Nat → Bool} {t : TypeId} {f0 f1 f2 f3 f4 f5 : Field} {fuel : Nat} {cs : List Value} {x : DataW H × List MemPlace} (ht : P.underlying t = some (.struct #[f0, f1, f2, f3, f4, f5])) (h : DataW.trod enc P W base spare held fuel t cs = some x) :
    ∃ y0 y1 y2 y3 y4 y5 n, x.1 = .agg [y0.1, y1.1, y2.1, y3.1, y4.1, y5.1] ∧ cs.length = P.cellsOf t ∧ DataW.trod enc P W base spare held n f0.type ((cs.drop f0.offset).take (P.cellsOf f0.type)) = some y0 ∧ DataW.trod enc P W base spare held n f1.type ((cs.drop f1.offset).take (P.cellsOf f1.type)) = some y1 ∧ DataW.trod enc P W base spare held n f2.type ((cs.drop f2.offset).take (P.cellsOf f2.type)) = some y2 ∧ DataW.trod enc P W base spare held n f3.type ((cs.drop f3.offset).take (P.cellsOf f3.type)) = some y3 ∧ DataW.trod enc P W base spare held n f4.type ((cs.drop f4.offset).take (P.cellsOf f4.type)) = some y4 ∧ DataW.trod enc P W base spare held n f5.type ((cs.drop f5.offset).take (P.cellsOf f5.type)) = some y5 := by
  obtain ⟨xs, n, _, rfl, hl, hlen, hf⟩ := DataW.trod_struct ht h
  match xs, hlen with
  | [y0, y1, y2, y3, y4, y5], _ => exact ⟨y0, y1, y2, y3, y4, y5, n, by simp, hl, by simpa using hf 0 f0 rfl, by simpa using hf 1 f1 rfl, by simpa using hf 2 f2 rfl, by simpa using hf 3 f3 rfl, by simpa using hf 4 f4 rfl, by simpa using hf 5 f5 rfl⟩
theorem open_intI (fuel : Nat) (cs : List Value) (y : DataW H × List MemPlace) (h : DataW.trod enc Try.prog W base (fun _ => true) held fuel encI.t cs = some y) : ∃ q : Int, cs = encI.f q ∧ (-9223372036854775808 ≤ q ∧ q ≤ 9223372036854775807) ∧ 1 ≤ Rows.uptoBulk y.1 := by
  obtain ⟨z, hz, hx, hw⟩ := DataW.trod_int Try.underlying3 h
  subst hz
  refine ⟨z, rfl, wf_i64 hw, ?_⟩
  subst hx
  simp [Rows.uptoBulk]
/-- a row of numbers -/
theorem open_ints {fuel : Nat} {a0 : Option Addr} {len cap : Nat} {x : DataW H × List MemPlace}
    (h : DataW.trod enc Try.prog W base (fun _ => true) held fuel 24 [.slice a0 len cap] = some x) :
    ∃ L, Is W (.slice a0 len cap) L ∧ (∀ q ∈ L, -9223372036854775808 ≤ q ∧ q ≤ 9223372036854775807) ∧ L.length + 1 ≤ Rows.uptoBulk x.1 := by
  obtain ⟨hl0, hm0, hp0, L, hL, hLo, hLs⟩ := open_gs encI Try.underlying24 (by kernel_rfl) (fun _ => 1) (fun q => -9223372036854775808 ≤ q ∧ q ≤ 9223372036854775807) open_intI h
  have h1 := sum_len (sz := fun _ : Int => 1) (fun _ => Nat.le_refl _) L
  have h2 := hL.len
  subst h2
  exact ⟨L, ⟨a0, cap, rfl, hL, hp0, hl0, hm0⟩, hLo, by omega⟩
set_option maxRecDepth 100000 in
theorem open_locE {fuel : Nat} {cs : List Value} {x : DataW H × List MemPlace} (h : DataW.trod enc Try.prog W base (fun _ => true) held fuel 34 cs = some x) :
    ∃ a b c : Int, cs = [.int .i64 a, .int .i64 b, .int .i64 c] ∧ (-9223372036854775808 ≤ a ∧ a ≤ 9223372036854775807) ∧ (-9223372036854775808 ≤ b ∧ b ≤ 9223372036854775807) ∧ (-9223372036854775808 ≤ c ∧ c ≤ 9223372036854775807) := by
  obtain ⟨y0, y1, y2, m, hx, hl, h0, h1, h2⟩ := trod_structE3 Try.underlying34 h
  have ec : Try.prog.cellsOf 34 = 3 := by kernel_rfl
  have e0 : Try.prog.cellsOf 3 = 1 := by kernel_rfl
  rw [ec] at hl
  match cs, hl with
  | [v0, v1, v2], _ =>
    simp only [e0, List.drop_succ_cons, List.drop_zero, List.take_succ_cons, List.take_zero] at h0 h1 h2
    obtain ⟨a, rfl, hw0⟩ := open_int' Try.underlying3 h0
    obtain ⟨b, rfl, hw1⟩ := open_int' Try.underlying3 h1
    obtain ⟨c, rfl, hw2⟩ := open_int' Try.underlying3 h2
    exact ⟨a, b, c, rfl, wf_i64 hw0, wf_i64 hw1, wf_i64 hw2⟩
theorem open_boolC {fuel : Nat} {v : Value} {x : DataW H × List MemPlace} (h : DataW.trod enc Try.prog W base (fun _ => true) held fuel 4 [v] = some x) : ∃ b, v = .bool b := by
  obtain ⟨b, hb, _⟩ := DataW.trod_bool Try.underlying4 h
  simp only [List.cons.injEq, and_true] at hb
  exact ⟨b, hb⟩
/-- a slice of numbers in one cell -/
theorem open_intsC {fuel : Nat} {v : Value} {x : DataW H × List MemPlace} (h : DataW.trod enc Try.prog W base (fun _ => true) held fuel 24 [v] = some x) :
    ∃ L, Is W v L ∧ (∀ q ∈ L, -9223372036854775808 ≤ q ∧ q ≤ 9223372036854775807) ∧ L.length + 1 ≤ Rows.uptoBulk x.1 := by
  have h' := h
  rcases DataW.trod_slice Try.underlying24 h with ⟨hcs, hx⟩ | ⟨a, len', cap', elems, rest, n, _, hcs, hx, hba, hl, hm, hel, hi, _, _⟩
  · simp at hcs
    subst hcs
    exact open_ints h'
  · simp at hcs
    subst hcs
    exact open_ints h'
set_option maxRecDepth 100000 in
theorem open_wdL (fuel : Nat) (cs : List Value) (x : DataW H × List MemPlace) (h : DataW.trod enc Try.prog W base (fun _ => true) held fuel 36 cs = some x) :
    ∃ e : Wq, cs = mixL e.a e.dg e.t ∧ dok e.dg := by
  obtain ⟨y0, y1, y2, y3, y4, y5, m, hx, hl, h0, h1, h2, h3, h4, h5⟩ := trod_structE6 Try.underlying36 h
  have ec : Try.prog.cellsOf 36 = 39 := by kernel_rfl
  rw [ec] at hl
  have e0 : Try.prog.cellsOf 3 = 1 := by kernel_rfl
  have e1 : Try.prog.cellsOf 30 = 1 := by kernel_rfl
  have e2 : Try.prog.cellsOf 32 = 32 := by kernel_rfl
  have e3 : Try.prog.cellsOf 9 = 1 := by kernel_rfl
  have e4 : Try.prog.cellsOf 34 = 3 := by kernel_rfl
  simp only [e0, e1, e2, e3, e4] at h0 h1 h2 h3 h4 h5
  have hc := cutWd cs hl
  have one : ∀ a, a < 39 → ∃ v, (cs.drop a).take 1 = [v] := fun a ha => by
    rw [List.drop_eq_getElem_cons (by omega)]
    exact ⟨_, rfl⟩
  obtain ⟨v0, q0⟩ := one 0 (by omega)
  rw [q0] at h0 hc
  obtain ⟨v1, q1⟩ := one 1 (by omega)
  rw [q1] at h1 hc
  obtain ⟨v3, q3⟩ := one 34 (by omega)
  rw [q3] at h3 hc
  obtain ⟨v4, q4⟩ := one 35 (by omega)
  rw [q4] at h4 hc
  obtain ⟨k, rfl, hw0⟩ := open_int' Try.underlying3 h0
  obtain ⟨s, rfl, hw1⟩ := open_int' Try.underlying30 h1
  obtain ⟨dg, hdg, hdc, _, _⟩ := open_dig h2
  obtain ⟨nm, rfl, hnm, _⟩ := open_str' Try.underlying9 h3
  obtain ⟨z, rfl, hw4⟩ := open_int' Try.underlying3 h4
  obtain ⟨a, b, c, hlc, ha, hb, hcc⟩ := open_locE h5
  refine ⟨⟨k, s, dg, nm, z, a, b, c⟩, ?_, hdg⟩
  rw [hc, hdc, hlc]
  rfl
set_option maxRecDepth 100000 in
theorem open_wd19 {r : Reach} {b0 : Nat} {v : Value} {d : DataW H} {ps : List MemPlace} (hv : Value.okWide Try.prog W r b0 36 v)
    (h : DataW.Trod enc Try.prog W base (fun _ => true) held 36 v d ps) : ∃ e : Wq, v = e.v ∧ dok e.dg := by
  obtain ⟨cs, rfl, hsz⟩ := okWide_struct Try.underlying36 hv
  obtain ⟨fuel, hf⟩ := h
  obtain ⟨e, hc, h1⟩ := open_wdL fuel cs.toList (d, ps) hf
  refine ⟨e, ?_, h1⟩
  unfold Wq.v
  congr 1
  exact Array.toList_inj.1 hc
end
end Go.Proofs.Ytclfghmgcioilaa

namespace Go.Proofs.Ytclfghmgcioilaa
set_option linter.unusedVariables false
open Go.RowKit Go.Lib Go.ChangeShapes Go.WideShapes Go.ChangeAt

section
variable {H : Type} {enc : TypeId × Value → H} {W : World} {base : Nat} {held : Bool}
set_option maxRecDepth 100000 in
theorem open_enL (fuel : Nat) (cs : List Value) (x : DataW H × List MemPlace) (h : DataW.trod enc Try.prog W base (fun _ => true) held fuel 43 cs = some x) :
    ∃ (e : Pe) (s : Value), cs = mixL [] e.dg (e.t s) ∧ Is W s e.ins ∧ dok e.dg ∧ e.ins.length + 1 ≤ Rows.uptoBulk x.1 := by
  obtain ⟨y0, y1, y2, y3, y4, m, hx, hl, h0, h1, h2, h3, h4⟩ := trod_structE5 Try.underlying43 h
  have ec : Try.prog.cellsOf 43 = 38 := by kernel_rfl
  rw [ec] at hl
  have e0 : Try.prog.cellsOf 32 = 32 := by kernel_rfl
  have e1 : Try.prog.cellsOf 3 = 1 := by kernel_rfl
  have e2 : Try.prog.cellsOf 34 = 3 := by kernel_rfl
  have e3 : Try.prog.cellsOf 24 = 1 := by kernel_rfl
  simp only [e0, e1, e2, e3] at h0 h1 h2 h3 h4
  have hc := cutEn cs hl
  have one : ∀ a, a < 38 → ∃ v, (cs.drop a).take 1 = [v] := fun a ha => by
    rw [List.drop_eq_getElem_cons (by omega)]
    exact ⟨_, rfl⟩
  obtain ⟨v1, q1⟩ := one 32 (by omega)
  rw [q1] at h1 hc
  obtain ⟨v2, q2⟩ := one 33 (by omega)
  rw [q2] at h2 hc
  obtain ⟨v4, q4⟩ := one 37 (by omega)
  rw [q4] at h4 hc
  obtain ⟨dg, hdg, hdc, _, _⟩ := open_dig h0
  obtain ⟨k, rfl, hw1⟩ := open_int' Try.underlying3 h1
  obtain ⟨z, rfl, hw2⟩ := open_int' Try.underlying3 h2
  obtain ⟨a, b, c, hlc, ha, hb, hcc⟩ := open_locE h3
  obtain ⟨L, hL, hLo, hLb⟩ := open_intsC h4
  refine ⟨⟨dg, k, z, a, b, c, L⟩, v4, ?_, hL, hdg, ?_⟩
  · rw [hc, hdc, hlc]
    rfl
  · rw [hx]
    simp only [Rows.uptoBulk, Rows.uptoBulkAll]
    omega
set_option maxRecDepth 100000 in
theorem open_en {r : Reach} {b0 : Nat} {v : Value} {d : DataW H} {ps : List MemPlace} (hv : Value.okWide Try.prog W r b0 43 v)
    (h : DataW.Trod enc Try.prog W base (fun _ => true) held 43 v d ps) : ∃ (e : Pe) (s : Value), v = enV e s ∧ Is W s e.ins ∧ dok e.dg ∧ e.ins.length + 1 ≤ Rows.uptoBulk d := by
  obtain ⟨cs, rfl, hsz⟩ := okWide_struct Try.underlying43 hv
  obtain ⟨fuel, hf⟩ := h
  obtain ⟨e, s, hc, h1, h2, h3⟩ := open_enL fuel cs.toList (d, ps) hf
  refine ⟨e, s, ?_, h1, h2, h3⟩
  unfold enV enC
  congr 1
  exact Array.toList_inj.1 hc
end
end Go.Proofs.Ytclfghmgcioilaa

namespace Go.Proofs.Ytclfghmgcioilaa
set_option linter.unusedVariables false
open Go.RowKit Go.Lib Go.ChangeShapes Go.WideShapes Go.ChangeAt

section
variable {H : Type} {enc : TypeId × Value → H} {W : World} {base : Nat} {held : Bool}
theorem open_exL (fuel : Nat) (cs : List Value) (y : DataW H × List MemPlace) (h : DataW.trod enc Try.prog W base (fun _ => true) held fuel encEn.t cs = some y) :
    ∃ q : Ex, cs = encEn.f q ∧ (Is W q.s q.e.ins ∧ dok q.e.dg) ∧ q.e.ins.length + 1 ≤ Rows.uptoBulk y.1 := by
  obtain ⟨e, s, hc, hi, hd, hb⟩ := open_enL fuel cs y h
  obtain ⟨X, h1, h2, h3⟩ := hi.ex hd.1
  refine ⟨X, ?_, ⟨h3, by rw [h1]; exact hd⟩, by rw [h1]; exact hb⟩
  rw [hc]
  show _ = mixL [] X.e.dg (X.e.t X.s)
  rw [h1, h2]
theorem open_ents {fuel : Nat} {a0 : Option Addr} {len cap : Nat} {x : DataW H × List MemPlace}
    (h : DataW.trod enc Try.prog W base (fun _ => true) held fuel 22 [.slice a0 len cap] = some x) :
    len ≤ cap ∧ cap ≤ maxLen ∧ (a0 = none → cap = 0) ∧ ∃ (L : List Ex) (K : Nat), ReN W (fun b => b < W.heap.size) a0 len L ∧ insLe (peL L) K ∧ len + K + 1 ≤ Rows.uptoBulk x.1 := by
  obtain ⟨hl0, hm0, hp0, L, hL, hLo, hLs⟩ := open_gs encEn Try.underlying22 (by kernel_rfl) (fun q => q.e.ins.length + 1) (fun q => Is W q.s q.e.ins ∧ dok q.e.dg) open_exL h
  obtain ⟨K, h1, h2⟩ := sum_max (fun q : Ex => q.e.ins.length) (fun q => q.e.ins.length + 1) (fun _ => Nat.le_refl _) L
  refine ⟨hl0, hm0, hp0, L, K, ⟨hL, fun hn b off hp => ?_, fun y hy => (hLo y hy).1, fun y hy hne b hb => (hLo y hy).1.lt hne hb, fun y hy => (hLo y hy).2, fun b hb => hb⟩, fun y hy => ?_, ?_⟩
  · subst hp
    exact hL.block_lt (by omega)
  · obtain ⟨z, hz, rfl⟩ := List.mem_map.1 hy
    exact h1 z hz
  · have := hL.len
    omega
theorem open_wxL (fuel : Nat) (cs : List Value) (y : DataW H × List MemPlace) (h : DataW.trod enc Try.prog W base (fun _ => true) held fuel encWd.t cs = some y) :
    ∃ q : Wx, cs = encWd.f q ∧ dok q.1.dg ∧ 1 ≤ Rows.uptoBulk y.1 := by
  obtain ⟨e, hc, hd⟩ := open_wdL fuel cs y h
  refine ⟨⟨e, hd.1⟩, hc, hd, ?_⟩
  obtain ⟨y0, y1, y2, y3, y4, y5, m, hx, _⟩ := trod_structE6 Try.underlying36 h
  rw [hx]
  simp only [Rows.uptoBulk]
  omega
theorem open_words {fuel : Nat} {a0 : Option Addr} {len cap : Nat} {x : DataW H × List MemPlace}
    (h : DataW.trod enc Try.prog W base (fun _ => true) held fuel 23 [.slice a0 len cap] = some x) :
    ∃ L : List Wx, Gs encWd W a0 len L ∧ (∀ q ∈ L, dok q.1.dg) ∧ len + 1 ≤ Rows.uptoBulk x.1 := by
  obtain ⟨hl0, hm0, hp0, L, hL, hLo, hLs⟩ := open_gs encWd Try.underlying23 (by kernel_rfl) (fun _ => 1) (fun q => dok q.1.dg) open_wxL h
  have h1 := sum_len (sz := fun _ : Wx => 1) (fun _ => Nat.le_refl _) L
  have h2 := hL.len
  exact ⟨L, hL, hLo, by omega⟩
end
end Go.Proofs.Ytclfghmgcioilaa

namespace Go.Proofs.Ytclfghmgcioilaa
set_option linter.unusedVariables false
open Go.RowKit Go.Lib Go.ChangeShapes Go.WideShapes Go.ChangeAt

section
variable {H : Type} {enc : TypeId × Value → H} {W : World} {base : Nat} {held : Bool}
theorem trod_structE4 {P : Program} {spare : Nat → Bool} {t : TypeId} {f0 f1 f2 f3 : Field} {fuel : Nat} {cs : List Value} {x : DataW H × List MemPlace} (ht : P.underlying t = some (.struct #[f0, f1, f2, f3])) (h : DataW.trod enc P W base spare held fuel t cs = some x) :
    ∃ y0 y1 y2 y3 n, x.1 = .agg [y0.1, y1.1, y2.1, y3.1] ∧ cs.length = P.cellsOf t ∧ DataW.trod enc P W base spare held n f0.type ((cs.drop f0.offset).take (P.cellsOf f0.type)) = some y0 ∧ DataW.trod enc P W base spare held n f1.type ((cs.drop f1.offset).take (P.cellsOf f1.type)) = some y1 ∧ DataW.trod enc P W base spare held n f2.type ((cs.drop f2.offset).take (P.cellsOf f2.type)) = some y2 ∧ DataW.trod enc P W base spare held n f3.type ((cs.drop f3.offset).take (P.cellsOf f3.type)) = some y3 := by
  obtain ⟨xs, n, _, rfl, hl, hlen, hf⟩ := DataW.trod_struct ht h
  match xs, hlen with
  | [y0, y1, y2, y3], _ => exact ⟨y0, y1, y2, y3, n, by simp, hl, by simpa using hf 0 f0 rfl, by simpa using hf 1 f1 rfl, by simpa using hf 2 f2 rfl, by simpa using hf 3 f3 rfl⟩
theorem slice_cell {P : Program} {t e : TypeId} (ht : P.underlying t = some (.slice e)) {fuel : Nat} {v : Value} {x : DataW H × List MemPlace} (h : DataW.trod enc P W base (fun _ => true) held fuel t [v] = some x) : ∃ p n c, v = .slice p n c := by
  rcases DataW.trod_slice ht h with ⟨hcs, hx⟩ | ⟨a, len', cap', elems, rest, n, _, hcs, hx, hba, hl, hm, hel, hi, _, _⟩
  · simp at hcs
    exact ⟨_, _, _, hcs⟩
  · simp at hcs
    exact ⟨_, _, _, hcs⟩
set_option maxRecDepth 100000 in
theorem open_again {r : Reach} {b0 : Nat} {v : Value} {d : DataW H} {ps : List MemPlace} (hv : Value.okWide Try.prog W r b0 26 v)
    (h : DataW.Trod enc Try.prog W base (fun _ => true) held 26 v d ps) (hbk : Rows.uptoBulk d ≤ 1048576) :
    ∃ p n c Ls ql ml dl Dl qm mm dm Dm q cs B K, v = .agg #[.slice p n c, .slice ql ml dl, .slice qm mm dm, .slice q (List.length B) cs] ∧ ReN W (fun b => b < W.heap.size) p n Ls ∧ (p = none → c = 0) ∧ n ≤ c ∧ c ≤ maxLen ∧ insLe (peL Ls) K ∧ Gs encWd W ql ml Dl ∧ Gs encWd W qm mm Dm ∧ (∀ x ∈ Dl, dok x.1.dg) ∧ (∀ x ∈ Dm, dok x.1.dg) ∧ Is W (.slice q (List.length B) cs) B ∧ List.length B ≤ 1048576 ∧ n + ml + mm ≤ 1048576 ∧ K + ml + mm ≤ 1048576 := by
  obtain ⟨cs, rfl, hsz⟩ := okWide_struct Try.underlying26 hv
  obtain ⟨fuel, hf⟩ := h
  obtain ⟨y0, y1, y2, y3, m, hx, hl, h0, h1, h2, h3⟩ := trod_structE4 Try.underlying26 hf
  have ec : Try.prog.cellsOf 26 = 4 := by kernel_rfl
  have e0 : Try.prog.cellsOf 22 = 1 := by kernel_rfl
  have e1 : Try.prog.cellsOf 23 = 1 := by kernel_rfl
  have e2 : Try.prog.cellsOf 24 = 1 := by kernel_rfl
  rw [ec] at hl
  obtain ⟨cs⟩ := cs
  match cs, hl with
  | [v0, v1, v2, v3], _ =>
    simp only [e0, e1, e2, List.drop_succ_cons, List.drop_zero, List.take_succ_cons, List.take_zero] at h0 h1 h2 h3
    obtain ⟨p, n, c, rfl⟩ := slice_cell Try.underlying22 h0
    obtain ⟨ql, ml, dl, rfl⟩ := slice_cell Try.underlying23 h1
    obtain ⟨qm, mm, dm, rfl⟩ := slice_cell Try.underlying23 h2
    obtain ⟨g1, g2, g3, Ls, K, g4, g5, g6⟩ := open_ents h0
    obtain ⟨Dl, g7, g8, g9⟩ := open_words h1
    obtain ⟨Dm, g10, g11, g12⟩ := open_words h2
    obtain ⟨B, g13, _, g14⟩ := open_intsC h3
    obtain ⟨q, cq, rfl, g15⟩ := g13
    have hx' : d = .agg [y0.1, y1.1, y2.1, y3.1] := hx
    rw [hx'] at hbk
    simp only [Rows.uptoBulk, Rows.uptoBulkAll] at hbk
    exact ⟨p, n, c, Ls, ql, ml, dl, Dl, qm, mm, dm, Dm, q, cq, B, K, rfl, g4, g3, g1, g2, g5, g7, g10, g8, g11, ⟨q, cq, rfl, g15⟩, by omega, by omega, by omega⟩
end
end Go.Proofs.Ytclfghmgcioilaa
