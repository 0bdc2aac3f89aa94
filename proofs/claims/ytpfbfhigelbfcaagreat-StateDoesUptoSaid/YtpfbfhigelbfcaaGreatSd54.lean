/- Arguments of layer 19, opened: numbers, places, words. (cut out of EntI); Layer 19, the laws' arguments, opened: rows of numbers, entries, words. (gen_enti.py); Layer 20, the laws' arguments, opened: rows of entries; Arguments of layer 19, opened: entries of names. (gen_enti.py); Layer 21, the laws' arguments, opened: rows of names' entries; Layer 22, the laws' arguments, opened: rows of entries,  -/
import Derived.Test.YtpfbfhigelbfcaaGreatSd11
import Derived.Test.YtpfbfhigelbfcaaGreatSd53
import Derived.Lib.SmallJoins
set_option linter.unusedSimpArgs false
set_option linter.unusedVariables false
namespace Go.Proofs.YtpfbfhigelbfcaaGreat
open Go.RowKit Go.Lib Go.ChangeShapes Go.WideShapes Go.ChangeAt
theorem cutEn38 {α : Type} (cs : List α) (h : cs.length = 38) : cs = (cs.drop 0).take 32 ++ ((cs.drop 32).take 1 ++ ((cs.drop 33).take 1 ++ ((cs.drop 34).take 3 ++ ((cs.drop 37).take 1)))) := by
 have e (a b : Nat) : cs.drop a = (cs.drop a).take b ++ cs.drop (a + b) := by
  rw [← List.drop_drop, List.take_append_drop]
 have hz : cs.drop 37 = (cs.drop 37).take 1 := by rw [List.take_of_length_le (by rw [List.length_drop]; omega)]
 have h0 := e 0 32
 have h1 := e 32 1
 have h2 := e 33 1
 have h3 := e 34 3
 simp only [Nat.reduceAdd] at h0 h1 h2 h3
 rw [← hz, ← h3, ← h2, ← h1, ← h0, List.drop_zero]
theorem cutTn {α : Type} (cs : List α) (h : cs.length = 38) : cs = (cs.drop 0).take 1 ++ ((cs.drop 1).take 32 ++ ((cs.drop 33).take 1 ++ ((cs.drop 34).take 3 ++ ((cs.drop 37).take 1)))) := by
 have e (a b : Nat) : cs.drop a = (cs.drop a).take b ++ cs.drop (a + b) := by
  rw [← List.drop_drop, List.take_append_drop]
 have hz : cs.drop 37 = (cs.drop 37).take 1 := by rw [List.take_of_length_le (by rw [List.length_drop]; omega)]
 have h0 := e 0 1
 have h1 := e 1 32
 have h2 := e 33 1
 have h3 := e 34 3
 simp only [Nat.reduceAdd] at h0 h1 h2 h3
 rw [← hz, ← h3, ← h2, ← h1, ← h0, List.drop_zero]
section
variable {H : Type} {enc : TypeId × Value → H} {W : World} {base : Nat} {held : Bool}
theorem trod_structE5 {P : Program} {spare : Nat → Bool} {t : TypeId} {f0 f1 f2 f3 f4 : Field} {fuel : Nat} {cs : List Value} {x : DataW H × List MemPlace} (ht : P.underlying t = some (.struct #[f0, f1, f2, f3, f4])) (h : DataW.trod enc P W base spare held fuel t cs = some x) :
 ∃ y0 y1 y2 y3 y4 n, x.1 = .agg [y0.1, y1.1, y2.1, y3.1, y4.1] ∧ cs.length = P.cellsOf t ∧ DataW.trod enc P W base spare held n f0.type ((cs.drop f0.offset).take (P.cellsOf f0.type)) = some y0 ∧ DataW.trod enc P W base spare held n f1.type ((cs.drop f1.offset).take (P.cellsOf f1.type)) = some y1 ∧ DataW.trod enc P W base spare held n f2.type ((cs.drop f2.offset).take (P.cellsOf f2.type)) = some y2 ∧ DataW.trod enc P W base spare held n f3.type ((cs.drop f3.offset).take (P.cellsOf f3.type)) = some y3 ∧ DataW.trod enc P W base spare held n f4.type ((cs.drop f4.offset).take (P.cellsOf f4.type)) = some y4 := by
 obtain ⟨xs, n, _, rfl, hl, hlen, hf⟩ := DataW.trod_struct ht h
 match xs, hlen with
 | [y0, y1, y2, y3, y4], _ => exact ⟨y0, y1, y2, y3, y4, n, by simp, hl, by simpa using hf 0 f0 rfl, by simpa using hf 1 f1 rfl, by simpa using hf 2 f2 rfl, by simpa using hf 3 f3 rfl, by simpa using hf 4 f4 rfl⟩
theorem open_intI (fuel : Nat) (cs : List Value) (y : DataW H × List MemPlace) (h : DataW.trod enc Tryz.prog W base (fun _ => true) held fuel encI.t cs = some y) : ∃ q : Int, cs = encI.f q ∧ (-9223372036854775808 ≤ q ∧ q ≤ 9223372036854775807) ∧ 1 ≤ Rows.uptoBulk y.1 := by
 obtain ⟨z, hz, hx, hw⟩ := DataW.trod_int Tryz.underlying3 h
 subst hz
 refine ⟨z, rfl, wf_i64 hw, ?_⟩
 subst hx
 simp [Rows.uptoBulk]
/-- a row of numbers -/
theorem open_ints {fuel : Nat} {a0 : Option Addr} {len cap : Nat} {x : DataW H × List MemPlace}
 (h : DataW.trod enc Tryz.prog W base (fun _ => true) held fuel 40 [.slice a0 len cap] = some x) :
 ∃ L, Is W (.slice a0 len cap) L ∧ (∀ q ∈ L, -9223372036854775808 ≤ q ∧ q ≤ 9223372036854775807) ∧ L.length + 1 ≤ Rows.uptoBulk x.1 := by
 obtain ⟨hl0, hm0, hp0, L, hL, hLo, hLs⟩ := open_gs encI Tryz.underlying40 (by kernel_rfl) (fun _ => 1) (fun q => -9223372036854775808 ≤ q ∧ q ≤ 9223372036854775807) open_intI h
 have h1 := sum_len (sz := fun _ : Int => 1) (fun _ => Nat.le_refl _) L
 have h2 := hL.len
 subst h2
 exact ⟨L, ⟨a0, cap, rfl, hL, hp0, hl0, hm0⟩, hLo, by omega⟩
theorem open_boolC {fuel : Nat} {v : Value} {x : DataW H × List MemPlace} (h : DataW.trod enc Tryz.prog W base (fun _ => true) held fuel 4 [v] = some x) : ∃ b, v = .bool b := by
 obtain ⟨b, hb, _⟩ := DataW.trod_bool Tryz.underlying4 h
 simp only [List.cons.injEq, and_true] at hb
 exact ⟨b, hb⟩
/-- a slice of numbers in one cell -/
theorem open_intsC {fuel : Nat} {v : Value} {x : DataW H × List MemPlace} (h : DataW.trod enc Tryz.prog W base (fun _ => true) held fuel 40 [v] = some x) :
 ∃ L, Is W v L ∧ (∀ q ∈ L, -9223372036854775808 ≤ q ∧ q ≤ 9223372036854775807) ∧ L.length + 1 ≤ Rows.uptoBulk x.1 := by
 have h' := h
 rcases DataW.trod_slice Tryz.underlying40 h with ⟨hcs, hx⟩ | ⟨a, len', cap', elems, rest, n, _, hcs, hx, hba, hl, hm, hel, hi, _, _⟩
 ·simp at hcs
  subst hcs
  exact open_ints h'
 ·simp at hcs
  subst hcs
  exact open_ints h'
set_option maxRecDepth 100000 in
theorem open_wdL (fuel : Nat) (cs : List Value) (x : DataW H × List MemPlace) (h : DataW.trod enc Tryz.prog W base (fun _ => true) held fuel 39 cs = some x) :
 ∃ e : Wq, cs = mixL e.a e.dg e.t ∧ dok e.dg := by
 obtain ⟨y0, y1, y2, y3, y4, y5, m, hx, hl, h0, h1, h2, h3, h4, h5⟩ := trod_structE6 Tryz.underlying39 h
 have ec : Tryz.prog.cellsOf 39 = 39 := by kernel_rfl
 rw [ec] at hl
 have e0 : Tryz.prog.cellsOf 3 = 1 := by kernel_rfl
 have e1 : Tryz.prog.cellsOf 22 = 1 := by kernel_rfl
 have e2 : Tryz.prog.cellsOf 35 = 32 := by kernel_rfl
 have e3 : Tryz.prog.cellsOf 9 = 1 := by kernel_rfl
 have e4 : Tryz.prog.cellsOf 37 = 3 := by kernel_rfl
 simp only [e0, e1, e2, e3, e4] at h0 h1 h2 h3 h4 h5
 have hc := cutWd cs hl
 have one : ∀ a, a < 39 → ∃ v, (cs.drop a).take 1 = [v] := fun a ha => by
  rw [List.drop_eq_getElem_cons (by omega)]
  exact ⟨_, rfl⟩
 obtain ⟨v0, q0⟩ := one 0 (by omega)
 rw [q0] at h0 hc
 obtain ⟨v1, q1⟩ := one 1 (by omega)
 rw [q1] at h1 hc
 obtain ⟨v3, q3⟩ := one 34 (by omega)
 rw [q3] at h3 hc
 obtain ⟨v4, q4⟩ := one 35 (by omega)
 rw [q4] at h4 hc
 obtain ⟨k, rfl, hw0⟩ := open_int' Tryz.underlying3 h0
 obtain ⟨s, rfl, hw1⟩ := open_int' Tryz.underlying22 h1
 obtain ⟨dg, hdg, hdc, _, _⟩ := open_dig h2
 obtain ⟨nm, rfl, hnm, _⟩ := open_str' Tryz.underlying9 h3
 obtain ⟨z, rfl, hw4⟩ := open_int' Tryz.underlying3 h4
 obtain ⟨a, b, c, hlc, ha, hb, hcc⟩ := open_locE h5
 refine ⟨⟨k, s, dg, nm, z, a, b, c⟩, ?_, hdg⟩
 rw [hc, hdc, hlc]
 rfl
end
section
variable {H : Type} {enc : TypeId × Value → H} {W : World} {base : Nat} {held : Bool}
set_option maxRecDepth 100000 in
theorem open_enL (fuel : Nat) (cs : List Value) (x : DataW H × List MemPlace) (h : DataW.trod enc Tryz.prog W base (fun _ => true) held fuel 59 cs = some x) :
 ∃ (e : Pe) (s : Value), cs = mixL [] e.dg (e.t s) ∧ Is W s e.ins ∧ dok e.dg ∧ e.ins.length + 1 ≤ Rows.uptoBulk x.1 := by
 obtain ⟨y0, y1, y2, y3, y4, m, hx, hl, h0, h1, h2, h3, h4⟩ := trod_structE5 Tryz.underlying59 h
 have ec : Tryz.prog.cellsOf 59 = 38 := by kernel_rfl
 rw [ec] at hl
 have e0 : Tryz.prog.cellsOf 35 = 32 := by kernel_rfl
 have e1 : Tryz.prog.cellsOf 3 = 1 := by kernel_rfl
 have e2 : Tryz.prog.cellsOf 37 = 3 := by kernel_rfl
 have e3 : Tryz.prog.cellsOf 40 = 1 := by kernel_rfl
 simp only [e0, e1, e2, e3] at h0 h1 h2 h3 h4
 have hc := cutEn38 cs hl
 have one : ∀ a, a < 38 → ∃ v, (cs.drop a).take 1 = [v] := fun a ha => by
  rw [List.drop_eq_getElem_cons (by omega)]
  exact ⟨_, rfl⟩
 obtain ⟨v1, q1⟩ := one 32 (by omega)
 rw [q1] at h1 hc
 obtain ⟨v2, q2⟩ := one 33 (by omega)
 rw [q2] at h2 hc
 obtain ⟨v4, q4⟩ := one 37 (by omega)
 rw [q4] at h4 hc
 obtain ⟨dg, hdg, hdc, _, _⟩ := open_dig h0
 obtain ⟨k, rfl, hw1⟩ := open_int' Tryz.underlying3 h1
 obtain ⟨z, rfl, hw2⟩ := open_int' Tryz.underlying3 h2
 obtain ⟨a, b, c, hlc, ha, hb, hcc⟩ := open_locE h3
 obtain ⟨L, hL, hLo, hLb⟩ := open_intsC h4
 refine ⟨⟨dg, k, z, a, b, c, L⟩, v4, ?_, hL, hdg, ?_⟩
 ·rw [hc, hdc, hlc]
  rfl
 ·rw [hx]
  simp only [Rows.uptoBulk, Rows.uptoBulkAll]
  omega
end
section
variable {H : Type} {enc : TypeId × Value → H} {W : World} {base : Nat} {held : Bool}
end
section
variable {H : Type} {enc : TypeId × Value → H} {W : World} {base : Nat} {held : Bool}
set_option maxRecDepth 100000 in
theorem open_tnL (fuel : Nat) (cs : List Value) (x : DataW H × List MemPlace) (h : DataW.trod enc Tryz.prog W base (fun _ => true) held fuel 64 cs = some x) :
 ∃ (e : Pt) (s : Value), cs = mixL e.a e.dg (e.t s) ∧ Is W s e.ins ∧ dok e.dg ∧ e.ins.length + 1 ≤ Rows.uptoBulk x.1 := by
 obtain ⟨y0, y1, y2, y3, y4, m, hx, hl, h0, h1, h2, h3, h4⟩ := trod_structE5 Tryz.underlying64 h
 have ec : Tryz.prog.cellsOf 64 = 38 := by kernel_rfl
 rw [ec] at hl
 have e0 : Tryz.prog.cellsOf 9 = 1 := by kernel_rfl
 have e1 : Tryz.prog.cellsOf 35 = 32 := by kernel_rfl
 have e2 : Tryz.prog.cellsOf 4 = 1 := by kernel_rfl
 have e3 : Tryz.prog.cellsOf 37 = 3 := by kernel_rfl
 have e4 : Tryz.prog.cellsOf 40 = 1 := by kernel_rfl
 simp only [e0, e1, e2, e3, e4] at h0 h1 h2 h3 h4
 have hc := cutTn cs hl
 have one : ∀ a, a < 38 → ∃ v, (cs.drop a).take 1 = [v] := fun a ha => by
  rw [List.drop_eq_getElem_cons (by omega)]
  exact ⟨_, rfl⟩
 obtain ⟨v0, q0⟩ := one 0 (by omega)
 rw [q0] at h0 hc
 obtain ⟨v2, q2⟩ := one 33 (by omega)
 rw [q2] at h2 hc
 obtain ⟨v4, q4⟩ := one 37 (by omega)
 rw [q4] at h4 hc
 obtain ⟨nm, rfl, hnm, _⟩ := open_str' Tryz.underlying9 h0
 obtain ⟨dg, hdg, hdc, _, _⟩ := open_dig h1
 obtain ⟨g, rfl⟩ := open_boolC h2
 obtain ⟨a, b, c, hlc, ha, hb, hcc⟩ := open_locE h3
 obtain ⟨L, hL, hLo, hLb⟩ := open_intsC h4
 refine ⟨⟨nm, dg, g, a, b, c, L⟩, v4, ?_, hL, hdg, ?_⟩
 ·rw [hc, hdc, hlc]
  rfl
 ·rw [hx]
  simp only [Rows.uptoBulk, Rows.uptoBulkAll]
  omega
end
section
variable {H : Type} {enc : TypeId × Value → H} {W : World} {base : Nat} {held : Bool}
end
section
variable {H : Type} {enc : TypeId × Value → H} {W : World} {base : Nat} {held : Bool}
set_option maxRecDepth 100000 in
theorem en_in {e : Pe} {s : Value} (hd : e.dg.length = 32) {fuel : Nat} {x : DataW H × List MemPlace} (h : DataW.trod enc Tryz.prog W base (fun _ => true) held fuel 59 (mixL [] e.dg (e.t s)) = some x) : e.In := by
 obtain ⟨y0, y1, y2, y3, y4, m, hx, hl, h0, h1, h2, h3, h4⟩ := trod_structE5 Tryz.underlying59 h
 have e4 : Tryz.prog.cellsOf 37 = 3 := by kernel_rfl
 rw [e4] at h3
 obtain ⟨a, b, c, hc, r1, r2, r3⟩ := open_locE h3
 have h6 : ((mixL [] e.dg (e.t s)).drop 34).take 3 = [.int .i64 e.seg, .int .i64 e.off, .int .i64 e.len] := by
  unfold mixL Pe.t
  rw [List.drop_append, List.drop_append]
  have h7 : List.drop 34 (e.dg.map (Value.int .u8)) = [] := List.drop_eq_nil_of_le (by rw [List.length_map]; omega)
  have h8 : List.drop 33 (e.dg.map (Value.int .u8)) = [] := List.drop_eq_nil_of_le (by rw [List.length_map]; omega)
  simp [hd, h7, h8]
 rw [h6] at hc
 simp only [List.cons.injEq, Value.int.injEq, true_and, and_true] at hc
 obtain ⟨rfl, rfl, rfl⟩ := hc
 exact ⟨r1, r3⟩
set_option maxRecDepth 100000 in
theorem tn_in {e : Pt} {s : Value} (hd : e.dg.length = 32) {fuel : Nat} {x : DataW H × List MemPlace} (h : DataW.trod enc Tryz.prog W base (fun _ => true) held fuel 64 (mixL e.a e.dg (e.t s)) = some x) : e.In := by
 obtain ⟨y0, y1, y2, y3, y4, m, hx, hl, h0, h1, h2, h3, h4⟩ := trod_structE5 Tryz.underlying64 h
 have e4 : Tryz.prog.cellsOf 37 = 3 := by kernel_rfl
 rw [e4] at h3
 obtain ⟨a, b, c, hc, r1, r2, r3⟩ := open_locE h3
 have h6 : ((mixL e.a e.dg (e.t s)).drop 34).take 3 = [.int .i64 e.seg, .int .i64 e.off, .int .i64 e.len] := by
  unfold mixL Pt.a Pt.t
  rw [List.drop_append, List.drop_append]
  have h7 : List.drop 34 (e.dg.map (Value.int .u8)) = [] := List.drop_eq_nil_of_le (by rw [List.length_map]; omega)
  have h8 : List.drop 33 (e.dg.map (Value.int .u8)) = [] := List.drop_eq_nil_of_le (by rw [List.length_map]; omega)
  simp [hd, h7, h8]
 rw [h6] at hc
 simp only [List.cons.injEq, Value.int.injEq, true_and, and_true] at hc
 obtain ⟨rfl, rfl, rfl⟩ := hc
 exact ⟨r1, r3⟩
theorem open_exR (fuel : Nat) (cs : List Value) (y : DataW H × List MemPlace) (h : DataW.trod enc Tryz.prog W base (fun _ => true) held fuel encEn.t cs = some y) :
 ∃ q : Ex, cs = encEn.f q ∧ (Is W q.s q.e.ins ∧ dok q.e.dg ∧ q.e.In) ∧ q.e.ins.length + 1 ≤ Rows.uptoBulk y.1 := by
 obtain ⟨e, s, hc, hi, hd, hb⟩ := open_enL fuel cs y h
 obtain ⟨X, h1, h2, h3⟩ := hi.ex hd.1
 refine ⟨X, ?_, ⟨h3, by rw [h1]; exact hd, by rw [h1]; exact en_in hd.1 (by rw [← hc]; exact h)⟩, by rw [h1]; exact hb⟩
 rw [hc]
 show _ = mixL [] X.e.dg (X.e.t X.s)
 rw [h1, h2]
theorem open_entsR {fuel : Nat} {a0 : Option Addr} {len cap : Nat} {x : DataW H × List MemPlace}
 (h : DataW.trod enc Tryz.prog W base (fun _ => true) held fuel 23 [.slice a0 len cap] = some x) :
 len ≤ cap ∧ cap ≤ maxLen ∧ (a0 = none → cap = 0) ∧ ∃ (L : List Ex) (K : Nat), ReN W (fun b => b < W.heap.size) a0 len L ∧ insLe (peL L) K ∧ len + K + 1 ≤ Rows.uptoBulk x.1 ∧ ∀ y ∈ peL L, y.In := by
 obtain ⟨hl0, hm0, hp0, L, hL, hLo, hLs⟩ := open_gs encEn Tryz.underlying23 (by kernel_rfl) (fun q => q.e.ins.length + 1) (fun q => Is W q.s q.e.ins ∧ dok q.e.dg ∧ q.e.In) open_exR h
 obtain ⟨K, h1, h2⟩ := sum_max (fun q : Ex => q.e.ins.length) (fun q => q.e.ins.length + 1) (fun _ => Nat.le_refl _) L
 refine ⟨hl0, hm0, hp0, L, K, ⟨hL, fun hn b off hp => ?_, fun y hy => (hLo y hy).1, fun y hy hne b hb => (hLo y hy).1.lt hne hb, fun y hy => (hLo y hy).2.1, fun b hb => hb⟩, fun y hy => ?_, ?_, fun y hy => ?_⟩
 ·subst hp
  exact hL.block_lt (by omega)
 ·obtain ⟨z, hz, rfl⟩ := List.mem_map.1 hy
  exact h1 z hz
 ·have := hL.len
  omega
 ·obtain ⟨z, hz, rfl⟩ := List.mem_map.1 hy
  exact (hLo z hz).2.2
theorem open_txR (fuel : Nat) (cs : List Value) (y : DataW H × List MemPlace) (h : DataW.trod enc Tryz.prog W base (fun _ => true) held fuel encTn.t cs = some y) :
 ∃ q : Tx, cs = encTn.f q ∧ (Is W q.s q.e.ins ∧ dok q.e.dg ∧ q.e.In) ∧ q.e.ins.length + 1 ≤ Rows.uptoBulk y.1 := by
 obtain ⟨e, s, hc, hi, hd, hb⟩ := open_tnL fuel cs y h
 obtain ⟨X, h1, h2, h3⟩ := hi.tx hd.1
 refine ⟨X, ?_, ⟨h3, by rw [h1]; exact hd, by rw [h1]; exact tn_in hd.1 (by rw [← hc]; exact h)⟩, by rw [h1]; exact hb⟩
 rw [hc]
 show _ = mixL X.e.a X.e.dg (X.e.t X.s)
 rw [h1, h2]
theorem open_tentsR {fuel : Nat} {a0 : Option Addr} {len cap : Nat} {x : DataW H × List MemPlace}
 (h : DataW.trod enc Tryz.prog W base (fun _ => true) held fuel 24 [.slice a0 len cap] = some x) :
 len ≤ cap ∧ cap ≤ maxLen ∧ (a0 = none → cap = 0) ∧ ∃ (L : List Tx) (K : Nat), ReT W (fun b => b < W.heap.size) a0 len L ∧ insLeT (ptL L) K ∧ len + K + 1 ≤ Rows.uptoBulk x.1 ∧ ∀ y ∈ ptL L, y.In := by
 obtain ⟨hl0, hm0, hp0, L, hL, hLo, hLs⟩ := open_gs encTn Tryz.underlying24 (by kernel_rfl) (fun q => q.e.ins.length + 1) (fun q => Is W q.s q.e.ins ∧ dok q.e.dg ∧ q.e.In) open_txR h
 obtain ⟨K, h1, h2⟩ := sum_max (fun q : Tx => q.e.ins.length) (fun q => q.e.ins.length + 1) (fun _ => Nat.le_refl _) L
 refine ⟨hl0, hm0, hp0, L, K, ⟨hL, fun hn b off hp => ?_, fun y hy => (hLo y hy).1, fun y hy hne b hb => (hLo y hy).1.lt hne hb, fun y hy => (hLo y hy).2.1, fun b hb => hb⟩, fun y hy => ?_, ?_, fun y hy => ?_⟩
 ·subst hp
  exact hL.block_lt (by omega)
 ·obtain ⟨z, hz, rfl⟩ := List.mem_map.1 hy
  exact h1 z hz
 ·have := hL.len
  omega
 ·obtain ⟨z, hz, rfl⟩ := List.mem_map.1 hy
  exact (hLo z hz).2.2
end
end Go.Proofs.YtpfbfhigelbfcaaGreat

