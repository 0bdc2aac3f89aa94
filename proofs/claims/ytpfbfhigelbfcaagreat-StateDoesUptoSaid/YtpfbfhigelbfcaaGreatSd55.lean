/- Layer 22, the laws' arguments, opened: snapshots, deeds, rows of words -/
import Derived.Test.YtpfbfhigelbfcaaGreatSd19
import Derived.Test.YtpfbfhigelbfcaaGreatSd54
set_option linter.unusedSimpArgs false
set_option linter.unusedVariables false
namespace Go.Proofs.YtpfbfhigelbfcaaGreat
open Go.RowKit Go.Lib Go.ChangeShapes Go.WideShapes Go.ChangeAt
theorem cutDy {α : Type} (cs : List α) (h : cs.length = 41) : cs = (cs.drop 0).take 1 ++ ((cs.drop 1).take 39 ++ (cs.drop 40).take 1) := by
 have e (a b : Nat) : cs.drop a = (cs.drop a).take b ++ cs.drop (a + b) := by
  rw [← List.drop_drop, List.take_append_drop]
 have h3 : cs.drop 40 = (cs.drop 40).take 1 := by rw [List.take_of_length_le (by rw [List.length_drop]; omega)]
 have h2 := e 1 39
 have h1 := e 0 1
 simp only [Nat.reduceAdd] at h2 h1
 rw [← h3, ← h2, ← h1, List.drop_zero]
section
variable {H : Type} {enc : TypeId × Value → H} {W : World} {base : Nat} {held : Bool}
theorem bulk_pos (d : DataW H) : 1 ≤ Rows.uptoBulk d := by
 cases d with
 | lit l => cases l <;> simp [Rows.uptoBulk]
 | nil => simp [Rows.uptoBulk]
 | ptr d => simp [Rows.uptoBulk]
 | slice a b => simp [Rows.uptoBulk]
 | agg p => simp [Rows.uptoBulk]
 | iface t d => simp [Rows.uptoBulk]
 | map e => simp [Rows.uptoBulk]
 | held h => simp [Rows.uptoBulk]
set_option maxRecDepth 100000 in
theorem wd_in {e : Wq} (hd : e.dg.length = 32) {fuel : Nat} {x : DataW H × List MemPlace} (h : DataW.trod enc Tryz.prog W base (fun _ => true) held fuel 39 (mixL e.a e.dg e.t) = some x) : e.In := by
 obtain ⟨y0, y1, y2, y3, y4, y5, m, hx, hl, h0, h1, h2, h3, h4, h5⟩ := trod_structE6 Tryz.underlying39 h
 have e4 : Tryz.prog.cellsOf 37 = 3 := by kernel_rfl
 rw [e4] at h5
 obtain ⟨a, b, c, hc, r1, r2, r3⟩ := open_locE h5
 have h6 : ((mixL e.a e.dg e.t).drop 36).take 3 = [.int .i64 e.seg, .int .i64 e.off, .int .i64 e.len] := by
  unfold mixL Wq.a Wq.t
  rw [List.drop_append, List.drop_append]
  have h7 : List.drop 34 (e.dg.map (Value.int .u8)) = [] := List.drop_eq_nil_of_le (by rw [List.length_map]; omega)
  simp [hd, h7]
 rw [h6] at hc
 simp only [List.cons.injEq, Value.int.injEq, true_and, and_true] at hc
 obtain ⟨rfl, rfl, rfl⟩ := hc
 exact ⟨r1, r3⟩
theorem open_loL (fuel : Nat) (cs : List Value) (y : DataW H × List MemPlace) (h : DataW.trod enc Tryz.prog W base (fun _ => true) held fuel encLo.t cs = some y) :
 ∃ q : Int × Int × Int, cs = encLo.f q ∧ (Rgi q.1 ∧ -9223372036854775808 ≤ q.2.1 ∧ q.2.1 ≤ 9223372036854775807) ∧ 1 ≤ Rows.uptoBulk y.1 := by
 have h' : DataW.trod enc Tryz.prog W base (fun _ => true) held fuel 97 cs = some y := h
 obtain ⟨y0, y1, y2, m, hx, hl, h0, h1, h2⟩ := trod_structE3 Tryz.underlying97 h'
 have ec : Tryz.prog.cellsOf 97 = 3 := by kernel_rfl
 rw [ec] at hl
 have e0 : Tryz.prog.cellsOf 3 = 1 := by kernel_rfl
 simp only [e0] at h0 h1 h2
 match cs, hl with
 | [v0, v1, v2], _ =>
   simp only [List.drop_succ_cons, List.drop_zero, List.take_succ_cons, List.take_zero] at h0 h1 h2
   obtain ⟨a, rfl, hw0⟩ := open_int' Tryz.underlying3 h0
   obtain ⟨b, rfl, hw1⟩ := open_int' Tryz.underlying3 h1
   obtain ⟨c, rfl, hw2⟩ := open_int' Tryz.underlying3 h2
   exact ⟨(a, b, c), rfl, ⟨wf_i64 hw0, wf_i64 hw1⟩, bulk_pos _⟩
theorem open_loads {fuel : Nat} {a0 : Option Addr} {len cap : Nat} {x : DataW H × List MemPlace}
 (h : DataW.trod enc Tryz.prog W base (fun _ => true) held fuel 25 [.slice a0 len cap] = some x) :
 SlOk a0 len cap ∧ ∃ K : List (Int × Int × Int), Gs encLo W a0 len K ∧ (∀ q ∈ K, Rgi q.1 ∧ -9223372036854775808 ≤ q.2.1 ∧ q.2.1 ≤ 9223372036854775807) ∧ len + 1 ≤ Rows.uptoBulk x.1 := by
 obtain ⟨hl0, hm0, hp0, L, hL, hLo, hLs⟩ := open_gs encLo Tryz.underlying25 (by kernel_rfl) (fun _ => 1) (fun q => Rgi q.1 ∧ -9223372036854775808 ≤ q.2.1 ∧ q.2.1 ≤ 9223372036854775807) open_loL h
 have h1 := sum_len (sz := fun _ : Int × Int × Int => 1) (fun _ => Nat.le_refl _) L
 have h2 := hL.len
 exact ⟨⟨hp0, hl0, hm0⟩, L, hL, hLo, by omega⟩
theorem trod_structE7 {P : Program} {spare : Nat → Bool} {t : TypeId} {f0 f1 f2 f3 f4 f5 f6 : Field} {fuel : Nat} {cs : List Value} {x : DataW H × List MemPlace} (ht : P.underlying t = some (.struct #[f0, f1, f2, f3, f4, f5, f6])) (h : DataW.trod enc P W base spare held fuel t cs = some x) :
 ∃ y0 y1 y2 y3 y4 y5 y6 n, x.1 = .agg [y0.1, y1.1, y2.1, y3.1, y4.1, y5.1, y6.1] ∧ cs.length = P.cellsOf t ∧ DataW.trod enc P W base spare held n f0.type ((cs.drop f0.offset).take (P.cellsOf f0.type)) = some y0 ∧ DataW.trod enc P W base spare held n f1.type ((cs.drop f1.offset).take (P.cellsOf f1.type)) = some y1 ∧ DataW.trod enc P W base spare held n f2.type ((cs.drop f2.offset).take (P.cellsOf f2.type)) = some y2 ∧ DataW.trod enc P W base spare held n f3.type ((cs.drop f3.offset).take (P.cellsOf f3.type)) = some y3 ∧ DataW.trod enc P W base spare held n f4.type ((cs.drop f4.offset).take (P.cellsOf f4.type)) = some y4 ∧ DataW.trod enc P W base spare held n f5.type ((cs.drop f5.offset).take (P.cellsOf f5.type)) = some y5 ∧ DataW.trod enc P W base spare held n f6.type ((cs.drop f6.offset).take (P.cellsOf f6.type)) = some y6 := by
 obtain ⟨xs, n, _, rfl, hl, hlen, hf⟩ := DataW.trod_struct ht h
 match xs, hlen with
 | [y0, y1, y2, y3, y4, y5, y6], _ => exact ⟨y0, y1, y2, y3, y4, y5, y6, n, by simp, hl, by simpa using hf 0 f0 rfl, by simpa using hf 1 f1 rfl, by simpa using hf 2 f2 rfl, by simpa using hf 3 f3 rfl, by simpa using hf 4 f4 rfl, by simpa using hf 5 f5 rfl, by simpa using hf 6 f6 rfl⟩
theorem slice_cell22 {P : Program} {t e : TypeId} (ht : P.underlying t = some (.slice e)) {fuel : Nat} {v : Value} {x : DataW H × List MemPlace} (h : DataW.trod enc P W base (fun _ => true) held fuel t [v] = some x) : ∃ p n c, v = .slice p n c := by
 rcases DataW.trod_slice ht h with ⟨hcs, hx⟩ | ⟨a, len', cap', elems, rest, n, _, hcs, hx, hba, hl, hm, hel, hi, _, _⟩
 ·simp at hcs
  exact ⟨_, _, _, hcs⟩
 ·simp at hcs
  exact ⟨_, _, _, hcs⟩
set_option maxRecDepth 100000 in
theorem open_snap {r : Reach} {b0 : Nat} {v : Value} {d : DataW H} {ps : List MemPlace} (hv : Value.okWide Tryz.prog W r b0 27 v)
 (h : DataW.Trod enc Tryz.prog W base (fun _ => true) held 27 v d ps) :
 ∃ (sa sb sc se : Int) (p : Option Addr) (n c : Nat) (D : List Ex) (q : Option Addr) (m e : Nat) (T : List Tx) (rr : Option Addr) (l cr : Nat) (K : List (Int × Int × Int)) (K1 : Nat), v = .agg (SnC sa sb sc se (.slice p n c) (.slice q m e) (.slice rr l cr)) ∧ ReN W (fun b => b < W.heap.size) p n D ∧ ReT W (fun b => b < W.heap.size) q m T ∧ Gs encLo W rr l K ∧
   SlOk p n c ∧ SlOk q m e ∧ SlOk rr l cr ∧ SnR D T K ∧ insLe (peL D) K1 ∧ insLeT (ptL T) K1 ∧ n + m + l + K1 + 1 ≤ Rows.uptoBulk d := by
 obtain ⟨cs, rfl, hsz⟩ := okWide_struct Tryz.underlying27 hv
 obtain ⟨fuel, hf⟩ := h
 obtain ⟨y0, y1, y2, y3, y4, y5, y6, k, hx, hl, h0, h1, h2, h3, h4, h5, h6⟩ := trod_structE7 Tryz.underlying27 hf
 have ec : Tryz.prog.cellsOf 27 = 7 := by kernel_rfl
 have e0 : Tryz.prog.cellsOf 3 = 1 := by kernel_rfl
 have e1 : Tryz.prog.cellsOf 22 = 1 := by kernel_rfl
 have e2 : Tryz.prog.cellsOf 23 = 1 := by kernel_rfl
 have e3 : Tryz.prog.cellsOf 24 = 1 := by kernel_rfl
 have e4 : Tryz.prog.cellsOf 25 = 1 := by kernel_rfl
 rw [ec] at hl
 obtain ⟨cs⟩ := cs
 match cs, hl with
 | [v0, v1, v2, v3, v4, v5, v6], _ =>
   simp only [e0, e1, e2, e3, e4, List.drop_succ_cons, List.drop_zero, List.take_succ_cons, List.take_zero] at h0 h1 h2 h3 h4 h5 h6
   obtain ⟨sa, rfl, _⟩ := open_int' Tryz.underlying3 h0
   obtain ⟨sb, rfl, _⟩ := open_int' Tryz.underlying3 h1
   obtain ⟨sc, rfl, _⟩ := open_int' Tryz.underlying3 h2
   obtain ⟨se, rfl, _⟩ := open_int' Tryz.underlying22 h3
   obtain ⟨p, n, c, rfl⟩ := slice_cell22 Tryz.underlying23 h4
   obtain ⟨q, m, e, rfl⟩ := slice_cell22 Tryz.underlying24 h5
   obtain ⟨rr, l, cr, rfl⟩ := slice_cell22 Tryz.underlying25 h6
   obtain ⟨a1, a2, a3, D, K1, a4, a5, a6, a7⟩ := open_entsR h4
   obtain ⟨b1, b2, b3, T, K2, b4, b5, b6, b7⟩ := open_tentsR h5
   obtain ⟨c1, K, c2, c3, c4⟩ := open_loads h6
   have hx' : d = .agg [y0.1, y1.1, y2.1, y3.1, y4.1, y5.1, y6.1] := hx
   refine ⟨sa, sb, sc, se, p, n, c, D, q, m, e, T, rr, l, cr, K, K1 + K2, rfl, a4, b4, c2, ⟨a3, a1, a2⟩, ⟨b3, b1, b2⟩, c1, ⟨fun x hx => (c3 x hx).2, fun x hx => (c3 x hx).1, a7, b7⟩, fun z hz => Nat.le_trans (a5 z hz) (by omega), fun z hz => Nat.le_trans (b5 z hz) (by omega), ?_⟩
   rw [hx']
   simp only [Rows.uptoBulk, Rows.uptoBulkAll]
   omega
set_option maxRecDepth 100000 in
theorem open_dyL (fuel : Nat) (cs : List Value) (x : DataW H × List MemPlace) (h : DataW.trod enc Tryz.prog W base (fun _ => true) held fuel encDy.t cs = some x) :
 ∃ q : Dy, cs = encDy.f q ∧ (Is W q.s q.B ∧ dok q.w.dg ∧ q.w.In ∧ ∀ b ∈ q.B, Rgi b) ∧ q.B.length + 1 ≤ Rows.uptoBulk x.1 := by
 have h' : DataW.trod enc Tryz.prog W base (fun _ => true) held fuel 42 cs = some x := h
 obtain ⟨y0, y1, y2, m, hx, hl, h0, h1, h2⟩ := trod_structE3 Tryz.underlying42 h'
 have ec : Tryz.prog.cellsOf 42 = 41 := by kernel_rfl
 rw [ec] at hl
 have e1 : Tryz.prog.cellsOf 39 = 39 := by kernel_rfl
 have e2 : Tryz.prog.cellsOf 3 = 1 := by kernel_rfl
 have e3 : Tryz.prog.cellsOf 40 = 1 := by kernel_rfl
 simp only [e1, e2, e3] at h0 h1 h2
 have hc := cutDy cs hl
 have one : ∀ a, a < 41 → ∃ v, (cs.drop a).take 1 = [v] := fun a ha => by
  rw [List.drop_eq_getElem_cons (by omega)]
  exact ⟨_, rfl⟩
 obtain ⟨v0, q0⟩ := one 0 (by omega)
 obtain ⟨v2, q2⟩ := one 40 (by omega)
 rw [q0] at h0 hc
 rw [q2] at h2 hc
 obtain ⟨k, rfl, hw0⟩ := open_int' Tryz.underlying3 h0
 obtain ⟨w, hwc, hwd⟩ := open_wdL _ _ _ h1
 obtain ⟨B, hB, hBo, hBb⟩ := open_intsC h2
 obtain ⟨p, c, rfl, hg⟩ := hB
 refine ⟨⟨k, w, hwd.1, p, c, B⟩, ?_, ⟨⟨p, c, rfl, hg⟩, hwd, wd_in hwd.1 (by rw [← hwc]; exact h1), hBo⟩, ?_⟩
 ·rw [hc, hwc]
  rfl
 ·rw [hx]
  simp only [Rows.uptoBulk, Rows.uptoBulkAll]
  omega
theorem open_sdeeds {fuel : Nat} {a0 : Option Addr} {len cap : Nat} {x : DataW H × List MemPlace}
 (h : DataW.trod enc Tryz.prog W base (fun _ => true) held fuel 28 [.slice a0 len cap] = some x) :
 ∃ L : List Dy, Gs encDy W a0 len L ∧ (∀ q ∈ L, Is W q.s q.B ∧ dok q.w.dg ∧ q.B.length ≤ Rows.uptoBulk x.1 ∧ q.w.In ∧ ∀ b ∈ q.B, Rgi b) ∧ len + 1 ≤ Rows.uptoBulk x.1 := by
 obtain ⟨hl0, hm0, hp0, L, hL, hLo, hLs⟩ := open_gs encDy Tryz.underlying28 (by kernel_rfl) (fun q => q.B.length + 1) (fun q => Is W q.s q.B ∧ dok q.w.dg ∧ q.w.In ∧ ∀ b ∈ q.B, Rgi b) open_dyL h
 obtain ⟨K, h1, h2⟩ := sum_max (fun q : Dy => q.B.length) (fun q => q.B.length + 1) (fun _ => Nat.le_refl _) L
 have h3 := hL.len
 exact ⟨L, hL, fun q hq => ⟨(hLo q hq).1, (hLo q hq).2.1, by have := h1 q hq; omega, (hLo q hq).2.2⟩, by omega⟩
end
end Go.Proofs.YtpfbfhigelbfcaaGreat

