/- Layer 22, the laws' arguments, opened: snapshots, deeds, rows of words -/
import Derived.Test.YtpfbfhigelbfcaaGreatSc11
import Derived.Test.YtpfbfhigelbfcaaGreatSc19
import Derived.Test.YtpfbfhigelbfcaaGreatSc54
set_option linter.unusedSimpArgs false
set_option linter.unusedVariables false
namespace Go.Proofs.YtpfbfhigelbfcaaGreat
open Go.RowKit Go.Lib Go.ChangeShapes Go.WideShapes Go.ChangeAt
section
variable {H : Type} {enc : TypeId × Value → H} {W : World} {base : Nat} {held : Bool}
theorem bulk_pos (d : DataW H) : 1 ≤ Rows.uptoBulk d := by
  cases d with
  | lit l => cases l <;> simp [Rows.uptoBulk]
  | nil => simp [Rows.uptoBulk]
  | ptr d => simp [Rows.uptoBulk]
  | slice a b => simp [Rows.uptoBulk]
  | agg p => simp [Rows.uptoBulk]
  | iface t d => simp [Rows.uptoBulk]
  | map e => simp [Rows.uptoBulk]
  | held h => simp [Rows.uptoBulk]
set_option maxRecDepth 100000 in
theorem wd_in {e : Wq} (hd : e.dg.length = 32) {fuel : Nat} {x : DataW H × List MemPlace} (h : DataW.trod enc Tryz.prog W base (fun _ => true) held fuel 39 (mixL e.a e.dg e.t) = some x) : e.In := by
  obtain ⟨y0, y1, y2, y3, y4, y5, m, hx, hl, h0, h1, h2, h3, h4, h5⟩ := trod_structE6 Tryz.underlying39 h
  have e4 : Tryz.prog.cellsOf 37 = 3 := by kernel_rfl
  rw [e4] at h5
  obtain ⟨a, b, c, hc, r1, r2, r3⟩ := open_locE h5
  have h6 : ((mixL e.a e.dg e.t).drop 36).take 3 = [.int .i64 e.seg, .int .i64 e.off, .int .i64 e.len] := by
    unfold mixL Wq.a Wq.t
    rw [List.drop_append, List.drop_append]
    have h7 : List.drop 34 (e.dg.map (Value.int .u8)) = [] := List.drop_eq_nil_of_le (by rw [List.length_map]; omega)
    simp [hd, h7]
  rw [h6] at hc
  simp only [List.cons.injEq, Value.int.injEq, true_and, and_true] at hc
  obtain ⟨rfl, rfl, rfl⟩ := hc
  exact ⟨r1, r3⟩
theorem sum_c {α : Type} (k : Nat) (L : List α) : (L.map fun _ => k).sum = k * L.length := by
  induction L with
  | nil => rfl
  | cons x L ih => rw [List.map_cons, List.sum_cons, ih, List.length_cons, Nat.mul_succ]; omega
theorem open_wxL7 (fuel : Nat) (cs : List Value) (y : DataW H × List MemPlace) (h : DataW.trod enc Tryz.prog W base (fun _ => true) held fuel encWd.t cs = some y) :
    ∃ q : Wx, cs = encWd.f q ∧ (dok q.1.dg ∧ q.1.In) ∧ 7 ≤ Rows.uptoBulk y.1 := by
  obtain ⟨e, hc, hd⟩ := open_wdL fuel cs y h
  refine ⟨⟨e, hd.1⟩, hc, ⟨hd, wd_in hd.1 (by rw [← hc]; exact h)⟩, ?_⟩
  obtain ⟨y0, y1, y2, y3, y4, y5, m, hx, _⟩ := trod_structE6 Tryz.underlying39 h
  rw [hx]
  have := bulk_pos y0.1
  have := bulk_pos y1.1
  have := bulk_pos y2.1
  have := bulk_pos y3.1
  have := bulk_pos y4.1
  have := bulk_pos y5.1
  simp only [Rows.uptoBulk, Rows.uptoBulkAll]
  omega
theorem open_words7 {fuel : Nat} {a0 : Option Addr} {len cap : Nat} {x : DataW H × List MemPlace}
    (h : DataW.trod enc Tryz.prog W base (fun _ => true) held fuel 50 [.slice a0 len cap] = some x) :
    ∃ L : List Wx, Gs encWd W a0 len L ∧ (∀ q ∈ L, dok q.1.dg ∧ q.1.In) ∧ 7 * len + 1 ≤ Rows.uptoBulk x.1 := by
  obtain ⟨hl0, hm0, hp0, L, hL, hLo, hLs⟩ := open_gs encWd Tryz.underlying50 (by kernel_rfl) (fun _ => 7) (fun q => dok q.1.dg ∧ q.1.In) open_wxL7 h
  rw [sum_c] at hLs
  have h2 := hL.len
  exact ⟨L, hL, hLo, by rw [← h2]; exact hLs⟩
end
end Go.Proofs.YtpfbfhigelbfcaaGreat

