/- Layer 13: the law's argument, opened. -/
import Derived.Test.YtfpelocemceffaaFraM
import Derived.Test.YtfpelocemceffaaLaw
import Derived.Lib.SmallJoins
namespace Go.Proofs.Ytfpelocemceffaa
set_option linter.unusedVariables false
open Go.RowKit Go.Lib Go.ChangeShapes Go.WideShapes Go.ChangeAt

section
variable {H : Type} {enc : TypeId × Value → H} {W : World} {base : Nat} {held : Bool}
theorem trod_struct5M {P : Program} {spare : Nat → Bool} {t : TypeId} {f0 f1 f2 f3 f4 : Field} {fuel : Nat} {cs : List Value} {x : DataW H × List MemPlace} (ht : P.underlying t = some (.struct #[f0, f1, f2, f3, f4])) (h : DataW.trod enc P W base spare held fuel t cs = some x) :
    ∃ y0 y1 y2 y3 y4 n, x.1 = .agg [y0.1, y1.1, y2.1, y3.1, y4.1] ∧ cs.length = P.cellsOf t ∧ DataW.trod enc P W base spare held n f0.type ((cs.drop f0.offset).take (P.cellsOf f0.type)) = some y0 ∧
      DataW.trod enc P W base spare held n f1.type ((cs.drop f1.offset).take (P.cellsOf f1.type)) = some y1 ∧ DataW.trod enc P W base spare held n f2.type ((cs.drop f2.offset).take (P.cellsOf f2.type)) = some y2 ∧
      DataW.trod enc P W base spare held n f3.type ((cs.drop f3.offset).take (P.cellsOf f3.type)) = some y3 ∧ DataW.trod enc P W base spare held n f4.type ((cs.drop f4.offset).take (P.cellsOf f4.type)) = some y4 := by
  obtain ⟨xs, n, _, rfl, hl, hlen, hf⟩ := DataW.trod_struct ht h
  match xs, hlen with
  | [y0, y1, y2, y3, y4], _ => exact ⟨y0, y1, y2, y3, y4, n, by simp, hl, by simpa using hf 0 f0 rfl, by simpa using hf 1 f1 rfl, by simpa using hf 2 f2 rfl, by simpa using hf 3 f3 rfl, by simpa using hf 4 f4 rfl⟩

set_option maxRecDepth 100000 in
theorem open_madeL (fuel : Nat) (cs : List Value) (x : DataW H × List MemPlace) (h : DataW.trod enc Try.prog W base (fun _ => true) held fuel 36 cs = some x) :
    ∃ k s p n c zs pa na ca az pe ne ce es, cs = [.int .i64 k, .int .u64 s, .slice p n c, .slice pa na ca, .slice pe ne ce] ∧ (0 ≤ s ∧ s < 18446744073709551616) ∧ Bs W p n zs ∧ (p = none → c = 0) ∧ n ≤ c ∧ Bs W pa na az ∧ (pa = none → ca = 0) ∧ na ≤ ca ∧ Bs W pe ne es ∧ (pe = none → ce = 0) ∧ ne ≤ ce ∧ c + ca + ce + 3 ≤ Rows.uptoBulk x.1 ∧ (-9223372036854775808 ≤ k ∧ k ≤ 9223372036854775807) := by
  obtain ⟨y0, y1, y2, y3, y4, m, hx, hl, h0, h1, h2, h3, h4⟩ := trod_struct5M Try.underlying36 h
  have ec : Try.prog.cellsOf 36 = 5 := by kernel_rfl
  rw [ec] at hl
  match cs, hl with
  | [v0, v1, v2, v3, v4], _ =>
    have e0 : Try.prog.cellsOf 3 = 1 := by kernel_rfl
    have e1 : Try.prog.cellsOf 23 = 1 := by kernel_rfl
    have e2 : Try.prog.cellsOf 22 = 1 := by kernel_rfl
    have e3 : Try.prog.cellsOf 5 = 1 := by kernel_rfl
    simp only [e0, e1, e2, List.drop_succ_cons, List.drop_zero, List.take_succ_cons, List.take_zero] at h0 h1 h2 h3 h4
    obtain ⟨k, hk, hy0, hw0⟩ := DataW.trod_int Try.underlying3 h0
    obtain ⟨s, hs, hy1, hw1⟩ := DataW.trod_int Try.underlying23 h1
    obtain ⟨p, n, c, zs, hv2, hlc2, hcm2, hpc2, hbk2, hbs2⟩ := open_bs' Try.underlying22 Try.underlying5 e3 h2
    obtain ⟨pa, na, ca, az, hv3, hlc3, hcm3, hpc3, hbk3, hbs3⟩ := open_bs' Try.underlying22 Try.underlying5 e3 h3
    obtain ⟨pe, ne, ce, es, hv4, hlc4, hcm4, hpc4, hbk4, hbs4⟩ := open_bs' Try.underlying22 Try.underlying5 e3 h4
    simp only [List.cons.injEq, and_true] at hk hs
    subst hk hs hv2 hv3 hv4
    refine ⟨k, s, p, n, c, zs, pa, na, ca, az, pe, ne, ce, es, rfl, wf_u64 hw1, hbs2, hpc2, hlc2, hbs3, hpc3, hlc3, hbs4, hpc4, hlc4, ?_, wf_i64 hw0⟩
    rw [hx]
    simp only [Rows.uptoBulk, Rows.uptoBulkAll, hbk2, hbk3, hbk4]
    omega
set_option maxRecDepth 100000 in
theorem open_made {r : Reach} {b0 : Nat} {v : Value} {d : DataW H} {ps : List MemPlace} (hv : Value.okWide Try.prog W r b0 36 v)
    (h : DataW.Trod enc Try.prog W base (fun _ => true) held 36 v d ps) :
    ∃ k s p n c zs pa na ca az pe ne ce es, v = mdV k s p n c pa na ca pe ne ce ∧ (0 ≤ s ∧ s < 18446744073709551616) ∧ Bs W p n zs ∧ (p = none → c = 0) ∧ n ≤ c ∧ Bs W pa na az ∧ (pa = none → ca = 0) ∧ na ≤ ca ∧ Bs W pe ne es ∧ (pe = none → ce = 0) ∧ ne ≤ ce ∧ c + ca + ce + 3 ≤ Rows.uptoBulk d ∧ (-9223372036854775808 ≤ k ∧ k ≤ 9223372036854775807) := by
  obtain ⟨cs, rfl, hsz⟩ := okWide_struct Try.underlying36 hv
  obtain ⟨fuel, hf⟩ := h
  obtain ⟨k, s, p, n, c, zs, pa, na, ca, az, pe, ne, ce, es, e, g⟩ := open_madeL fuel cs.toList (d, ps) hf
  refine ⟨k, s, p, n, c, zs, pa, na, ca, az, pe, ne, ce, es, ?_, g⟩
  unfold mdV
  congr 1
  exact Array.toList_inj.1 e
end
end Go.Proofs.Ytfpelocemceffaa
