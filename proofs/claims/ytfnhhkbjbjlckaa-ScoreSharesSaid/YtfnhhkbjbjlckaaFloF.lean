/- Layer 7, walks of package score: Share, Below, May. -/
import Derived.Test.YtfnhhkbjbjlckaaFloL
namespace Go.Proofs.Ytfnhhkbjbjlckaa
set_option linter.unusedVariables false
open Go.RowKit Go.Lib

theorem shareP_some {live all : Int} {q : Nat} (hl : InI64 live) (h : Ieee.double.div (fi live) (fi all) = some q) : shareP live all q := by
  unfold shareP
  by_cases h0 : all = 0
  · subst h0
    rw [if_pos rfl]
    by_cases l0 : live = 0
    · subst l0
      rw [fi_zero, fdiv_none] at h; cases h
    · rw [if_neg l0]
      rw [fi_zero, fdiv_by0 l0 hl.1 hl.2] at h
      injection h with h; exact h.symm
  · rw [if_neg h0, h]
theorem shareP_none {live all : Int} {r : Nat} (hl : InI64 live) (h : Ieee.double.div (fi live) (fi all) = none) (hr : fnan r) : shareP live all r := by
  unfold shareP
  by_cases h0 : all = 0
  · subst h0
    rw [if_pos rfl]
    by_cases l0 : live = 0
    · rw [if_pos l0]; exact hr
    · rw [fi_zero, fdiv_by0 l0 hl.1 hl.2] at h; cases h
  · rw [if_neg h0, h]; exact hr

set_option maxRecDepth 100000 in
theorem share_ok : ShareOk := by
  intro live all w hl ha
  cases hd : Ieee.double.div (fi live) (fi all) with
  | none =>
    obtain ⟨r, hq, hr⟩ := run_quo_nan (P := Try.prog) 22 (floatOfInt .f64 live) (floatOfInt .f64 all) hd w
    have HP := Lib.hid (shareP_none hl hd hr)
    clear hr hd hl ha
    go_enter Try.func7, Try.ntmps7
    go_wp2
    go_ret
    exact ⟨r, rfl, HP.out, (Below.refl _ _).drew⟩
  | some r =>
    have hq := run_quo_some (P := Try.prog) 22 (floatOfInt .f64 live) (floatOfInt .f64 all) r hd
    have HP := Lib.hid (shareP_some hl hd)
    clear hd hl ha
    go_enter Try.func7, Try.ntmps7
    go_wp2
    go_ret
    exact ⟨r, rfl, HP.out, Below.refl _ _⟩
set_option maxRecDepth 100000 in
theorem below_ok : BelowOk := by
  intro x y w
  have c := flt_is x y
  generalize flt x y = b at *
  go_enter Try.func10, Try.ntmps10
  go_wp2
  go_ret
  exact ⟨by rw [← c]; rfl, Below.refl _ _⟩
set_option maxRecDepth 100000 in
theorem may_ok : MayOk := by
  intro x w
  have c2 : (FloatKind.f64.format.order x 0 == some .gt || FloatKind.f64.format.order x 0 == some .eq) = (flt 0 x || feq x 0) := by rw [fgt_is, feq_is]
  have c3 : (FloatKind.f64.format.order x 4607182418800017408 == some .lt || FloatKind.f64.format.order x 4607182418800017408 == some .eq) = (flt x 4607182418800017408 || feq x 4607182418800017408) := by rw [flt_is, feq_is]
  have HM : Hid (fmay x = ((flt 0 x || feq x 0) && (flt x 4607182418800017408 || feq x 4607182418800017408))) := Lib.hid rfl
  generalize (flt 0 x || feq x 0) = g1 at *
  generalize (flt x 4607182418800017408 || feq x 4607182418800017408) = g2 at *
  cases g1 <;> cases g2
  all_goals
    go_enter Try.func11, Try.ntmps11
    go_wp2
    go_ret
    exact ⟨by rw [HM.out]; rfl, Below.refl _ _⟩
end Go.Proofs.Ytfnhhkbjbjlckaa
