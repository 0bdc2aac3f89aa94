/- Layer 7: Order by comparisons and Signbit. -/
import Derived.Test.YtfnhhkbjbjlckaaFloSg
namespace Go.Proofs.Ytfnhhkbjbjlckaa
set_option linter.unusedVariables false
open Go.RowKit Go.Lib

theorem ford_less {a b : Nat} (h : flt a b = true) : fordP a b = -1 := by
  have h1 := fordP_lt h
  have h2 := fordP_rng a b
  omega
theorem ford_more {a b : Nat} (h : flt b a = true) : fordP a b = 1 := by
  rw [fordP_anti, ford_less h]; rfl
theorem ford_nan1 {a b : Nat} (ha : fnan a) (hb : ¬ fnan b) : fordP a b = 1 := by
  have h1 := frg_lt b
  unfold fordP fky
  rw [if_pos ha, if_neg hb]
  cases fsg b <;> simp only [if_true, if_false, Bool.false_eq_true] <;> (repeat' split) <;> omega
theorem ford_nan2 {a b : Nat} (ha : ¬ fnan a) (hb : fnan b) : fordP a b = -1 := by
  rw [fordP_anti, ford_nan1 hb ha]
theorem ford_same {a b : Nat} (ha : ¬ fnan a) (hb : ¬ fnan b) (h1 : flt a b = false) (h2 : flt b a = false) : fordP a b = if fsg a = fsg b then 0 else if fsg a then -1 else 1 := by
  have e1 : ¬ (fsk a < fsk b) := fun h => by
    have := (flt_iff a b).2 ⟨ha, hb, h⟩
    rw [this] at h1; cases h1
  have e2 : ¬ (fsk b < fsk a) := fun h => by
    have := (flt_iff b a).2 ⟨hb, ha, h⟩
    rw [this] at h2; cases h2
  revert e1 e2
  unfold fordP fky fsk
  rw [if_neg ha, if_neg hb]
  cases fsg a <;> cases fsg b <;> simp only [if_true, if_false, Bool.false_eq_true, Bool.true_eq_false] <;> intro e1 e2 <;> (repeat' split) <;> omega

theorem isnan_any (x : Nat) (w : World) : Calls Try.prog 18 #[.float .f64 x] w fun e w' => e = .returned (.bool (decide (fnan x))) ∧ w = w' := by
  have b1 : (FloatKind.f64.format.order x x != some .eq) = decide (fnan x) := by rw [fne_is, fnan_self, Bool.not_not]
  generalize decide (fnan x) = s at *
  go_enter Try.func18, Try.ntmps18
  go_wp2
  go_ret
  exact ⟨by rw [← b1]; rfl, rfl⟩

/-- a comes before b -/
def fbef (a b : Nat) : Bool := decide (fordP a b < 0)
theorem fbef_nan1 {a b : Nat} (ha : fnan a) : fbef a b = false := by
  unfold fbef
  by_cases hb : fnan b
  · rw [fordP_nans ha hb]; rfl
  · rw [ford_nan1 ha hb]; rfl
theorem fbef_nan2 {a b : Nat} (ha : ¬ fnan a) (hb : fnan b) : fbef a b = true := by
  unfold fbef; rw [ford_nan2 ha hb]; rfl
theorem feq_iff0 (a b : Nat) : feq a b = true ↔ ¬ fnan a ∧ ¬ fnan b ∧ fsk a = fsk b := by unfold feq; simp
theorem fbef_eq {a b : Nat} (ha : ¬ fnan a) (hb : ¬ fnan b) (h : feq a b = true) : fbef a b = (fsg a && !fsg b) := by
  have e := ((feq_iff0 a b).1 h).2.2
  have h1 : flt a b = false := by
    cases hh : flt a b
    · rfl
    · have := ((flt_iff a b).1 hh).2.2; omega
  have h2 : flt b a = false := by
    cases hh : flt b a
    · rfl
    · have := ((flt_iff b a).1 hh).2.2; omega
  unfold fbef
  rw [ford_same ha hb h1 h2]
  cases fsg a <;> cases fsg b <;> rfl
theorem fbef_ne {a b : Nat} (ha : ¬ fnan a) (hb : ¬ fnan b) (h : feq a b = false) : fbef a b = flt a b := by
  unfold fbef
  cases hh : flt a b
  · cases h2 : flt b a
    · exfalso
      have e1 : ¬ (fsk a < fsk b) := fun h => by have := (flt_iff a b).2 ⟨ha, hb, h⟩; rw [this] at hh; cases hh
      have e2 : ¬ (fsk b < fsk a) := fun h => by have := (flt_iff b a).2 ⟨hb, ha, h⟩; rw [this] at h2; cases h2
      have := (feq_iff0 a b).2 ⟨ha, hb, by omega⟩
      rw [this] at h; cases h
    · rw [ford_more h2]; rfl
  · rw [ford_less hh]; rfl

set_option maxRecDepth 100000 in
theorem before_any (a b : Nat) (ha : a < 18446744073709551616) (hb : b < 18446744073709551616) (w : World) : Calls Try.prog 17 #[.float .f64 a, .float .f64 b] w fun e w' => e = .returned (.bool (fbef a b)) ∧ w = w' := by
  have IA := Lib.hid fun W => isnan_any a W
  have IB := Lib.hid fun W => isnan_any b W
  have SA := Lib.hid fun W => signbit_any a ha W
  have SB := Lib.hid fun W => signbit_any b hb W
  have c1 : (FloatKind.f64.format.order a b == some .lt) = flt a b := flt_is a b
  have c2 : (FloatKind.f64.format.order a b == some .eq) = feq a b := feq_is a b
  clear ha hb
  by_cases na : fnan a
  · have HF := Lib.hid (fbef_nan1 (b := b) na)
    rw [decide_eq_true na] at IA
    clear c1 c2 na IB SA SB
    go_enter Try.func17, Try.ntmps17
    go_wp2_with fail
    refine (IA.out _).mono ?_
    rintro e w1 ⟨rfl, rfl⟩
    go_wp2
    go_ret
    exact ⟨by rw [HF.out]; rfl, rfl⟩
  rw [decide_eq_false na] at IA
  by_cases nb : fnan b
  · have HF := Lib.hid (fbef_nan2 na nb)
    rw [decide_eq_true nb] at IB
    clear c1 c2 na nb SA SB
    go_enter Try.func17, Try.ntmps17
    go_wp2_with fail
    refine (IA.out _).mono ?_
    rintro e w1 ⟨rfl, rfl⟩
    go_wp2_with fail
    refine (IB.out _).mono ?_
    rintro e w1 ⟨rfl, rfl⟩
    go_wp2
    go_ret
    exact ⟨by rw [HF.out]; rfl, rfl⟩
  rw [decide_eq_false nb] at IB
  by_cases he : feq a b = true
  · have HF := Lib.hid (fbef_eq na nb he)
    rw [he] at c2
    clear c1 na nb he
    generalize fsg a = s at *
    generalize fsg b = t at *
    cases s
    · go_enter Try.func17, Try.ntmps17
      go_wp2_with fail
      refine (IA.out _).mono ?_
      rintro e w1 ⟨rfl, rfl⟩
      go_wp2_with fail
      refine (IB.out _).mono ?_
      rintro e w1 ⟨rfl, rfl⟩
      go_wp2_with fail
      refine (SA.out _).mono ?_
      rintro e w1 ⟨rfl, rfl⟩
      go_wp2
      go_ret
      exact ⟨by rw [HF.out]; rfl, rfl⟩
    · go_enter Try.func17, Try.ntmps17
      go_wp2_with fail
      refine (IA.out _).mono ?_
      rintro e w1 ⟨rfl, rfl⟩
      go_wp2_with fail
      refine (IB.out _).mono ?_
      rintro e w1 ⟨rfl, rfl⟩
      go_wp2_with fail
      refine (SA.out _).mono ?_
      rintro e w1 ⟨rfl, rfl⟩
      go_wp2_with fail
      refine (SB.out _).mono ?_
      rintro e w1 ⟨rfl, rfl⟩
      go_wp2
      go_ret
      exact ⟨by rw [HF.out]; rfl, rfl⟩
  · have he' : feq a b = false := by simpa using he
    have HF := Lib.hid (fbef_ne na nb he')
    rw [he'] at c2
    clear na nb he he' SA SB
    generalize flt a b = p at *
    go_enter Try.func17, Try.ntmps17
    go_wp2_with fail
    refine (IA.out _).mono ?_
    rintro e w1 ⟨rfl, rfl⟩
    go_wp2_with fail
    refine (IB.out _).mono ?_
    rintro e w1 ⟨rfl, rfl⟩
    go_wp2
    go_ret
    exact ⟨by rw [HF.out, ← c1]; rfl, rfl⟩

set_option maxRecDepth 100000 in
theorem order_ok : OrderOk := by
  intro a b w ha hb
  have HAB := Lib.hid fun W => before_any a b ha hb W
  have HBA := Lib.hid fun W => before_any b a hb ha W
  have F1 : Hid (fbef a b = true → fordP a b = -1) := Lib.hid fun h => by
    have := of_decide_eq_true h
    have := fordP_rng a b
    omega
  have F2 : Hid (fbef b a = true → fordP a b = 1) := Lib.hid fun h => by
    have := of_decide_eq_true h
    have := fordP_rng b a
    have := fordP_anti a b
    omega
  have F3 : Hid (fbef a b = false → fbef b a = false → fordP a b = 0) := Lib.hid fun h h' => by
    have := of_decide_eq_false h
    have := of_decide_eq_false h'
    have := fordP_anti a b
    omega
  generalize fbef a b = p at *
  generalize fbef b a = q at *
  clear ha hb
  cases p
  · cases q
    · have HF := Lib.hid (F3.out rfl rfl)
      go_enter Try.func13, Try.ntmps13
      go_wp2_with fail
      refine (HAB.out _).mono ?_
      rintro e w1 ⟨rfl, rfl⟩
      go_wp2_with fail
      refine (HBA.out _).mono ?_
      rintro e w1 ⟨rfl, rfl⟩
      go_wp2
      go_ret
      exact ⟨by rw [HF.out]; rfl, Below.refl _ _⟩
    · have HF := Lib.hid (F2.out rfl)
      go_enter Try.func13, Try.ntmps13
      go_wp2_with fail
      refine (HAB.out _).mono ?_
      rintro e w1 ⟨rfl, rfl⟩
      go_wp2_with fail
      refine (HBA.out _).mono ?_
      rintro e w1 ⟨rfl, rfl⟩
      go_wp2
      go_ret
      exact ⟨by rw [HF.out]; rfl, Below.refl _ _⟩
  · have HF := Lib.hid (F1.out rfl)
    go_enter Try.func13, Try.ntmps13
    go_wp2_with fail
    refine (HAB.out _).mono ?_
    rintro e w1 ⟨rfl, rfl⟩
    go_wp2
    go_ret
    exact ⟨by rw [HF.out]; rfl, Below.refl _ _⟩
end Go.Proofs.Ytfnhhkbjbjlckaa
