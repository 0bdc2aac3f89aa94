/- Layer 7: what the statements want of package score, said of each function; the reference's rank, Order, Share; lives. -/
import Derived.Test.YtfnhhkbjbjlckaaFloT
import Derived.Test.YtfnhhkbjbjlckaaReg
import Derived.Test.YtfnhhkbjbjlckaaLib2
namespace Go.Proofs.Ytfnhhkbjbjlckaa
set_option linter.unusedVariables false
open Go.RowKit Go.Lib

/-- what a share must be -/
def shareP (live all : Int) (r : Nat) : Prop :=
  if all = 0 then (if live = 0 then fnan r else r = Ieee.double.word (decide (live < 0)) 9218868437227405312) else (match Ieee.double.div (fi live) (fi all) with | some q => r = q | none => fnan r)
def fmay (x : Nat) : Bool := (flt 0 x || feq x 0) && (flt x 4607182418800017408 || feq x 4607182418800017408)
def InI64 (n : Int) : Prop := -9223372036854775808 ≤ n ∧ n < 9223372036854775808
def ShareOk : Prop := ∀ (live all : Int) (w : World), InI64 live → InI64 all → Calls Try.prog 7 #[.int .i64 live, .int .i64 all] w fun e w' => ∃ r, e = .returned (.float .f64 r) ∧ shareP live all r ∧ Below w.heap.size w w'
def BelowOk : Prop := ∀ (x y : Nat) (w : World), Calls Try.prog 10 #[.float .f64 x, .float .f64 y] w fun e w' => e = .returned (.bool (flt x y)) ∧ Below w.heap.size w w'
def MayOk : Prop := ∀ (x : Nat) (w : World), Calls Try.prog 11 #[.float .f64 x] w fun e w' => e = .returned (.bool (fmay x)) ∧ Below w.heap.size w w'

/-- an invalid quotient: some NaN -/
theorem run_quo_nan {P : Program} (t : TypeId) (x y : Nat) (h : Ieee.double.div x y = none) (w : World) : ∃ r, (binOp .quo t (.float .f64 x) (.float .f64 y)).run P w = .ok (.float .f64 r) w.drew ∧ fnan r := by
  refine ⟨Question.cut (.nanBits .f64 x y) (w.tape w.drawn (.nanBits .f64 x y)), ?_, ?_⟩
  · have h' : FloatKind.f64.format.div x y = none := h
    simp [binOp, Op.floatArith, h', Question.forced]
  · generalize w.tape w.drawn (.nanBits .f64 x y) = t
    show 9218868437227405312 < ((t % 2) * 9223372036854775808 + 9218868437227405312 + 1 + (t / 2) % 4503599627370495) % 9223372036854775808
    have h1 : (t / 2) % 4503599627370495 < 4503599627370495 := Nat.mod_lt _ (by decide)
    generalize (t / 2) % 4503599627370495 = z at h1
    have h2 : t % 2 = 0 ∨ t % 2 = 1 := by omega
    rcases h2 with h2 | h2 <;> rw [h2] <;> omega
theorem run_quo_some {P : Program} (t : TypeId) (x y r : Nat) (h : Ieee.double.div x y = some r) (w : World) : (binOp .quo t (.float .f64 x) (.float .f64 y)).run P w = .ok (.float .f64 r) w :=
  run_float_arith w .quo t .f64 x y r h
theorem run_mul_some {P : Program} (t : TypeId) (x y r : Nat) (h : Ieee.double.mul x y = some r) (w : World) : (binOp .mul t (.float .f64 x) (.float .f64 y)).run P w = .ok (.float .f64 r) w :=
  run_float_arith w .mul t .f64 x y r h

theorem feq_zero (x : Nat) : feq x 0 = decide (frg x = 0) := by
  unfold feq fsk
  rw [decide_eq_decide]
  have h0 : frg 0 = 0 := by decide
  have h1 : fsg 0 = false := by decide
  have h2 : ¬ fnan 0 := by decide
  rw [h0, h1]
  constructor
  · rintro ⟨_, _, h⟩
    cases hs : fsg x <;> rw [hs] at h <;> simp only [if_true, if_false, Bool.false_eq_true] at h <;> omega
  · intro h
    refine ⟨by unfold fnan; omega, h2, ?_⟩
    cases fsg x <;> simp [h]
theorem flt_zero {x : Nat} (hn : ¬ fnan x) (h : 0 < frg x) : flt x 0 = fsg x := by
  have h0 : frg 0 = 0 := by decide
  have h1 : fsg 0 = false := by decide
  have h2 : ¬ fnan 0 := by decide
  unfold flt fsk
  rw [h0, h1]
  cases hs : fsg x <;> simp [hn, h2] <;> omega

set_option maxRecDepth 100000 in
theorem rrank_any (x : Nat) (w : World) : Calls Try.prog 16 #[.float .f64 x] w fun e w' => e = .returned (.int .i64 (frank x)) ∧ w = w' := by
  have b1 : (FloatKind.f64.format.order x x != some .eq) = decide (fnan x) := by rw [fne_is, fnan_self, Bool.not_not]
  by_cases hn : fnan x
  · have HF : Hid (frank x = 6) := Lib.hid (by unfold frank; rw [if_pos hn])
    rw [decide_eq_true hn] at b1
    clear hn
    go_enter Try.func16, Try.ntmps16
    go_wp2
    go_ret
    exact ⟨by rw [HF.out]; rfl, rfl⟩
  · rw [decide_eq_false hn] at b1
    have b2 : (FloatKind.f64.format.order x 0 == some .eq) = decide (frg x = 0) := by rw [feq_is, feq_zero]
    by_cases h0 : frg x = 0
    · rw [decide_eq_true h0] at b2
      have hq := run_quo_some (P := Try.prog) 22 _ _ _ (fdiv_1_zero h0)
      obtain ⟨v, hv⟩ : ∃ v, Ieee.double.word (fsg x) 9218868437227405312 = v := ⟨_, rfl⟩
      have b3 : (FloatKind.f64.format.order v 0 == some .lt) = fsg x := by rw [flt_is, ← hv, flt_inf0]
      rw [hv] at hq
      have HF : Hid (frank x = if fsg x then 2 else 3) := Lib.hid (by unfold frank; rw [if_neg hn, if_pos h0])
      clear hv hn h0
      cases hs : fsg x
      · rw [hs] at b3 HF
        clear hs
        go_enter Try.func16, Try.ntmps16
        go_wp2
        go_ret
        exact ⟨by rw [HF.out]; rfl, rfl⟩
      · rw [hs] at b3 HF
        clear hs
        go_enter Try.func16, Try.ntmps16
        go_wp2
        go_ret
        exact ⟨by rw [HF.out]; rfl, rfl⟩
    · rw [decide_eq_false h0] at b2
      obtain ⟨v, hm, hi1, hi2⟩ := fmul2 hn
      have hq := run_mul_some (P := Try.prog) 22 _ _ _ hm
      have b4 : (FloatKind.f64.format.order x 0 == some .lt) = fsg x := by rw [flt_is, flt_zero hn (by omega)]
      by_cases hinf : frg x = 9218868437227405312
      · have b3 : (FloatKind.f64.format.order x v == some .eq) = true := by rw [feq_is]; exact hi1 hinf
        have HF : Hid (frank x = if fsg x then 0 else 5) := Lib.hid (by unfold frank; rw [if_neg hn, if_neg h0, if_pos hinf])
        clear hm hi1 hi2 hn h0 hinf
        cases hs : fsg x
        · rw [hs] at b4 HF
          clear hs
          go_enter Try.func16, Try.ntmps16
          go_wp2
          go_ret
          exact ⟨by rw [HF.out]; rfl, rfl⟩
        · rw [hs] at b4 HF
          clear hs
          go_enter Try.func16, Try.ntmps16
          go_wp2
          go_ret
          exact ⟨by rw [HF.out]; rfl, rfl⟩
      · have b3 : (FloatKind.f64.format.order x v == some .eq) = false := by rw [feq_is]; exact hi2 (by omega) (by unfold fnan at hn; omega)
        have HF : Hid (frank x = if fsg x then 1 else 4) := Lib.hid (by unfold frank; rw [if_neg hn, if_neg h0, if_neg hinf])
        clear hm hi1 hi2 hn h0 hinf
        cases hs : fsg x
        · rw [hs] at b4 HF
          clear hs
          go_enter Try.func16, Try.ntmps16
          go_wp2
          go_ret
          exact ⟨by rw [HF.out]; rfl, rfl⟩
        · rw [hs] at b4 HF
          clear hs
          go_enter Try.func16, Try.ntmps16
          go_wp2
          go_ret
          exact ⟨by rw [HF.out]; rfl, rfl⟩

theorem frank_rng (x : Nat) : 0 ≤ frank x ∧ frank x ≤ 6 := by unfold frank; (repeat' split) <;> omega
set_option maxRecDepth 100000 in
theorem rorder_any (a b : Nat) (w : World) : Calls Try.prog 9 #[.float .f64 a, .float .f64 b] w fun e w' => e = .returned (.int .i64 (fordP a b)) ∧ w = w' := by
  have HA := Lib.hid fun W => rrank_any a W
  have HB := Lib.hid fun W => rrank_any b W
  have c1 : (FloatKind.f64.format.order a b == some .lt) = flt a b := flt_is a b
  have c2 : (FloatKind.f64.format.order a b == some .gt) = flt b a := fgt_is a b
  have HF := Lib.hid (fordP_ref a b)
  generalize frank a = x at *
  generalize frank b = y at *
  generalize flt a b = p at *
  generalize flt b a = q at *
  rcases Int.lt_trichotomy x y with h | h | h
  · have d1 : decide (x < y) = true := decide_eq_true h
    rw [d1] at HF
    go_enter Try.func9, Try.ntmps9
    go_wp2_with fail
    refine (HA.out _).mono ?_
    rintro e w1 ⟨rfl, rfl⟩
    go_wp2_with fail
    refine (HB.out _).mono ?_
    rintro e w1 ⟨rfl, rfl⟩
    go_wp2
    go_ret
    exact ⟨by rw [HF.out]; simp, rfl⟩
  · subst h
    cases p
    · cases q
      · go_enter Try.func9, Try.ntmps9
        go_wp2_with fail
        refine (HA.out _).mono ?_
        rintro e w1 ⟨rfl, rfl⟩
        go_wp2_with fail
        refine (HB.out _).mono ?_
        rintro e w1 ⟨rfl, rfl⟩
        go_wp2
        go_ret
        exact ⟨by rw [HF.out]; simp, rfl⟩
      · go_enter Try.func9, Try.ntmps9
        go_wp2_with fail
        refine (HA.out _).mono ?_
        rintro e w1 ⟨rfl, rfl⟩
        go_wp2_with fail
        refine (HB.out _).mono ?_
        rintro e w1 ⟨rfl, rfl⟩
        go_wp2
        go_ret
        exact ⟨by rw [HF.out]; simp, rfl⟩
    · go_enter Try.func9, Try.ntmps9
      go_wp2_with fail
      refine (HA.out _).mono ?_
      rintro e w1 ⟨rfl, rfl⟩
      go_wp2_with fail
      refine (HB.out _).mono ?_
      rintro e w1 ⟨rfl, rfl⟩
      go_wp2
      go_ret
      exact ⟨by rw [HF.out]; simp, rfl⟩
  · have hn : ¬ x < y := by omega
    have hne : ¬ x = y := by omega
    go_enter Try.func9, Try.ntmps9
    go_wp2_with fail
    refine (HA.out _).mono ?_
    rintro e w1 ⟨rfl, rfl⟩
    go_wp2_with fail
    refine (HB.out _).mono ?_
    rintro e w1 ⟨rfl, rfl⟩
    go_wp2
    go_ret
    exact ⟨by rw [HF.out]; simp [hn, hne, h], rfl⟩
end Go.Proofs.Ytfnhhkbjbjlckaa
