/- Layer 7: the statement ScoreBetween, walked under what is said of package score. -/
import Derived.Test.YtfnhhkbjbjlckaaFloL
namespace Go.Proofs.Ytfnhhkbjbjlckaa
set_option linter.unusedVariables false
open Go.RowKit Go.Lib

theorem shareP_fsh {a b r : Nat} (hab : a ≤ b) (hb1 : 1 ≤ b) (hb : b ≤ 1073741824) (h : shareP (a : Int) (b : Int) r) : r = fsh a b := by
  unfold shareP at h
  rw [if_neg (by omega), fsh_some hab hb1 hb] at h
  exact h
theorem fsk_one : fsk 4607182418800017408 = 4607182418800017408 := by decide
theorem fnan_one : ¬ fnan 4607182418800017408 := by decide
theorem fsk_nought : fsk 0 = 0 := by decide
theorem fnan_nought : ¬ fnan 0 := by decide
/-- how shares stand to each other, in the walk's words -/
theorem fsh_cmp {a b c d : Nat} (hab : a ≤ b) (hb1 : 1 ≤ b) (hb : b ≤ 1073741824) (hcd : c ≤ d) (hd1 : 1 ≤ d) (hd : d ≤ 1073741824) (h : a * d ≤ c * b) :
    (FloatKind.f64.format.order (fsh a b) (fsh c d) == some .lt || FloatKind.f64.format.order (fsh a b) (fsh c d) == some .eq) = true := by
  rw [flt_is, feq_is]
  obtain ⟨n1, k1⟩ := fsh_word hab hb1 hb
  obtain ⟨n2, k2⟩ := fsh_word hcd hd1 hd
  have hm := fsh_mono hab hb1 hb hcd hd1 hd h
  unfold flt feq
  rw [k1, k2]
  simp only [n1, n2, not_false_eq_true, true_and, Bool.or_eq_true, decide_eq_true_eq]
  omega
theorem fsh_nought {a b : Nat} (hab : a ≤ b) (hb1 : 1 ≤ b) (hb : b ≤ 1073741824) :
    (FloatKind.f64.format.order (fsh a b) 0 == some .gt || FloatKind.f64.format.order (fsh a b) 0 == some .eq) = true ∧ (FloatKind.f64.format.order (fsh a b) 0 == some .eq) = decide (a = 0) := by
  rw [fgt_is, feq_is]
  obtain ⟨n1, k1⟩ := fsh_word hab hb1 hb
  have hz := (fsh_le hab hb1 hb).2.2
  unfold flt feq
  rw [k1, fsk_nought]
  simp only [n1, fnan_nought, not_false_eq_true, true_and, Bool.or_eq_true, decide_eq_true_eq]
  refine ⟨by omega, ?_⟩
  rw [decide_eq_decide]; omega
theorem fsh_one {a b : Nat} (hab : a ≤ b) (hb1 : 1 ≤ b) (hb : b ≤ 1073741824) :
    (FloatKind.f64.format.order (fsh a b) 4607182418800017408 == some .lt || FloatKind.f64.format.order (fsh a b) 4607182418800017408 == some .eq) = true ∧ (FloatKind.f64.format.order (fsh a b) 4607182418800017408 == some .eq) = decide (a = b) := by
  rw [flt_is, feq_is]
  obtain ⟨n1, k1⟩ := fsh_word hab hb1 hb
  obtain ⟨hl, he, _⟩ := fsh_le hab hb1 hb
  unfold flt feq
  rw [k1, fsk_one]
  simp only [n1, fnan_one, not_false_eq_true, true_and, Bool.or_eq_true, decide_eq_true_eq]
  refine ⟨by omega, ?_⟩
  rw [decide_eq_decide]; omega

set_option maxRecDepth 100000 in
set_option maxHeartbeats 2000000 in
theorem scorebetween_walk (hShare : ShareOk) (hBelow : BelowOk) (hMay : MayOk) (live more all less : Int) (w : World) (h1 : InI64 live) (h2 : InI64 more) (h3 : InI64 all) (h4 : InI64 less) :
    Calls Try.prog 6 #[.agg #[.int .i64 live, .int .i64 more, .int .i64 all, .int .i64 less]] w fun e w' => e = .returned (.bool true) ∧ Below w.heap.size w w' := by
  have HS := Lib.hid hShare
  have HB0 : Hid (Below w.heap.size w (w.alloc (.cells #[.int .i64 live, .int .i64 more, .int .i64 all, .int .i64 less] 34))) := Lib.hid ((Below.refl _ _).alloc (Nat.le_refl _) _)
  have tail : ∀ (w0 : World), Below w.heap.size w w0 → Calls Try.prog 12 #[] w0 fun e w' => e = .returned (.bool true) ∧ Below w.heap.size w w' := fun w0 hb => (slives_any hShare hBelow hMay w0).mono fun _ _ ⟨h1, h2⟩ => ⟨h1, below_step hb h2⟩
  have HTL := Lib.hid tail
  have HI := Lib.hid (And.intro h1 (And.intro h2 (And.intro h3 h4)))
  clear tail hShare hBelow hMay h1 h2 h3 h4
  go_enter Try.func6, Try.ntmps6
  go_wp2
  go_quiet (fail)
  have HB1 : Hid (Below w.heap.size w ((w.alloc (.cells #[.int .i64 live, .int .i64 more, .int .i64 all, .int .i64 less] 34)).drewN nq)) := Lib.hid (below_drewN HB0.out _)
  generalize (w.alloc (.cells #[.int .i64 live, .int .i64 more, .int .i64 all, .int .i64 less] 34)).drewN nq = wq at *
  clear HB0
  have early : (live < 0 ∨ more < live ∨ all < more ∨ 1073741824 < all ∨ less < more ∨ all < less ∨ less < 1) ∨ (0 ≤ live ∧ live ≤ more ∧ more ≤ all ∧ all ≤ 1073741824 ∧ more ≤ less ∧ less ≤ all ∧ 1 ≤ less) := by omega
  rcases early with hbad | ⟨g1, g2, g3, g4, g5, g6, g7⟩
  · by_cases e1 : live < 0
    · go_wp2_with fail
      refine (HTL.out _ HB1.out).mono ?_
      rintro e w2 ⟨rfl, hb2⟩
      have HB2 := Lib.hid hb2
      clear hb2 hbad
      go_wp2
      go_ret
      exact ⟨rfl, HB2.out⟩
    by_cases e2 : more < live
    · go_wp2_with fail
      refine (HTL.out _ HB1.out).mono ?_
      rintro e w2 ⟨rfl, hb2⟩
      have HB2 := Lib.hid hb2
      clear hb2 hbad
      go_wp2
      go_ret
      exact ⟨rfl, HB2.out⟩
    by_cases e3 : all < more
    · go_wp2_with fail
      refine (HTL.out _ HB1.out).mono ?_
      rintro e w2 ⟨rfl, hb2⟩
      have HB2 := Lib.hid hb2
      clear hb2 hbad
      go_wp2
      go_ret
      exact ⟨rfl, HB2.out⟩
    by_cases e4 : 1073741824 < all
    · go_wp2_with fail
      refine (HTL.out _ HB1.out).mono ?_
      rintro e w2 ⟨rfl, hb2⟩
      have HB2 := Lib.hid hb2
      clear hb2 hbad
      go_wp2
      go_ret
      exact ⟨rfl, HB2.out⟩
    by_cases e5 : less < more
    · go_wp2_with fail
      refine (HTL.out _ HB1.out).mono ?_
      rintro e w2 ⟨rfl, hb2⟩
      have HB2 := Lib.hid hb2
      clear hb2 hbad
      go_wp2
      go_ret
      exact ⟨rfl, HB2.out⟩
    by_cases e6 : all < less
    · go_wp2_with fail
      refine (HTL.out _ HB1.out).mono ?_
      rintro e w2 ⟨rfl, hb2⟩
      have HB2 := Lib.hid hb2
      clear hb2 hbad
      go_wp2
      go_ret
      exact ⟨rfl, HB2.out⟩
    · have e7 : less < 1 := by omega
      go_wp2_with fail
      refine (HTL.out _ HB1.out).mono ?_
      rintro e w2 ⟨rfl, hb2⟩
      have HB2 := Lib.hid hb2
      clear hb2 hbad
      go_wp2
      go_ret
      exact ⟨rfl, HB2.out⟩
  · obtain ⟨l, rfl⟩ := Int.eq_ofNat_of_zero_le g1
    obtain ⟨m, rfl⟩ := Int.eq_ofNat_of_zero_le (show 0 ≤ more by omega)
    obtain ⟨a, rfl⟩ := Int.eq_ofNat_of_zero_le (show 0 ≤ all by omega)
    obtain ⟨s, rfl⟩ := Int.eq_ofNat_of_zero_le (show 0 ≤ less by omega)
    have HN : Hid (l ≤ m ∧ m ≤ a ∧ a ≤ 1073741824 ∧ m ≤ s ∧ s ≤ a ∧ 1 ≤ s ∧ 1 ≤ a) := Lib.hid (by omega)
    have n1 : ¬ ((l : Int) < 0) := by omega
    have n2 : ¬ ((m : Int) < (l : Int)) := by omega
    have n3 : ¬ ((a : Int) < (m : Int)) := by omega
    have n4 : ¬ (1073741824 < (a : Int)) := by omega
    have n5 : ¬ ((s : Int) < (m : Int)) := by omega
    have n6 : ¬ ((a : Int) < (s : Int)) := by omega
    have n7 : ¬ ((s : Int) < 1) := by omega
    obtain ⟨k1, k2, k3, k4, k5, k6, k7⟩ := HN.out
    have HC1 := Lib.hid (fsh_nought (a := l) (b := a) (by omega) k7 k3)
    have HC2 := Lib.hid (fsh_one (a := m) (b := s) k4 k6 (by omega))
    have HC3 := Lib.hid (fsh_cmp (a := l) (b := a) (c := m) (d := a) (by omega) k7 k3 k2 k7 k3 (Nat.mul_le_mul_right a k1))
    have HC4 := Lib.hid (fsh_cmp (a := m) (b := a) (c := m) (d := s) k2 k7 k3 k4 k6 (by omega) (Nat.mul_le_mul_left m k5))
    clear g1 g2 g3 g4 g5 g6 g7 k1 k2 k3 k4 k5 k6 k7
    go_wp2_with fail
    refine (HS.out (l : Int) (a : Int) _ HI.out.1 HI.out.2.2.1).mono ?_
    rintro e w2 ⟨x, rfl, hx, hb2⟩
    obtain rfl := shareP_fsh (by have := HN.out; omega) HN.out.2.2.2.2.2.2 HN.out.2.2.1 hx
    have HB2 := Lib.hid (below_step HB1.out hb2)
    clear hx hb2 HB1
    go_wp2_with fail
    refine (HS.out (m : Int) (a : Int) _ HI.out.2.1 HI.out.2.2.1).mono ?_
    rintro e w3 ⟨y, rfl, hy, hb3⟩
    obtain rfl := shareP_fsh HN.out.2.1 HN.out.2.2.2.2.2.2 HN.out.2.2.1 hy
    have HB3 := Lib.hid (below_step HB2.out hb3)
    clear hy hb3 HB2
    go_wp2_with fail
    refine (HS.out (m : Int) (s : Int) _ HI.out.2.1 HI.out.2.2.2).mono ?_
    rintro e w4 ⟨z, rfl, hz, hb4⟩
    obtain rfl := shareP_fsh HN.out.2.2.2.1 HN.out.2.2.2.2.2.1 (by have := HN.out; omega) hz
    have HB4 := Lib.hid (below_step HB3.out hb4)
    clear hz hb4 HB3
    obtain ⟨c1, c2⟩ := HC1.out
    obtain ⟨c3, c4⟩ := HC2.out
    have c5 := HC3.out
    have c6 := HC4.out
    generalize fsh l a = x at *
    generalize fsh m a = y at *
    generalize fsh m s = z at *
    clear HC1 HC2 HC3 HC4 n1 n2 n3 n4 n5 n6 n7
    by_cases hl : l = 0 <;> by_cases hms : m = s
    all_goals
      first
        | rw [decide_eq_true hl] at c2
        | rw [decide_eq_false hl] at c2
      first
        | rw [decide_eq_true hms] at c4
        | rw [decide_eq_false hms] at c4
      have hl' : ((l : Int) == 0) = decide (l = 0) := by rw [Bool.eq_iff_iff, beq_iff_eq, decide_eq_true_iff]; omega
      have hms' : ((m : Int) == (s : Int)) = decide (m = s) := by rw [Bool.eq_iff_iff, beq_iff_eq, decide_eq_true_iff]; omega
      first
        | rw [decide_eq_true hl] at hl'
        | rw [decide_eq_false hl] at hl'
      first
        | rw [decide_eq_true hms] at hms'
        | rw [decide_eq_false hms] at hms'
      clear hl hms
      first
        | (have c1' : (FloatKind.f64.format.order x 0 == some Ordering.gt) = true := by rwa [c2, Bool.or_false] at c1)
        | skip
      first
        | (have c3' : (FloatKind.f64.format.order z 4607182418800017408 == some Ordering.lt) = true := by rwa [c4, Bool.or_false] at c3)
        | skip
      clear c1 c3
      cases c5a : (FloatKind.f64.format.order x y == some Ordering.lt) <;> cases c6a : (FloatKind.f64.format.order y z == some Ordering.lt)
    all_goals
      rw [c5a] at c5
      rw [c6a] at c6
      first
        | rw [Bool.false_or] at c5
        | clear c5
      first
        | rw [Bool.false_or] at c6
        | clear c6
      go_wp2_with fail
      refine (HTL.out _ HB4.out).mono ?_
      rintro e w5 ⟨rfl, hb5⟩
      have HB5 := Lib.hid hb5
      clear hb5
      go_wp2
      go_ret
      exact ⟨rfl, HB5.out⟩
end Go.Proofs.Ytfnhhkbjbjlckaa
