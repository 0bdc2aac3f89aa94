/- Layer 7: the reference's Share and Least, lives; rows of floats. -/
import Derived.Test.YtfnhhkbjbjlckaaFloC
import Derived.Deep.Cut
namespace Go.Proofs.Ytfnhhkbjbjlckaa
set_option linter.unusedVariables false
open Go.RowKit Go.Lib

set_option maxRecDepth 100000 in
theorem rshare_any (live all : Int) (w : World) (hl : InI64 live) (ha : InI64 all) : Calls Try.prog 8 #[.int .i64 live, .int .i64 all] w fun e w' => ∃ r, e = .returned (.float .f64 r) ∧ shareP live all r ∧ Below w.heap.size w w' := by
  by_cases h0 : all = 0
  · subst h0
    have hne : ((0 : Int) != 0) = false := rfl
    by_cases l0 : live = 0
    · subst l0
      obtain ⟨r, hq, hr⟩ := run_quo_nan (P := Try.prog) 22 _ _ fdiv_none w
      have HP : Hid (shareP 0 0 r) := Lib.hid (by unfold shareP; simpa using hr)
      clear hr
      go_enter Try.func8, Try.ntmps8
      go_wp2
      go_ret
      exact ⟨r, rfl, HP.out, (Below.refl _ _).drew⟩
    · by_cases hlt : live < 0
      · have hq := run_quo_some (P := Try.prog) 22 _ _ _ fdiv_m1
        have HP : Hid (shareP live 0 18442240474082181120) := Lib.hid (by unfold shareP; rw [if_pos rfl, if_neg l0, decide_eq_true hlt]; decide)
        go_enter Try.func8, Try.ntmps8
        go_wp2
        go_ret
        exact ⟨_, rfl, HP.out, Below.refl _ _⟩
      · have hq := run_quo_some (P := Try.prog) 22 _ _ _ fdiv_p1
        have HP : Hid (shareP live 0 9218868437227405312) := Lib.hid (by unfold shareP; rw [if_pos rfl, if_neg l0, decide_eq_false hlt]; decide)
        go_enter Try.func8, Try.ntmps8
        go_wp2
        go_ret
        exact ⟨_, rfl, HP.out, Below.refl _ _⟩
  · cases hd : Ieee.double.div (fi live) (fi all) with
    | none =>
      obtain ⟨r, hq, hr⟩ := run_quo_nan (P := Try.prog) 22 (floatOfInt .f64 live) (floatOfInt .f64 all) hd w
      have HP : Hid (shareP live all r) := Lib.hid (by unfold shareP; rw [if_neg h0, hd]; exact hr)
      clear hr hd
      go_enter Try.func8, Try.ntmps8
      go_wp2
      go_ret
      exact ⟨r, rfl, HP.out, (Below.refl _ _).drew⟩
    | some r =>
      have hq := run_quo_some (P := Try.prog) 22 (floatOfInt .f64 live) (floatOfInt .f64 all) r hd
      have HP : Hid (shareP live all r) := Lib.hid (by unfold shareP; rw [if_neg h0, hd])
      clear hd
      go_enter Try.func8, Try.ntmps8
      go_wp2
      go_ret
      exact ⟨r, rfl, HP.out, Below.refl _ _⟩

theorem div_1_4 : Ieee.double.div (fi 1) (fi 4) = some 4598175219545276416 := by decide +kernel
theorem flt_nan {x : Nat} (h : fnan x) (y : Nat) : flt x y = false ∧ flt y x = false ∧ feq x y = false ∧ feq y x = false := by
  unfold flt feq
  simp [h]
theorem fmay_nan {x : Nat} (h : fnan x) : fmay x = false := by
  unfold fmay
  rw [(flt_nan h 0).2.1, (flt_nan h 0).2.2.1]; rfl

set_option maxRecDepth 100000 in
theorem slives_any (hShare : ShareOk) (hBelow : BelowOk) (hMay : MayOk) (w : World) : Calls Try.prog 12 #[] w fun e w' => e = .returned (.bool true) ∧ Below w.heap.size w w' := by
  have HS := Lib.hid hShare
  have HBE := Lib.hid hBelow
  have HM := Lib.hid hMay
  have c1 : (FloatKind.f64.format.order 4598175219545276416 4598175219545276416 == some .eq) = true := by rw [feq_is]; decide
  have c2 : flt 4598175219545276416 4602678819172646912 = true := by decide
  have c3 : fmay 4598175219545276416 = true := by decide
  clear hShare hBelow hMay
  go_enter Try.func12, Try.ntmps12
  go_wp2_with fail
  refine (HS.out 1 4 _ (by unfold InI64; omega) (by unfold InI64; omega)).mono ?_
  rintro e w1 ⟨x, rfl, hx, hb1⟩
  obtain rfl : x = 4598175219545276416 := by
    unfold shareP at hx
    rw [if_neg (by omega), div_1_4] at hx
    exact hx
  have HB1 := Lib.hid hb1
  clear hx hb1
  go_wp2_with fail
  refine (HS.out 0 0 _ (by unfold InI64; omega) (by unfold InI64; omega)).mono ?_
  rintro e w2 ⟨y, rfl, hy, hb2⟩
  have hn : fnan y := by
    unfold shareP at hy
    simpa using hy
  have HB2 := Lib.hid (below_step HB1.out hb2)
  have d1 := (flt_nan hn 4602678819172646912).1
  have d2 := fmay_nan hn
  clear hy hn hb2 HB1
  go_wp2_with fail
  refine (HBE.out 4598175219545276416 _ _).mono ?_
  rintro e w3 ⟨rfl, hb3⟩
  have HB3 := Lib.hid (below_step HB2.out hb3)
  clear hb3 HB2
  rw [c2]
  go_wp2_with fail
  refine (HBE.out y _ _).mono ?_
  rintro e w4 ⟨rfl, hb4⟩
  have HB4 := Lib.hid (below_step HB3.out hb4)
  clear hb4 HB3
  rw [d1]
  go_wp2_with fail
  refine (HM.out 4598175219545276416 _).mono ?_
  rintro e w5 ⟨rfl, hb5⟩
  have HB5 := Lib.hid (below_step HB4.out hb5)
  clear hb5 HB4
  rw [c3]
  go_wp2_with fail
  refine (HM.out y _).mono ?_
  rintro e w6 ⟨rfl, hb6⟩
  have HB6 := Lib.hid (below_step HB5.out hb6)
  clear hb6 HB5
  rw [d2]
  go_wp2
  go_ret
  exact ⟨rfl, HB6.out⟩

/-- Floats that a slice reads as. -/
def Fs (w : World) (p : Option Addr) (n : Nat) (L : List Nat) : Prop :=
  L.length = n ∧ (n = 0 ∨ ∃ b off, p = some ⟨b, off, none⟩ ∧ ∀ j, j < n → w.cell? ⟨b, off + j, none⟩ = some (.float .f64 (L.getD j 0)))
theorem Fs.later {w w' : World} {p : Option Addr} {n : Nat} {L : List Nat} (h : Fs w p n L) (hb : Below w.heap.size w w') : Fs w' p n L := by
  obtain ⟨h1, h3⟩ := h
  refine ⟨h1, ?_⟩
  rcases h3 with h3 | ⟨b, off, hp, hc⟩
  · exact Or.inl h3
  · refine Or.inr ⟨b, off, hp, fun j hj => ?_⟩
    rw [hb.cell (World.block_lt_of_cell? w _ (hc j hj))]
    exact hc j hj

/-- the least of the first k -/
def fleastK (L : List Nat) : Nat → Int
  | 0 => -1
  | k + 1 => if fleastK L k < 0 then (k : Int) else if fordP (L.getD k 0) (L.getD (fleastK L k).toNat 0) < 0 then (k : Int) else fleastK L k
theorem fordP_neg (a b : Nat) : fordP a b < 0 ↔ fky a < fky b := by unfold fordP; (repeat' split) <;> omega
theorem fleastK_zero (L : List Nat) : fleastK L 0 = -1 := rfl
theorem fleastK_inv (L : List Nat) : ∀ k, 0 < k → ∃ i : Nat, fleastK L k = (i : Int) ∧ i < k ∧ (∀ j, j < k → fky (L.getD i 0) ≤ fky (L.getD j 0)) ∧ (∀ j, j < i → fky (L.getD i 0) < fky (L.getD j 0))
  | 0, h => by omega
  | 1, _ => ⟨0, by simp [fleastK], by omega, fun j hj => by rw [show j = 0 by omega]; omega, fun j hj => by omega⟩
  | k + 2, _ => by
    obtain ⟨i, e, hi, h1, h2⟩ := fleastK_inv L (k + 1) (by omega)
    rw [fleastK, e, if_neg (by omega), Int.toNat_natCast]
    by_cases h : fordP (L.getD (k + 1) 0) (L.getD i 0) < 0
    · rw [if_pos h]
      have h' := (fordP_neg _ _).1 h
      refine ⟨k + 1, rfl, by omega, fun j hj => ?_, fun j hj => ?_⟩
      · by_cases ej : j = k + 1
        · rw [ej]; omega
        · have := h1 j (by omega); omega
      · have := h1 j hj; omega
    · rw [if_neg h]
      have h' : ¬ fky (L.getD (k + 1) 0) < fky (L.getD i 0) := fun hh => h ((fordP_neg _ _).2 hh)
      refine ⟨i, rfl, by omega, fun j hj => ?_, h2⟩
      by_cases ej : j = k + 1
      · rw [ej]; omega
      · exact h1 j (by omega)
/-- which one it is -/
theorem fleast_char {L : List Nat} {n i : Nat} (hi : i < n) (h1 : ∀ j, j < n → ¬ fordP (L.getD j 0) (L.getD i 0) < 0) (h2 : ∀ j, j < i → ∃ m, m < n ∧ fordP (L.getD m 0) (L.getD j 0) < 0) : fleastK L n = (i : Int) := by
  obtain ⟨r, e, hr, g1, g2⟩ := fleastK_inv L n (by omega)
  rw [e]
  rcases Nat.lt_trichotomy r i with h | h | h
  · obtain ⟨m, hm, hlt⟩ := h2 r h
    have := (fordP_neg _ _).1 hlt
    have := g1 m hm
    omega
  · rw [h]
  · have a := g2 i h
    have := h1 r hr
    rw [fordP_neg] at this
    omega
def LeastOk : Prop := ∀ (p : Option Addr) (n cap : Nat) (L : List Nat) (w : World), Fs w p n L → (∀ j, L.getD j 0 < 18446744073709551616) → (p = none → cap = 0) → n ≤ cap → cap ≤ maxLen → Calls Try.prog 14 #[.slice p n cap] w fun e w' => e = .returned (.int .i64 (fleastK L n)) ∧ Below w.heap.size w w'

theorem rorder_q (a b : Nat) (w : World) : Calls Try.prog 9 #[.float .f64 a, .float .f64 b] w fun e w' => e = .returned (.int .i64 (fordP a b)) ∧ w' = w := (rorder_any a b w).mono fun _ _ ⟨h1, h2⟩ => ⟨h1, h2.symm⟩
set_option maxRecDepth 100000 in
theorem rleast_any (p : Option Addr) (n cap : Nat) (L : List Nat) (w : World) (h : Fs w p n L) (hn : n ≤ 9223372036854775807) : Calls Try.prog 15 #[.slice p n cap] w fun e w' => e = .returned (.int .i64 (fleastK L n)) ∧ Below w.heap.size w w' := by
  have H := Lib.hid h
  have HB0 := Lib.hid (Below.refl w.heap.size w)
  clear h
  go_enter Try.func15, Try.ntmps15
  go_wp2
  go_loopw [3, 4] (fun v i wr => ∃ (k : Nat) (m : Int), k ≤ n ∧ v = .int .i64 m ∧ i = .int .i64 (k : Int) ∧ Hid (fleastK L k = m) ∧ Hid (Below w.heap.size w wr)) (fun _ i _ => n - (intOf i).toNat)
  case atStart => exact ⟨0, -1, by omega, rfl, rfl, Lib.hid rfl, HB0⟩
  case round =>
    clear HB0
    obtain ⟨k, m, hk, rfl, rfl, HM, HB⟩ := hrel
    by_cases hlt : k < n
    · rcases Nat.eq_zero_or_pos k with h0 | h0
      · subst h0
        obtain rfl : m = -1 := by rw [← HM.out]; rfl
        have HM2 : Hid (fleastK L (0 + 1) = 0) := Lib.hid (by simp [fleastK])
        go_wp2
        go_quiet (fail)
        have HB2 : Hid (Below w.heap.size w (wr.drewN nq)) := Lib.hid (below_drewN HB.out _)
        clear HB HM
        generalize wr.drewN nq = wq at *
        go_wp2
        refine ⟨?_, by simp [intOf]; omega⟩
        first
          | exact ⟨1, 0, by omega, rfl, rfl, HM2, HB2⟩
          | ((repeat apply Exists.intro); refine ⟨?_, rfl⟩; exact ⟨1, 0, by omega, rfl, rfl, HM2, HB2⟩)
      · obtain ⟨i, e, hi, _, _⟩ := fleastK_inv L k h0
        obtain rfl : m = (i : Int) := by rw [← HM.out, e]
        have hfs := H.out.later HB.out
        have hpp : ∃ b off, p = some ⟨b, off, none⟩ ∧ ∀ j, j < n → wr.cell? ⟨b, off + j, none⟩ = some (.float .f64 (L.getD j 0)) := by
          rcases hfs.2 with h0 | h0
          · omega
          · exact h0
        obtain ⟨b, off, rfl, hcl⟩ := hpp
        have cA := hcl k hlt
        have cB := hcl i (by omega)
        have hin : i < n := by omega
        have HNX : Hid (fleastK L (k + 1) = if fordP (L.getD k 0) (L.getD i 0) < 0 then (k : Int) else (i : Int)) := Lib.hid (by rw [fleastK, e, if_neg (by omega), Int.toNat_natCast])
        have hneg : ¬ ((i : Int) < 0) := by omega
        have hdneg : decide ((i : Int) < 0) = false := decide_eq_false hneg
        have hc := fun W => rorder_q (L.getD k 0) (L.getD i 0) W
        generalize fordP (L.getD k 0) (L.getD i 0) = c at HNX hc
        generalize L.getD k 0 = x at *
        generalize L.getD i 0 = y at *
        have HC := Lib.hid hc
        clear hfs hcl e hc
        go_wp2
        go_quiet ((go_at_call 9; exact Calls.quiet_of_same (HC.out _)))
        have HB2 : Hid (Below w.heap.size w (wr.drewN nq)) := Lib.hid (below_drewN HB.out _)
        clear HB HM cA cB HC
        generalize wr.drewN nq = wq at *
        by_cases hcn : c < 0
        · have HN2 : Hid (fleastK L (k + 1) = (k : Int)) := Lib.hid (by rw [HNX.out, if_pos hcn])
          clear HNX
          go_wp2
          refine ⟨?_, by simp [intOf]; omega⟩
          first
            | exact ⟨k + 1, (k : Int), by omega, rfl, by go_num, HN2, HB2⟩
            | ((repeat apply Exists.intro); refine ⟨?_, rfl⟩; exact ⟨k + 1, (k : Int), by omega, rfl, by go_num, HN2, HB2⟩)
        · have HN2 : Hid (fleastK L (k + 1) = (i : Int)) := Lib.hid (by rw [HNX.out, if_neg hcn])
          clear HNX
          go_wp2
          refine ⟨?_, by simp [intOf]; omega⟩
          first
            | exact ⟨k + 1, (i : Int), by omega, rfl, by go_num, HN2, HB2⟩
            | ((repeat apply Exists.intro); refine ⟨?_, rfl⟩; exact ⟨k + 1, (i : Int), by omega, rfl, by go_num, HN2, HB2⟩)
    · obtain rfl : k = n := by omega
      go_wp2
      go_ret
      exact ⟨by rw [HM.out]; rfl, HB.out⟩
end Go.Proofs.Ytfnhhkbjbjlckaa
