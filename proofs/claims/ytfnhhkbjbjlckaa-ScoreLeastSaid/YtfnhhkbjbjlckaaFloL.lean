/- Layer 7: the four statements, walked under what is said of package score. -/
import Derived.Test.YtfnhhkbjbjlckaaFloD
namespace Go.Proofs.Ytfnhhkbjbjlckaa
set_option linter.unusedVariables false
open Go.RowKit Go.Lib

def OrderOk : Prop := ∀ (a b : Nat) (w : World), a < 18446744073709551616 → b < 18446744073709551616 → Calls Try.prog 13 #[.float .f64 a, .float .f64 b] w fun e w' => e = .returned (.int .i64 (fordP a b)) ∧ Below w.heap.size w w'

theorem share_same {l a : Int} {r s : Nat} (hr : shareP l a r) (hs : shareP l a s) : fordP r s = 0 ∧ ∀ z, flt r z = flt s z := by
  have key : r = s ∨ (fnan r ∧ fnan s) := by
    unfold shareP at hr hs
    by_cases h0 : a = 0
    · rw [if_pos h0] at hr hs
      by_cases h1 : l = 0
      · rw [if_pos h1] at hr hs; exact Or.inr ⟨hr, hs⟩
      · rw [if_neg h1] at hr hs; exact Or.inl (hr.trans hs.symm)
    · rw [if_neg h0] at hr hs
      cases hd : Ieee.double.div (fi l) (fi a) with
      | none => rw [hd] at hr hs; exact Or.inr ⟨hr, hs⟩
      | some q => rw [hd] at hr hs; exact Or.inl (hr.trans hs.symm)
  rcases key with rfl | ⟨h1, h2⟩
  · exact ⟨fordP_self _, fun _ => rfl⟩
  · exact ⟨fordP_nans h1 h2, fun z => by rw [(flt_nan h1 z).1, (flt_nan h2 z).1]⟩

set_option maxRecDepth 100000 in
theorem scoreshares_walk (hShare : ShareOk) (hBelow : BelowOk) (hMay : MayOk) (live all : Int) (lim : Nat) (w : World) (hl : InI64 live) (ha : InI64 all) :
    Calls Try.prog 3 #[.int .i64 live, .int .i64 all, .float .f64 lim] w fun e w' => e = .returned (.bool true) ∧ Below w.heap.size w w' := by
  have HS := Lib.hid hShare
  have HBE := Lib.hid hBelow
  have HM := Lib.hid hMay
  have HI := Lib.hid (And.intro hl ha)
  have HSS : Hid (∀ r s, shareP live all r → shareP live all s → fordP r s = 0 ∧ ∀ z, flt r z = flt s z) := Lib.hid fun r s h1 h2 => share_same h1 h2
  clear hShare hBelow hMay hl ha
  go_enter Try.func3, Try.ntmps3
  go_wp2_with fail
  refine (HS.out live all _ HI.out.1 HI.out.2).mono ?_
  rintro e w1 ⟨x, rfl, hx, hb1⟩
  have HX := Lib.hid hx
  have HB1 := Lib.hid hb1
  clear hx hb1
  go_wp2_with fail
  refine (rshare_any live all _ HI.out.1 HI.out.2).mono ?_
  rintro e w2 ⟨y, rfl, hy, hb2⟩
  have HB2 := Lib.hid (below_step HB1.out hb2)
  obtain ⟨h0, hlt⟩ := HSS.out _ _ HX.out hy
  have hlim := hlt lim
  clear hy hb2 HB1 hlt HX
  go_wp2_with fail
  refine (rorder_any x y _).mono ?_
  rintro e w3 ⟨rfl, rfl⟩
  rw [h0]
  have c1 : (FloatKind.f64.format.order y lim == some .lt) = flt y lim := flt_is y lim
  go_wp2_with fail
  refine (HBE.out x lim _).mono ?_
  rintro e w4 ⟨rfl, hb4⟩
  have HB4 := Lib.hid (below_step HB2.out hb4)
  clear hb4 HB2 h0
  rw [hlim]
  clear hlim
  generalize flt y lim = b at *
  have c2 : (FloatKind.f64.format.order lim 0 == some .gt || FloatKind.f64.format.order lim 0 == some .eq) = (flt 0 lim || feq lim 0) := by rw [fgt_is, feq_is]
  have c3 : (FloatKind.f64.format.order lim 4607182418800017408 == some .lt || FloatKind.f64.format.order lim 4607182418800017408 == some .eq) = (flt lim 4607182418800017408 || feq lim 4607182418800017408) := by rw [flt_is, feq_is]
  have hmay : fmay lim = ((flt 0 lim || feq lim 0) && (flt lim 4607182418800017408 || feq lim 4607182418800017408)) := rfl
  have HMA := Lib.hid (HM.out lim)
  rw [hmay] at HMA
  clear hmay
  generalize (flt 0 lim || feq lim 0) = g1 at *
  generalize (flt lim 4607182418800017408 || feq lim 4607182418800017408) = g2 at *
  cases b
  all_goals
    go_wp2_with fail
    refine (HMA.out _).mono ?_
    rintro e w5 ⟨rfl, hb5⟩
    have HB5 := Lib.hid (below_step HB4.out hb5)
    clear hb5 HB4
    cases g1 <;> cases g2
  all_goals
    go_wp2_with fail
    refine (slives_any HS.out HBE.out HM.out _).mono ?_
    rintro e w6 ⟨rfl, hb6⟩
    have HB6 := Lib.hid (below_step HB5.out hb6)
    clear hb6 HB5
    go_wp2
    go_ret
    exact ⟨rfl, HB6.out⟩

theorem fordP_rng (a b : Nat) : -1 ≤ fordP a b ∧ fordP a b ≤ 1 := by unfold fordP; (repeat' split) <;> omega
set_option maxRecDepth 100000 in
theorem scoreorder_walk (hShare : ShareOk) (hBelow : BelowOk) (hMay : MayOk) (hOrder : OrderOk) (a b c : Nat) (w : World) (ha : a < 18446744073709551616) (hb : b < 18446744073709551616) (hc : c < 18446744073709551616) :
    Calls Try.prog 4 #[.float .f64 a, .float .f64 b, .float .f64 c] w fun e w' => e = .returned (.bool true) ∧ Below w.heap.size w w' := by
  have HS := Lib.hid hShare
  have HBE := Lib.hid hBelow
  have HM := Lib.hid hMay
  have HO1 := Lib.hid fun W => hOrder a b W ha hb
  have HO2 := Lib.hid fun W => hOrder b a W hb ha
  have HO3 := Lib.hid fun W => hOrder b c W hb hc
  have HO4 := Lib.hid fun W => hOrder a c W ha hc
  have HR := Lib.hid fun W => rorder_any a b W
  have hr := fordP_rng a b
  have hr2 := fordP_rng b c
  have hr3 := fordP_rng a c
  have hw : IntKind.i64.wrap (-(fordP b a)) = fordP a b := by
    rw [← fordP_anti]
    simp [IntKind.wrap, IntKind.bits, IntKind.signed]; omega
  have HT := Lib.hid (@fordP_trans a b c)
  have c1 : (FloatKind.f64.format.order a b == some .lt) = flt a b := flt_is a b
  have HLT := Lib.hid (@fordP_lt a b)
  generalize fordP a b = o1 at *
  generalize fordP b a = o2 at *
  generalize fordP b c = o3 at *
  generalize fordP a c = o4 at *
  generalize flt a b = p at *
  clear hShare hBelow hMay hOrder ha hb hc
  have tail : ∀ (w0 : World), Below w.heap.size w w0 → Calls Try.prog 12 #[] w0 fun e w' => e = .returned (.bool true) ∧ Below w.heap.size w w' := fun w0 hb => (slives_any HS.out HBE.out HM.out w0).mono fun _ _ ⟨h1, h2⟩ => ⟨h1, below_step hb h2⟩
  have HTL := Lib.hid tail
  clear tail HS HBE HM
  by_cases h1 : 0 < o1
  · have hp : p = false := by
      cases p
      · rfl
      · have := HLT.out rfl; omega
    subst hp
    clear HLT HT HO3 HO4
    go_enter Try.func4, Try.ntmps4
    go_wp2_with fail
    refine (HO1.out _).mono ?_
    rintro e w1 ⟨rfl, hb1⟩
    have HB1 := Lib.hid hb1
    clear hb1
    go_wp2_with fail
    refine (HR.out _).mono ?_
    rintro e w2 ⟨rfl, rfl⟩
    go_wp2_with fail
    refine (HO2.out _).mono ?_
    rintro e w3 ⟨rfl, hb3⟩
    have HB3 := Lib.hid (below_step HB1.out hb3)
    clear hb3 HB1
    go_wp2_with fail
    refine (HTL.out _ HB3.out).mono ?_
    rintro e w4 ⟨rfl, hb4⟩
    have HB4 := Lib.hid hb4
    clear hb4
    go_wp2
    go_ret
    exact ⟨rfl, HB4.out⟩
  · have hd : (p && decide (0 ≤ o1)) = false := by
      cases p
      · rfl
      · have := HLT.out rfl; simp; omega
    by_cases h2 : 0 < o3
    · clear HLT HT HO4
      cases p
      all_goals
        go_enter Try.func4, Try.ntmps4
        go_wp2_with fail
        refine (HO1.out _).mono ?_
        rintro e w1 ⟨rfl, hb1⟩
        have HB1 := Lib.hid hb1
        clear hb1
        go_wp2_with fail
        refine (HR.out _).mono ?_
        rintro e w2 ⟨rfl, rfl⟩
        go_wp2_with fail
        refine (HO2.out _).mono ?_
        rintro e w3 ⟨rfl, hb3⟩
        have HB3 := Lib.hid (below_step HB1.out hb3)
        clear hb3 HB1
        go_wp2_with fail
        refine (HO3.out _).mono ?_
        rintro e w5 ⟨rfl, hb5⟩
        have HB5 := Lib.hid (below_step HB3.out hb5)
        clear hb5 HB3
        go_wp2_with fail
        refine (HTL.out _ HB5.out).mono ?_
        rintro e w4 ⟨rfl, hb4⟩
        have HB4 := Lib.hid hb4
        clear hb4
        go_wp2
        go_ret
        exact ⟨rfl, HB4.out⟩
    · have h3 : o4 ≤ 0 := HT.out (by omega) (by omega)
      clear HLT HT
      cases p
      all_goals
        go_enter Try.func4, Try.ntmps4
        go_wp2_with fail
        refine (HO1.out _).mono ?_
        rintro e w1 ⟨rfl, hb1⟩
        have HB1 := Lib.hid hb1
        clear hb1
        go_wp2_with fail
        refine (HR.out _).mono ?_
        rintro e w2 ⟨rfl, rfl⟩
        go_wp2_with fail
        refine (HO2.out _).mono ?_
        rintro e w3 ⟨rfl, hb3⟩
        have HB3 := Lib.hid (below_step HB1.out hb3)
        clear hb3 HB1
        go_wp2_with fail
        refine (HO3.out _).mono ?_
        rintro e w5 ⟨rfl, hb5⟩
        have HB5 := Lib.hid (below_step HB3.out hb5)
        clear hb5 HB3
        go_wp2_with fail
        refine (HO4.out _).mono ?_
        rintro e w6 ⟨rfl, hb6⟩
        have HB6 := Lib.hid (below_step HB5.out hb6)
        clear hb6 HB5
        go_wp2_with fail
        refine (HTL.out _ HB6.out).mono ?_
        rintro e w4 ⟨rfl, hb4⟩
        have HB4 := Lib.hid hb4
        clear hb4
        go_wp2
        go_ret
        exact ⟨rfl, HB4.out⟩

set_option maxRecDepth 100000 in
theorem scoreleast_walk (hShare : ShareOk) (hBelow : BelowOk) (hMay : MayOk) (hLeast : LeastOk) (p : Option Addr) (n cap : Nat) (L : List Nat) (w : World) (h : Fs w p n L) (hlt : ∀ j, L.getD j 0 < 18446744073709551616) (hpc : p = none → cap = 0) (hlc : n ≤ cap) (hcm : cap ≤ maxLen) :
    Calls Try.prog 5 #[.slice p n cap] w fun e w' => e = .returned (.bool true) ∧ Below w.heap.size w w' := by
  have HS := Lib.hid hShare
  have HBE := Lib.hid hBelow
  have HM := Lib.hid hMay
  have HL := Lib.hid (hLeast p n cap L w h hlt hpc hlc hcm)
  have H := Lib.hid h
  have HN : Hid (n ≤ 9223372036854775807) := Lib.hid (by unfold maxLen at hcm; omega)
  clear hShare hBelow hMay hLeast h hlt hpc hlc hcm
  go_enter Try.func5, Try.ntmps5
  go_wp2_with fail
  refine HL.out.mono ?_
  rintro e w1 ⟨rfl, hb1⟩
  have HB1 := Lib.hid hb1
  clear hb1
  go_wp2_with fail
  refine (rleast_any p n cap L _ (H.out.later HB1.out) HN.out).mono ?_
  rintro e w2 ⟨rfl, hb2⟩
  have HB2 := Lib.hid (below_step HB1.out hb2)
  clear hb2 HB1
  generalize fleastK L n = r at *
  go_wp2_with fail
  refine (slives_any HS.out HBE.out HM.out _).mono ?_
  rintro e w3 ⟨rfl, hb3⟩
  have HB3 := Lib.hid (below_step HB2.out hb3)
  clear hb3 HB2
  go_wp2
  go_ret
  exact ⟨rfl, HB3.out⟩
end Go.Proofs.Ytfnhhkbjbjlckaa
