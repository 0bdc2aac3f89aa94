/- Layer 9: the program's All and Peak. -/
import Derived.Test.YtapobakolnlpmaaWriJ
import Derived.Deep.RegionHeld3
namespace Go.Proofs.Ytapobakolnlpmaa
set_option linter.unusedVariables false
open Go.RowKit Go.Lib

def chs (L : List Wd) : List Ch := L.map Wd.c
theorem chs_length (L : List Wd) : (chs L).length = L.length := by simp [chs]
theorem chs_take (L : List Wd) (k : Nat) : chs (L.take k) = (chs L).take k := by simp [chs, List.map_take]
theorem chs_step (L : List Wd) (k : Nat) (hk : k < L.length) : (chs L).take (k + 1) = (chs L).take k ++ [(L.getD k wd0).c] := by
  rw [List.take_succ_eq_append_getElem (by rw [chs_length]; exact hk), List.getD_eq_getElem?_getD, List.getElem?_eq_getElem hk]
  simp [chs]
theorem allP_step (b : List Int) (L : List Wd) (k : Nat) (hk : k < L.length) : allP b ((chs L).take (k + 1)) = appP (allP b ((chs L).take k)) (L.getD k wd0).c (L.getD k wd0).c.dat.length := by
  rw [chs_step L k hk]
  simp [allP]
theorem peakP_max (l : List Ch) : ∀ n : Int, peakP n l ≤ max n 1048576 := by
  induction l with
  | nil => intro n; exact Int.le_max_left _ _
  | cons c l ih =>
    intro n
    refine Int.le_trans (ih (peakOne n c)) ?_
    unfold peakOne
    split
    · rename_i h
      have h1 := h.1
      unfold rightP at h1
      have := (of_decide_eq_true h1).2
      omega
    · exact Int.le_refl _
theorem allP_bound (b : List Int) (l : List Ch) (h : b.length ≤ 2097152) : (allP b l).length ≤ 2097152 := by
  have h1 := allP_peak l b
  have h2 := peakP_max l b.length
  omega
theorem surP_bound (b : List Int) (l : List Ch) (ch : List Int) (h : b.length ≤ 2097152) : (surP b l ch).length ≤ 2097152 := by
  have h1 := surP_peak l b ch
  have h2 := peakP_max l b.length
  omega

set_option maxRecDepth 100000 in
set_option maxHeartbeats 1000000 in
theorem wall_any (q : Option Addr) (l cp : Nat) (zs : List Int) (p : Option Addr) (n cap : Nat) (L : List Wd) (w : World) (hz : Bs w q l zs) (hq : q = none → cp = 0) (hl : l ≤ 2097152) (h : Ws w p n L) (hn : n ≤ 1048576) :
    Calls Try.prog 25 #[.slice q l cp, .slice p n cap] w fun e w' => ∃ v, e = .returned v ∧ Ob w' w.heap.size 5 v (allP zs (chs L)) ∧ Below w.heap.size w w' := by
  have H := Lib.hid h
  have HZ := Lib.hid hz
  have HQ := Lib.hid hq
  have HL := Lib.hid hl
  have HLL := Lib.hid h.1
  have HBD : Hid (∀ k, (allP zs ((chs L).take k)).length ≤ 2097152) := Lib.hid (fun k => allP_bound zs _ (by rw [hz.1]; exact hl))
  clear h hz hq
  go_enter Try.func25, Try.ntmps25
  go_wp2_with (go_at_call 21; refine (wclone_any q l cp zs _ HZ.out HQ.out HL.out).mono ?_; rintro e w1 ⟨v1, rfl, ho1, hb1⟩; have HO1 := Lib.hid ho1; have HB1 := Lib.hid hb1; clear ho1 hb1)
  go_loopw [5, 12] (fun v i wr => ∃ k : Nat, k ≤ n ∧ i = .int .i64 (k : Int) ∧ Hid (Ob wr w.heap.size 5 v (allP zs ((chs L).take k))) ∧ Hid (Below w.heap.size w wr)) (fun _ i _ => n - (intOf i).toNat)
  case atStart => exact ⟨0, by omega, rfl, by rw [List.take_zero]; exact HO1, HB1⟩
  case round =>
    clear HO1 HB1
    obtain ⟨k, hk, rfl, HO, HB⟩ := hrel
    by_cases hlt : k < n
    · obtain ⟨b, off, rfl, h0, h1, h2⟩ := (H.out.later HB.out).ptr k hlt
      have HW := Lib.hid ((H.out.later HB.out).fit k)
      have HF := Lib.hid (H.out.fit k)
      have HST := Lib.hid (allP_step zs L k (by rw [HLL.out]; exact hlt))
      generalize L.getD k wd0 = x at *
      obtain ⟨xc, xp, xn, xcap⟩ := x
      go_wp2_with (go_at_call 31; refine (wchange_any w u5 (allP zs ((chs L).take k)) xc xp xn xcap _ (HB.out.alloc HB.out.size _) (HO.out.alloc _) HF.out (HBD.out k)).mono ?_; rintro e w2 ⟨v2, rfl, ho2, hb2⟩; rw [← HST.out] at ho2; have HO2 := Lib.hid ho2; have HB2 := Lib.hid hb2; clear ho2 hb2)
      refine ⟨?_, by simp [intOf]; omega⟩
      first
        | exact ⟨k + 1, by omega, by go_num, HO2, HB2⟩
        | ((repeat apply Exists.intro); refine ⟨?_, rfl⟩; exact ⟨k + 1, by omega, by go_num, HO2, HB2⟩)
    · obtain rfl : k = n := by omega
      have HT : Hid (chs L = (chs L).take k) := Lib.hid (by rw [List.take_of_length_le (by rw [chs_length, HLL.out]; exact Nat.le_refl _)])
      go_wp2
      go_ret
      exact ⟨_, rfl, by rw [HT.out]; exact HO.out, HB.out⟩

theorem peakP_step (N : Int) (L : List Wd) (k : Nat) (hk : k < L.length) : peakP N ((chs L).take (k + 1)) = peakOne (peakP N ((chs L).take k)) (L.getD k wd0).c := by
  rw [chs_step L k hk]
  simp [peakP]
theorem peakOne_wrong {m : Int} {c : Ch} (h : rightP c = false) : peakOne m c = m := by
  unfold peakOne
  rw [if_neg (fun hh => by rw [h] at hh; cases hh.1)]
theorem peakOne_cut {m : Int} {c : Ch} (h : c.cut = true) : peakOne m c = m := by
  unfold peakOne
  rw [if_neg (fun hh => by rw [h] at hh; cases hh.2.1)]
theorem peakOne_none {m : Int} {c : Ch} (h : c.dat.length = 0) : peakOne m c = m := by
  unfold peakOne
  rw [if_neg (fun hh => hh.2.2.1 (List.length_eq_zero_iff.1 h))]
theorem peakOne_max {m : Int} {c : Ch} {o n : Nat} (hr : rightP c = true) (hc : c.cut = false) (ho : c.off = (o : Int)) (hn : c.dat.length = n) (h0 : 0 < n) : peakOne m c = max m ((o : Int) + (n : Int)) := by
  unfold peakOne
  have hne : c.dat ≠ [] := fun h => by rw [h] at hn; simp at hn; omega
  rw [ho, hn]
  by_cases h : m < (o : Int) + (n : Int)
  · rw [if_pos ⟨hr, hc, hne, h⟩]; omega
  · rw [if_neg (fun hh => h hh.2.2.2)]; omega

set_option maxRecDepth 100000 in
set_option maxHeartbeats 1000000 in
theorem wpeak_any (N : Int) (p : Option Addr) (n cap : Nat) (L : List Wd) (w : World) (h : Ws w p n L) (hn : n ≤ 1048576) :
    Calls Try.prog 26 #[.int .i64 N, .slice p n cap] w fun e w' => e = .returned (.int .i64 (peakP N (chs L))) ∧ Below w.heap.size w w' := by
  have H := Lib.hid h
  have HLL := Lib.hid h.1
  clear h
  go_enter Try.func26, Try.ntmps26
  go_wp2
  go_loopw [0, 9] (fun a i wr => ∃ (k : Nat) (m : Int), k ≤ n ∧ i = .int .i64 (k : Int) ∧ a = .int .i64 m ∧ Hid (peakP N ((chs L).take k) = m) ∧ Hid (Below w.heap.size w wr)) (fun _ i _ => n - (intOf i).toNat)
  case atStart => exact ⟨0, N, by omega, rfl, rfl, Lib.hid (by rw [List.take_zero]; rfl), Lib.hid (Below.refl _ _)⟩
  case round =>
    obtain ⟨k, m, hk, rfl, rfl, HM, HB⟩ := hrel
    by_cases hlt : k < n
    · obtain ⟨b, off, rfl, h0, h1, h2⟩ := (H.out.later HB.out).ptr k hlt
      have HW := Lib.hid ((H.out.later HB.out).fit k)
      have HST := Lib.hid (peakP_step N L k (by rw [HLL.out]; exact hlt))
      rw [HM.out] at HST
      clear HM
      generalize L.getD k wd0 = x at *
      obtain ⟨xc, xp, xn, xcap⟩ := x
      have HC1 : Hid (Cw (wr.alloc (.cells #[.bool xc.cut, .int .i64 xc.off, .slice xp xn xcap] 48)) wr.heap.size xc xp xn xcap) := Lib.hid (heap_alloc_new _ _)
      have HX1 : Hid (Below wr.heap.size wr (wr.alloc (.cells #[.bool xc.cut, .int .i64 xc.off, .slice xp xn xcap] 48))) := Lib.hid ((Below.refl _ _).alloc (Nat.le_refl _) _)
      have HS1 : Hid (wr.heap.size + 1 ≤ (wr.alloc (.cells #[.bool xc.cut, .int .i64 xc.off, .slice xp xn xcap] 48)).heap.size) := Lib.hid (by simp)
      have HIN : Hid (chIn (wr.alloc (.cells #[.bool xc.cut, .int .i64 xc.off, .slice xp xn xcap] 48)) xc xp xn xcap) := Lib.hid (HW.out.later HX1.out)
      have HDL : Hid (xc.dat.length = xn) := Lib.hid HW.out.1.1
      have HRT : Hid (∀ W, chIn W xc xp xn xcap → Calls Try.prog 32 #[.agg #[.bool xc.cut, .int .i64 xc.off, .slice xp xn xcap]] W fun e w' => e = .returned (.bool (rightP xc)) ∧ W.alloc (.cells #[.bool xc.cut, .int .i64 xc.off, .slice xp xn xcap] 48) = w') := Lib.hid fun W hW => wright_any xc xp xn xcap W hW
      have HRR : Hid (rightP xc = true → ∃ o : Nat, xc.off = (o : Int) ∧ o + xn ≤ 1048576) := Lib.hid (fun hr => by
        unfold rightP at hr
        obtain ⟨o0, o1⟩ := of_decide_eq_true hr
        rw [HDL.out] at o1
        exact ⟨xc.off.toNat, by omega, by omega⟩)
      go_wp2_with fail
      refine (HRT.out _ HIN.out).mono ?_
      rintro e w2 ⟨rfl, hw2⟩
      have HB2 : Hid (Below w.heap.size w w2) := Lib.hid (by rw [← hw2]; exact (HB.out.trans (HX1.out.mono HB.out.size)).alloc (Nat.le_trans HB.out.size HX1.out.size) _)
      have HC2 : Hid (Cw w2 wr.heap.size xc xp xn xcap) := Lib.hid (HC1.out.keep (by rw [← hw2]; exact (Below.refl _ _).alloc HS1.out _))
      clear hw2 h0 h1 h2 HC1 HX1 HS1 HIN
      obtain ⟨h0, h1, h2⟩ := HC2.out.cells
      have HRD : Hid (∀ m' : Int, peakOne m xc = m' → Hid (peakP N ((chs L).take (k + 1)) = m')) := Lib.hid (fun m' e => Lib.hid (HST.out.trans e))
      cases hr : rightP xc
      · have HE := HRD.out _ (peakOne_wrong hr)
        clear hr
        go_wp2
        refine ⟨?_, by simp [intOf]; omega⟩
        first
          | exact ⟨k + 1, m, by omega, by go_num, rfl, HE, HB2⟩
          | ((repeat apply Exists.intro); refine ⟨?_, rfl⟩; exact ⟨k + 1, m, by omega, by go_num, rfl, HE, HB2⟩)
      · obtain ⟨o, ho, hon⟩ := HRR.out hr
        rw [ho] at h1
        cases hcut : xc.cut
        · rw [hcut] at h0
          by_cases hn0 : xn = 0
          · have HE := HRD.out _ (peakOne_none (HDL.out.trans hn0))
            have hn0' : decide ((xn : Int) > 0) = false := by simp; omega
            clear hr ho hcut
            go_wp2
            refine ⟨?_, by simp [intOf]; omega⟩
            first
              | exact ⟨k + 1, m, by omega, by go_num, rfl, HE, HB2⟩
              | ((repeat apply Exists.intro); refine ⟨?_, rfl⟩; exact ⟨k + 1, m, by omega, by go_num, rfl, HE, HB2⟩)
          · have HE := HRD.out _ (peakOne_max hr hcut ho HDL.out (by omega))
            have hn0' : decide ((xn : Int) > 0) = true := by simp; omega
            clear hr ho hcut
            go_wp2
            refine ⟨?_, by simp [intOf]; omega⟩
            first
              | exact ⟨k + 1, _, by omega, by go_num, rfl, HE, HB2⟩
              | ((repeat apply Exists.intro); refine ⟨?_, rfl⟩; exact ⟨k + 1, _, by omega, by go_num, rfl, HE, HB2⟩)
        · have HE := HRD.out _ (peakOne_cut hcut)
          rw [hcut] at h0
          clear hr ho hcut
          go_wp2
          refine ⟨?_, by simp [intOf]; omega⟩
          first
            | exact ⟨k + 1, m, by omega, by go_num, rfl, HE, HB2⟩
            | ((repeat apply Exists.intro); refine ⟨?_, rfl⟩; exact ⟨k + 1, m, by omega, by go_num, rfl, HE, HB2⟩)
    · obtain rfl : k = n := by omega
      have HT : Hid (peakP N (chs L) = m) := Lib.hid (by rw [← HM.out, List.take_of_length_le (by rw [chs_length, HLL.out]; exact Nat.le_refl _)])
      go_wp2
      go_ret
      exact ⟨by rw [HT.out]; rfl, HB.out⟩
end Go.Proofs.Ytapobakolnlpmaa
