/- Layer 9: the reference's Peak. -/
import Derived.Test.YtapobakolnlpmaaWriO
namespace Go.Proofs.Ytapobakolnlpmaa
set_option linter.unusedVariables false
open Go.RowKit Go.Lib

set_option maxRecDepth 100000 in
set_option maxHeartbeats 1000000 in
theorem rpeak_any (N : Int) (p : Option Addr) (n cap : Nat) (L : List Wd) (w : World) (h : Ws w p n L) (hn : n ≤ 1048576) :
    Calls Try.prog 16 #[.int .i64 N, .slice p n cap] w fun e w' => e = .returned (.int .i64 (peakP N (chs L))) ∧ Below w.heap.size w w' := by
  have H := Lib.hid h
  have HLL := Lib.hid h.1
  clear h
  go_enter Try.func16, Try.ntmps16
  go_wp2
  go_loopw [0, 5] (fun a i wr => ∃ (k : Nat) (m : Int), k ≤ n ∧ i = .int .i64 (k : Int) ∧ a = .int .i64 m ∧ Hid (peakP N ((chs L).take k) = m) ∧ Hid (Below w.heap.size w wr)) (fun _ i _ => n - (intOf i).toNat)
  case atStart => exact ⟨0, N, by omega, rfl, rfl, Lib.hid (by rw [List.take_zero]; rfl), Lib.hid (Below.refl _ _)⟩
  case round =>
    obtain ⟨k, m, hk, rfl, rfl, HM, HB⟩ := hrel
    by_cases hlt : k < n
    · obtain ⟨b, off, rfl, h0, h1, h2⟩ := (H.out.later HB.out).ptr k hlt
      have HW := Lib.hid ((H.out.later HB.out).fit k)
      have HST := Lib.hid (peakP_step N L k (by rw [HLL.out]; exact hlt))
      rw [HM.out] at HST
      clear HM
      generalize L.getD k wd0 = x at *
      obtain ⟨xc, xp, xn, xcap⟩ := x
      have HC1 : Hid (Cw (wr.alloc (.cells #[.bool xc.cut, .int .i64 xc.off, .slice xp xn xcap] 48)) wr.heap.size xc xp xn xcap) := Lib.hid (heap_alloc_new _ _)
      have HX1 : Hid (Below wr.heap.size wr (wr.alloc (.cells #[.bool xc.cut, .int .i64 xc.off, .slice xp xn xcap] 48))) := Lib.hid ((Below.refl _ _).alloc (Nat.le_refl _) _)
      have HS1 : Hid (wr.heap.size + 1 ≤ (wr.alloc (.cells #[.bool xc.cut, .int .i64 xc.off, .slice xp xn xcap] 48)).heap.size) := Lib.hid (by simp)
      have HIN : Hid (chIn (wr.alloc (.cells #[.bool xc.cut, .int .i64 xc.off, .slice xp xn xcap] 48)) xc xp xn xcap) := Lib.hid (HW.out.later HX1.out)
      have HDL : Hid (xc.dat.length = xn) := Lib.hid HW.out.1.1
      have HRT : Hid (∀ W, chIn W xc xp xn xcap → Calls Try.prog 27 #[.agg #[.bool xc.cut, .int .i64 xc.off, .slice xp xn xcap]] W fun e w' => e = .returned (.bool (rightP xc)) ∧ W.alloc (.cells #[.bool xc.cut, .int .i64 xc.off, .slice xp xn xcap] 48) = w') := Lib.hid fun W hW => rwright_any xc xp xn xcap W hW
      have HRR : Hid (rightP xc = true → ∃ o : Nat, xc.off = (o : Int) ∧ o + xn ≤ 1048576) := Lib.hid (fun hr => by
        unfold rightP at hr
        obtain ⟨o0, o1⟩ := of_decide_eq_true hr
        rw [HDL.out] at o1
        exact ⟨xc.off.toNat, by omega, by omega⟩)
      go_wp2_with fail
      refine (HRT.out _ HIN.out).mono ?_
      rintro e w2 ⟨rfl, hw2⟩
      have HB2 : Hid (Below w.heap.size w w2) := Lib.hid (by rw [← hw2]; exact (HB.out.trans (HX1.out.mono HB.out.size)).alloc (Nat.le_trans HB.out.size HX1.out.size) _)
      have HC2 : Hid (Cw w2 wr.heap.size xc xp xn xcap) := Lib.hid (HC1.out.keep (by rw [← hw2]; exact (Below.refl _ _).alloc HS1.out _))
      clear hw2 h0 h1 h2 HC1 HX1 HS1 HIN
      obtain ⟨h0, h1, h2⟩ := HC2.out.cells
      have HRD : Hid (∀ m' : Int, peakOne m xc = m' → Hid (peakP N ((chs L).take (k + 1)) = m')) := Lib.hid (fun m' e => Lib.hid (HST.out.trans e))
      cases hr : rightP xc
      · have HE := HRD.out _ (peakOne_wrong hr)
        clear hr
        go_wp2
        refine ⟨?_, by simp [intOf]; omega⟩
        first
          | exact ⟨k + 1, m, by omega, by go_num, rfl, HE, HB2⟩
          | ((repeat apply Exists.intro); refine ⟨?_, rfl⟩; exact ⟨k + 1, m, by omega, by go_num, rfl, HE, HB2⟩)
      · obtain ⟨o, ho, hon⟩ := HRR.out hr
        rw [ho] at h1
        cases hcut : xc.cut
        · rw [hcut] at h0
          by_cases hn0 : xn = 0
          · have HE := HRD.out _ (peakOne_none (HDL.out.trans hn0))
            have hn0' : decide ((xn : Int) > 0) = false := by simp; omega
            clear hr ho hcut
            go_wp2
            refine ⟨?_, by simp [intOf]; omega⟩
            first
              | exact ⟨k + 1, m, by omega, by go_num, rfl, HE, HB2⟩
              | ((repeat apply Exists.intro); refine ⟨?_, rfl⟩; exact ⟨k + 1, m, by omega, by go_num, rfl, HE, HB2⟩)
          · have HMX := Lib.hid (peakOne_max (m := m) hr hcut ho HDL.out (by omega))
            have hn0' : decide ((xn : Int) > 0) = true := by simp; omega
            clear hr ho hcut
            by_cases hgt : (o : Int) + (xn : Int) > m
            · have HE : Hid (peakP N ((chs L).take (k + 1)) = (o : Int) + (xn : Int)) := HRD.out _ (HMX.out.trans (by omega))
              have hgt' : decide ((o : Int) + (xn : Int) > m) = true := by simp; omega
              clear HMX
              go_wp2
              refine ⟨?_, by simp [intOf]; omega⟩
              first
                | exact ⟨k + 1, _, by omega, by go_num, rfl, HE, HB2⟩
                | ((repeat apply Exists.intro); refine ⟨?_, rfl⟩; exact ⟨k + 1, _, by omega, by go_num, rfl, HE, HB2⟩)
            · have HE : Hid (peakP N ((chs L).take (k + 1)) = m) := HRD.out _ (HMX.out.trans (by omega))
              have hgt' : decide ((o : Int) + (xn : Int) > m) = false := by simp; omega
              clear HMX
              go_wp2
              refine ⟨?_, by simp [intOf]; omega⟩
              first
                | exact ⟨k + 1, m, by omega, by go_num, rfl, HE, HB2⟩
                | ((repeat apply Exists.intro); refine ⟨?_, rfl⟩; exact ⟨k + 1, m, by omega, by go_num, rfl, HE, HB2⟩)
        · have HE := HRD.out _ (peakOne_cut hcut)
          rw [hcut] at h0
          clear hr ho hcut
          go_wp2
          refine ⟨?_, by simp [intOf]; omega⟩
          first
            | exact ⟨k + 1, m, by omega, by go_num, rfl, HE, HB2⟩
            | ((repeat apply Exists.intro); refine ⟨?_, rfl⟩; exact ⟨k + 1, m, by omega, by go_num, rfl, HE, HB2⟩)
    · obtain rfl : k = n := by omega
      have HT : Hid (peakP N (chs L) = m) := Lib.hid (by rw [← HM.out, List.take_of_length_le (by rw [chs_length, HLL.out]; exact Nat.le_refl _)])
      go_wp2
      go_ret
      exact ⟨by rw [HT.out]; rfl, HB.out⟩
end Go.Proofs.Ytapobakolnlpmaa
