/- Layer 15, the law: BatchMakes -/
import Derived.Test.YtcjflabipkppfaaBt4
import Derived.Test.YtcjflabipkppfaaBt24
import Derived.Test.YtcjflabipkppfaaBt26
set_option linter.unusedSimpArgs false
set_option linter.unusedVariables false
namespace Go.Proofs.Ytcjflabipkppfaa
set_option linter.unusedVariables false
open Go.RowKit Go.Lib

theorem bm_zero {l : List Rc} (hw : wrongN l = 0) (hn : l.length ≤ 1048576) : bmB l 0 = batN l 0 ∧ bzN l = (batN l 0).length := by
  have hE : bmE l 0 = 0 := by
    unfold bmE
    rw [if_neg (by rw [hw]; simp), if_neg (by omega)]
  exact ⟨by unfold bmB; rw [if_pos hE], by unfold bzN; rw [if_pos hw]⟩
theorem bm_len {l : List Rc} (s : Int) (hf : (framesN l 0).length ≤ 2097152) (hn : l.length ≤ 1048576) : (bmB l s).length ≤ 2097181 := by
  unfold bmB
  split
  · unfold batN
    rw [List.length_append, framesN_length l s 0, commit_len (by omega) (by omega)]
    omega
  · simp

set_option maxRecDepth 100000 in
set_option maxHeartbeats 4000000 in
theorem batmakes_any (hM : cbMakeOk) (hS : cbSizeOk) (hP : cbParseOk) (p : Option Addr) (n c : Nat) (L : List Rx) (s : Int) (w : World) (h : Gs encRc w p n L) (hpc : p = none → c = 0) (hnc : n ≤ c) (hf : ∀ x ∈ L, x.1.Fit w ∧ x.1.n ≤ 1048576) (hn : n ≤ 1048576) (hfr : (framesN (rcL L) 0).length ≤ 2097152) (hs : 0 ≤ s ∧ s < 18446744073709551616) :
    Calls Try.prog 3 #[.slice p n c, .int .u64 s] w fun e w' => e = .returned (.bool true) ∧ Below w.heap.size w w' := by
  have hl : (rcL L).length = n := by rw [rcL_length, h.len]
  have HM := Lib.hid (hM p n c L s w h hpc hnc hf hn hfr hs)
  have HR := Lib.hid fun W (hW : Below w.heap.size w W) t (ht : 0 ≤ t ∧ t < 18446744073709551616) => rmake15_any p n c L t W (h.later hW) (fun x hx => (hf x hx).1.later hW) hn ht
  have HW := Lib.hid fun W (hW : Below w.heap.size w W) => rwrong_any p n c L W (h.later hW) (fun x hx => (hf x hx).1.later hW) hn
  have HS := Lib.hid fun W (hW : Below w.heap.size w W) => hS p n c L W (h.later hW) hpc hnc (fun x hx => ⟨(hf x hx).1.later hW, (hf x hx).2⟩) hn hfr
  have HLV := Lib.hid fun W => lives15_any hM hS hP W
  have HZ := Lib.hid fun hw => bm_zero (l := rcL L) hw (by rw [hl]; exact hn)
  have HB1L := Lib.hid (bm_len s hfr (by rw [hl]; exact hn))
  have HB0L := Lib.hid (bm_len 0 hfr (by rw [hl]; exact hn))
  have HBZ : Hid (bzN (rcL L) = if wrongN (rcL L) = 0 then ((batN (rcL L) 0).length : Int) else 0) := Lib.hid rfl
  have HR1 := Lib.hid fun W hW => HR.out W hW s hs
  have HR0 := Lib.hid fun W hW => HR.out W hW 0 (by omega)
  generalize wrongN (rcL L) = R at *
  generalize bmE (rcL L) s = E at *
  generalize bmS (rcL L) s = NS at *
  generalize bmE (rcL L) 0 = E0 at *
  generalize bmS (rcL L) 0 = NS0 at *
  generalize bzN (rcL L) = BZ at *
  generalize batN (rcL L) 0 = T0 at *
  obtain ⟨F, hF⟩ : ∃ F, bmB (rcL L) s = F := ⟨_, rfl⟩
  rw [hF] at HM HR1 HB1L
  obtain ⟨F0, hF0⟩ : ∃ F, bmB (rcL L) 0 = F := ⟨_, rfl⟩
  rw [hF0] at HR0 HB0L HZ
  obtain ⟨m, hm⟩ : ∃ m, F.length = m := ⟨_, rfl⟩
  obtain ⟨m0, hm0⟩ : ∃ m, F0.length = m := ⟨_, rfl⟩
  have HMN := Lib.hid hm
  have HMN0 := Lib.hid hm0
  rw [hm] at HB1L
  rw [hm0] at HB0L
  have hmm := HB1L.out
  have hmm0 := HB0L.out
  have HLM : Hid (m ≤ maxLen) := Lib.hid (by unfold maxLen; omega)
  clear h hf hM hS hP hpc hnc hn hfr hl HR hF hF0 hm hm0
  by_cases hz : R = 0
  · subst hz
    have HBE : Hid (BZ = (m0 : Int)) := Lib.hid (by
      obtain ⟨h1, h2⟩ := HZ.out rfl
      rw [h2, ← h1, HMN0.out])
    rw [HBE.out] at HS
    go_enter Try.func3, Try.ntmps3
    go_wp2_with (first
      | (go_at_call 6; refine HM.out.mono ?_; rintro e w1 ⟨v1, rfl, ho1, hb1⟩; have HB1 := Lib.hid hb1; obtain ⟨p1, c1, hv1, hlc1, hcm1, hbs1, hpc1⟩ := ho1.open; rw [HMN.out] at hv1 hlc1 hbs1; subst hv1; have HD1 := Lib.hid hbs1; clear ho1 hb1 hbs1 hpc1 hlc1 hcm1)
      | (go_at_call 7; (fail_if_success (have hh := HB2.out)); refine (HR1.out _ HB1.out).mono ?_; rintro e w2 ⟨v2, rfl, ho2, hb2⟩; have HB2 := Lib.hid (below_step HB1.out hb2); have HD1' := Lib.hid (HD1.out.later hb2); obtain ⟨p2, c2, hv2, hlc2, hcm2, hbs2, hpc2⟩ := ho2.open; rw [HMN.out] at hv2 hlc2 hbs2; subst hv2; have HD2 := Lib.hid hbs2; clear ho2 hb2 hbs2 hpc2 hlc2 hcm2)
      | (go_at_call 8; refine (HW.out _ HB2.out).mono ?_; rintro e w3 ⟨rfl, hb3⟩; have HB3 := Lib.hid (below_step HB2.out hb3); have HD13 := Lib.hid (HD1'.out.later hb3); have HD23 := Lib.hid (HD2.out.later hb3); clear hb3)
      | (go_at_call 7; refine (HR0.out _ HB3.out).mono ?_; rintro e w4 ⟨v4, rfl, ho4, hb4⟩; have HB4 := Lib.hid (below_step HB3.out hb4); have HD14 := Lib.hid (HD13.out.later hb4); have HD24 := Lib.hid (HD23.out.later hb4); obtain ⟨p4, c4, hv4, hlc4, hcm4, hbs4, hpc4⟩ := ho4.open; rw [HMN0.out] at hv4 hlc4 hbs4; subst hv4; clear ho4 hb4 hbs4 hpc4 hlc4 hcm4)
      | (go_at_call 9; refine (same_any _ _ _ _ _ _ F F _ HLM.out HLM.out HD14.out HD24.out).mono ?_; rintro e w5 ⟨rfl, q, hq⟩; rw [decide_eq_true (rfl : F = F)]; have HB5 : Hid (Below w.heap.size w w5) := Lib.hid (by rw [hq]; exact below_drewN HB4.out _); clear hq)
      | (go_at_call 10; refine (HS.out _ HB5.out).mono ?_; rintro e w6 ⟨rfl, hb6⟩; have HB6 := Lib.hid (below_step HB5.out hb6); clear hb6)
      | (go_at_call 11; refine (HLV.out _).mono ?_; rintro e w7 ⟨rfl, hb7⟩; have HB7 := Lib.hid (below_step HB6.out hb7); clear hb7))
    go_ret
    exact ⟨rfl, HB7.out⟩
  · have HBE : Hid (BZ = 0) := Lib.hid (by rw [HBZ.out, if_neg hz])
    have hne : (R == 0) = false := by simpa using hz
    rw [HBE.out] at HS
    go_enter Try.func3, Try.ntmps3
    go_wp2_with (first
      | (go_at_call 6; refine HM.out.mono ?_; rintro e w1 ⟨v1, rfl, ho1, hb1⟩; have HB1 := Lib.hid hb1; obtain ⟨p1, c1, hv1, hlc1, hcm1, hbs1, hpc1⟩ := ho1.open; rw [HMN.out] at hv1 hlc1 hbs1; subst hv1; have HD1 := Lib.hid hbs1; clear ho1 hb1 hbs1 hpc1 hlc1 hcm1)
      | (go_at_call 7; refine (HR1.out _ HB1.out).mono ?_; rintro e w2 ⟨v2, rfl, ho2, hb2⟩; have HB2 := Lib.hid (below_step HB1.out hb2); have HD1' := Lib.hid (HD1.out.later hb2); obtain ⟨p2, c2, hv2, hlc2, hcm2, hbs2, hpc2⟩ := ho2.open; rw [HMN.out] at hv2 hlc2 hbs2; subst hv2; have HD2 := Lib.hid hbs2; clear ho2 hb2 hbs2 hpc2 hlc2 hcm2)
      | (go_at_call 8; refine (HW.out _ HB2.out).mono ?_; rintro e w3 ⟨rfl, hb3⟩; have HB3 := Lib.hid (below_step HB2.out hb3); have HD13 := Lib.hid (HD1'.out.later hb3); have HD23 := Lib.hid (HD2.out.later hb3); clear hb3)
      | (go_at_call 9; refine (same_any _ _ _ _ _ _ F F _ HLM.out HLM.out HD13.out HD23.out).mono ?_; rintro e w5 ⟨rfl, q, hq⟩; rw [decide_eq_true (rfl : F = F)]; have HB5 : Hid (Below w.heap.size w w5) := Lib.hid (by rw [hq]; exact below_drewN HB3.out _); clear hq)
      | (go_at_call 10; refine (HS.out _ HB5.out).mono ?_; rintro e w6 ⟨rfl, hb6⟩; have HB6 := Lib.hid (below_step HB5.out hb6); clear hb6)
      | (go_at_call 11; refine (HLV.out _).mono ?_; rintro e w7 ⟨rfl, hb7⟩; have HB7 := Lib.hid (below_step HB6.out hb7); clear hb7))
    go_ret
    exact ⟨rfl, HB7.out⟩
end Go.Proofs.Ytcjflabipkppfaa
