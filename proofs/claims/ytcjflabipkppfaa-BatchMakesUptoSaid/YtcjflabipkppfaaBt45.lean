/- Layer 15, the program: Parse -/
import Derived.Test.YtcjflabipkppfaaBt11
import Derived.Test.YtcjflabipkppfaaBt26
import Derived.Test.YtcjflabipkppfaaBt30
import Derived.Test.YtcjflabipkppfaaBt44
set_option linter.unusedSimpArgs false
set_option linter.unusedVariables false
namespace Go.Proofs.Ytcjflabipkppfaa
set_option linter.unusedVariables false
open Go.RowKit Go.Lib

theorem nextB_false {ws : List Wd} {s : Int} (h : nextB ws s = false) : ws ≠ [] ∧ (s < 1 ∨ s - 1 ≠ lastS ws) := by
  have h1 := of_decide_eq_false h
  exact ⟨fun e => h1 (Or.inl e), by
    by_cases h2 : s < 1
    · exact Or.inl h2
    · exact Or.inr fun h3 => h1 (Or.inr (by omega))⟩
theorem nextB_true {ws : List Wd} {s : Int} (h : nextB ws s = true) (h0 : 0 ≤ lastS ws) : ¬ (ws ≠ [] ∧ (s < 1 ∨ s - 1 ≠ lastS ws)) := by
  have h1 := of_decide_eq_true h
  rintro ⟨h2, h3⟩
  rcases h1 with h1 | h1
  · exact h2 h1
  · omega
theorem memB_is {k : Int} (h : memB k = true) : ¬ k = 6 ∧ ¬ k > 5 := by have := of_decide_eq_true h; omega
theorem memB_no {k : Int} (h : memB k = false) (hk : 1 ≤ k) : k > 5 := by have := of_decide_eq_false h; omega

set_option maxRecDepth 100000 in
set_option maxHeartbeats 8000000 in
theorem cbparse_ok : cbParseOk := by
  intro p len cap zs a seg w h hpc hlc hcm hlen ha hseg
  have HZ := Lib.hid h
  have HBY := Lib.hid (show Byt zs from h.byte)
  have HLN := Lib.hid h.len
  have HST := Lib.hid (bpF_start h.byte a seg)
  have HCP := Lib.hid fun (t : Int) W (hW : Bs W p len zs) (ht : -9223372036854775808 ≤ t ∧ t ≤ 9223372036854775807) => cparse_ok p len cap zs t W hW hpc hlc hcm hlen ht
  have HWD := Lib.hid fun (x : Rq) (off l : Int) W (hx : x.Fit W) (hn : x.n ≤ 2097152) => cword_ok x seg off l W hx hn
  unfold Rq.v locV at HWD
  clear h hpc hlc hcm
  go_enter Try.func12, Try.ntmps12
  go_wp2
  go_step3
  go_wp2
  go_step3
  go_wp2
  go_loopw [10, 12] (fun ov av wr => ∃ (at_ : Int) (L : List Wx), av = .int .i64 at_ ∧ Hid (Gw encWd wr w.heap.size ov L) ∧ Hid (bpF zs a seg = bpR zs seg a at_ (wdL L)) ∧ Hid (∀ x ∈ L, x.1.Ok) ∧ (L = [] → at_ = a) ∧ (L ≠ [] → 0 ≤ a ∧ a ≤ at_ ∧ at_ ≤ len) ∧ (L.length : Int) * 21 ≤ at_ - a ∧ Hid (Below w.heap.size w wr)) (fun _ av _ => ((len : Int) - Go.Lib.intOf av).toNat)
  case atStart => exact ⟨a, [], rfl, Lib.hid (Gw.nil _ _ _), HST, Lib.hid (fun x hx => by cases hx), fun _ => rfl, fun h => absurd rfl h, by simp, Lib.hid (Below.refl _ _)⟩
  case round =>
    obtain ⟨t, L, rfl, HG, HS, HK, hl0, hl1, hl2, HB⟩ := hrel
    have ht : -9223372036854775808 ≤ t ∧ t ≤ 9223372036854775807 := by
      by_cases hL : L = []
      · rw [hl0 hL]; exact ha
      · have := hl1 hL; omega
    have HRP := Lib.hid (HCP.out t wr (HZ.out.later HB.out) ht)
    have HSTEP := Lib.hid (bpR_step HBY.out seg a t (wdL L))
    rw [← HS.out] at HSTEP
    have HNX := Lib.hid fun h0 => rp_next HBY.out (a := t) h0
    rw [HLN.out] at HNX
    have HDA := Lib.hid fun h0 => rpR_da HBY.out (a := t) h0
    rw [HLN.out] at HDA
    have HRT := Lib.hid fun h0 => (show rightN (rpR zs t) = 0 from by obtain ⟨_, _, _, _, _, _, hh, _⟩ := rp_forth HBY.out (a := t) h0; exact hh)
    unfold RpQ at HRP
    obtain ⟨E, hE⟩ : ∃ E, rpE zs t = E := ⟨_, rfl⟩
    obtain ⟨NX, hNX⟩ : ∃ N, rpN zs t = N := ⟨_, rfl⟩
    obtain ⟨RC, hRC⟩ : ∃ r, rpR zs t = r := ⟨_, rfl⟩
    rw [hE, hNX, hRC] at HSTEP
    rw [hE, hNX, hRC] at HRP
    rw [hE, hNX] at HNX
    rw [hE, hRC] at HDA HRT
    clear hE hNX hRC
    obtain ⟨oq, oc, hov, hlc2, hcm2, hgs2, hpc2⟩ := HG.out.open
    subst hov
    have HO2 := Lib.hid (And.intro hlc2 (And.intro hcm2 hpc2))
    have HGS := Lib.hid hgs2
    obtain ⟨n, hn⟩ : ∃ n, L.length = n := ⟨_, rfl⟩
    rw [hn] at HG HGS HO2 hl2 ⊢
    have HN := Lib.hid hn
    clear hlc2 hcm2 hpc2 hgs2 hn
    go_upto_region 6 with (first
      | (go_at_call 22; refine HRP.out.mono ?_; rintro e w1 ⟨x, rfl, hf1, hr1, hb1⟩; have HF1 := Lib.hid hf1; have HR1 := Lib.hid hr1; have HB1 := Lib.hid hb1; clear hf1 hr1 hb1)
      | (refine wpList_store_row rfl 42 _ _ rfl w1.heap.size _ rfl rfl 42 _ (heap_alloc_new _ _) (Rq.sizeOf x HF1.out.dg.1) (Rq.sizes rq0 x rfl HF1.out.dg.1) x.one ?_; generalize hw2 : World.setRow _ _ _ = w2))
    have HR2 : Hid (Rm w2 w1.heap.size x) := Lib.hid (by rw [← hw2]; exact Mx.row (show Rm (w1.alloc (.cells (mixC rq0.a rq0.dg rq0.z) 42)) w1.heap.size rq0 from heap_alloc_new _ _))
    have HB12 : Hid (Below w1.heap.size w1 w2) := Lib.hid (by rw [← hw2]; exact below_setRow8 ((Below.refl _ _).alloc (Nat.le_refl _) _) _ _ (Nat.le_refl _))
    have HB2 : Hid (Below wr.heap.size wr w2) := Lib.hid (below_step HB1.out HB12.out)
    have HBW : Hid (Below w.heap.size w w2) := Lib.hid (below_step HB.out HB2.out)
    have HG2 := Lib.hid (HG.out.later HB2.out)
    have HF2 := Lib.hid (HF1.out.later HB12.out)
    have HXD := Lib.hid HF1.out.dg.1
    clear hw2
    by_cases hz : E = 0
    · subst hz
      rw [if_neg (by simp)] at HSTEP
      obtain ⟨hx0, hx1, hx2⟩ := HNX.out rfl
      have HKR := Lib.hid (rightN_k (HRT.out rfl))
      obtain ⟨e0, e1, _, _, e36, e37⟩ := HR2.out.cells HF2.out.dg.1
      have hks : RC.k = x.k ∧ RC.s = x.s ∧ RC.n = x.N ∧ RC.z = x.Z := by rw [← HR1.out]; exact ⟨rfl, rfl, rfl, rfl⟩
      obtain ⟨hk', hs', hn', hz'⟩ := hks
      rw [hk', hs', hn', hz'] at HSTEP
      rw [hk'] at HKR
      have hxs := HF2.out.s
      have hxn : x.n ≤ 2097152 := by
        have h1 := HF2.out.bs.len
        have h2 := HDA.out rfl
        have h3 : RC.da = x.da := by rw [← HR1.out]; rfl
        rw [h3, h1] at h2
        omega
      have HT0 : Hid (0 ≤ a ∧ a ≤ t) := Lib.hid (by
        by_cases hL : L = []
        · have := hl0 hL; omega
        · have := hl1 hL; omega)
      have hta := HT0.out
      have hnb : n + 1 ≤ 2097152 := by omega
      have HNXT := Lib.hid (isNext_any oq n oc L x.s w2 HG2.out.gs HK.out hxs (by omega))
      have HMEM := Lib.hid fun W => isMember_any x W HXD.out
      have hsb : wrap64 (t - a) = t - a := by unfold wrap64; omega
      have HCMT := Lib.hid fun W => isCommit_any x (n : Int) (t - a) W HXD.out
      have HLS := Lib.hid (lastS_ok HK.out).1
      have HWLN : Hid ((wdL L).length = n) := Lib.hid (by rw [wdL_length, HN.out])
      obtain ⟨nb, hnb1⟩ : ∃ b, nextB (wdL L) x.s = b := ⟨_, rfl⟩
      obtain ⟨mb, hmb1⟩ : ∃ b, memB x.k = b := ⟨_, rfl⟩
      obtain ⟨cb, hcb1⟩ : ∃ b, cmtB x.k x.N x.Z (n : Int) (t - a) = b := ⟨_, rfl⟩
      rw [hnb1] at HNXT
      rw [hmb1] at HMEM
      rw [hcb1] at HCMT
      have HNV := Lib.hid hnb1
      have HMV := Lib.hid hmb1
      have HCV := Lib.hid hcb1
      clear hl0 hl1 hnb1 hmb1 hcb1 hk' hs' hn' hz' HNX HDA HRT hta
      cases nb
      · replace HSTEP : Hid (bpF zs a seg = bpNo 3) := Lib.hid (by rw [HSTEP.out, if_pos (nextB_false HNV.out)])
        go_wp2_with (first
          | (go_at_call 23; refine HNXT.out.mono ?_; rintro e w3 ⟨rfl, rfl⟩))
        (try simp only [Exit.inBlock, Exit.then])
        refine bodyPost_ret (results_tmp4 rfl _ _ _) rfl ?_
        exact BpQ.no HSTEP.out HBW.out rfl
      · rw [if_neg (nextB_true HNV.out HLS.out)] at HSTEP
        cases mb
        · have HK5 := Lib.hid (memB_no HMV.out HKR.out.1)
          cases cb
          · replace HSTEP : Hid (bpF zs a seg = bpNo 3) := Lib.hid (by
              rw [HSTEP.out, if_neg ?_, if_pos HK5.out]
              rintro ⟨h1, h2, h3, h4⟩
              have h5 := of_decide_eq_false HCV.out
              refine h5 ⟨h1, ?_, by rw [h3, HWLN.out], h4⟩
              have h6 : 0 < (wdL L).length := List.length_pos_iff.2 h2
              rw [HWLN.out] at h6
              omega)
            go_wp2_with (first
              | (refine wpList_ld rfl _ _ rfl _ rfl _ (HR2.out.load HXD.out) ?_)
              | (refine wpList_ld rfl _ _ rfl _ rfl _ (HR4.out.load HXD.out) ?_)
              | (go_at_call 23; refine HNXT.out.mono ?_; rintro e w3 ⟨rfl, rfl⟩)
              | (go_at_call 24; refine (HMEM.out _).mono ?_; rintro e w4 ⟨rfl, hb4⟩; have HB4 := Lib.hid (below_step HBW.out hb4); have HR4 := Lib.hid (HR2.out.later hb4); clear hb4)
              | (go_at_call 26; refine (HCMT.out _).mono ?_; rintro e w5 ⟨rfl, hb5⟩; have HB5 := Lib.hid (below_step HB4.out hb5); clear hb5))
            (try simp only [Exit.inBlock, Exit.then])
            refine bodyPost_ret (results_tmp4 rfl _ _ _) rfl ?_
            exact BpQ.no HSTEP.out HB5.out rfl
          · have h5 := of_decide_eq_true HCV.out
            have hwn : wdL L ≠ [] := fun e => by
              have h6 := HWLN.out
              rw [e] at h6
              have := h5.2.1
              simp only [List.length_nil] at h6
              omega
            replace HSTEP : Hid (bpF zs a seg = ⟨wdL L, NX, x.s, 0⟩) := Lib.hid (by rw [HSTEP.out, if_pos ⟨h5.1, hwn, by rw [HWLN.out]; exact h5.2.2.1, h5.2.2.2⟩])
            clear hwn
            clear h5
            go_wp2_with (first
              | (refine wpList_ld rfl _ _ rfl _ rfl _ (HR2.out.load HXD.out) ?_)
              | (refine wpList_ld rfl _ _ rfl _ rfl _ (HR4.out.load HXD.out) ?_)
              | (go_at_call 23; refine HNXT.out.mono ?_; rintro e w3 ⟨rfl, rfl⟩)
              | (go_at_call 24; refine (HMEM.out _).mono ?_; rintro e w4 ⟨rfl, hb4⟩; have HB4 := Lib.hid (below_step HBW.out hb4); have HR4 := Lib.hid (HR2.out.later hb4); have HG4 := Lib.hid (HG2.out.later hb4); clear hb4)
              | (go_at_call 26; refine (HCMT.out _).mono ?_; rintro e w5 ⟨rfl, hb5⟩; have HB5 := Lib.hid (below_step HB4.out hb5); have HR5 := Lib.hid (HR4.out.later hb5); have HG5 := Lib.hid (HG4.out.later hb5); obtain ⟨_, f1, _, _, _, _⟩ := HR5.out.cells HXD.out; clear hb5))
            rw [Exit.noGoto_ret]
            refine bodyPost_ret (results_tmp4 rfl _ _ _) rfl ?_
            exact BpQ.of HSTEP.out _ n oc L HG5.out.gs rfl HK.out HO2.out.1 HO2.out.2.1 HO2.out.2.2 HB5.out rfl rfl rfl
        · obtain ⟨h6, h7⟩ := memB_is HMV.out
          replace HSTEP : Hid (bpF zs a seg = bpR zs seg a NX (wdL L ++ [wordN RC seg t (NX - t)])) := Lib.hid (by rw [HSTEP.out, if_neg (fun h => h6 h.1), if_neg h7])
          have hwq := wordQ_ok HF2.out hxn hseg ht (show -9223372036854775808 ≤ NX - t ∧ NX - t ≤ 9223372036854775807 by omega)
          have hwd := wordQ_wd HF2.out seg t (NX - t)
          rw [HR1.out] at hwd
          have HWX := Lib.hid fun W (hW : x.Fit W) => HWD.out x t (NX - t) W hW hxn
          have hsub : wrap64 (NX - t) = NX - t := by unfold wrap64; omega
          obtain ⟨Q, hQ⟩ : ∃ Q, wordQ x seg t (NX - t) = Q := ⟨_, rfl⟩
          rw [hQ] at hwq hwd HWX
          unfold Wq.v at HWX
          have HQO := Lib.hid hwq
          have HQW : Hid (wdL [(⟨Q, hwq.dg.1⟩ : Wx)] = [wordN RC seg t (NX - t)]) := Lib.hid (by show [Q.wd] = _; rw [hwd])
          have HNB : Hid (n + 1 ≤ 2097152) := Lib.hid hnb
          have HFIN : Hid ((((L ++ [(⟨Q, hwq.dg.1⟩ : Wx)]).length : Nat) : Int) * 21 ≤ NX - a ∧ 0 ≤ a ∧ a ≤ NX ∧ NX ≤ len ∧ t < NX) := Lib.hid (by have hh := HT0.out; rw [List.length_append, List.length_singleton, HN.out]; push_cast; omega)
          clear hQ hwd h6 h7
          go_wp2_with (first
            | (refine wpList_ld rfl _ _ rfl _ rfl _ (HR2.out.load HXD.out) ?_)
            | (refine wpList_ld rfl _ _ rfl _ rfl _ (HRD.out.load HXD.out) ?_)
            | (go_at_call 23; refine HNXT.out.mono ?_; rintro e w3 ⟨rfl, rfl⟩)
            | (go_at_call 24; refine (HMEM.out _).mono ?_; rintro e wd ⟨rfl, hbd⟩; have HBWD := Lib.hid (below_step HBW.out hbd); have HRD := Lib.hid (HR2.out.later hbd); have HFD := Lib.hid (HF2.out.later hbd); have HGD := Lib.hid (HG2.out.later hbd); clear hbd)
            | (go_at_call 25; refine (HWX.out _ HFD.out).mono ?_; rintro e w3 ⟨rfl, hb3⟩; have HB3 := Lib.hid hb3; have HBW3 := Lib.hid (below_step HBWD.out hb3); clear hb3; obtain ⟨w4, hw4⟩ : ∃ W, w3.alloc (.cells (mixC Q.a Q.dg Q.t) 47) = W := ⟨_, rfl⟩; have HW4 := Lib.hid hw4; have HN4 : Hid (Gs encWd w4 (some ⟨w3.heap.size, 0, none⟩) 1 [(⟨Q, hwq.dg.1⟩ : Wx)]) := Lib.hid (by rw [← hw4]; exact Gs.oneWd w3 ⟨Q, hwq.dg.1⟩); have HB34 : Hid (Below w3.heap.size w3 w4) := Lib.hid (by rw [← hw4]; exact (Below.refl _ _).alloc (Nat.le_refl _) _); have HG4 := Lib.hid ((HGD.out.later HB3.out).later HB34.out); have HBW4 := Lib.hid (below_step HBW3.out HB34.out); clear hw4)
            | (refine wpList_build_wd rfl _ _ rfl Try.underlying36 ⟨Q, hwq.dg.1⟩ rfl ?_; rw [HW4.out])
            | (refine wpList_append_gen encWd rfl _ _ 36 rfl Try.underlying36 wzero 96 infoWd wzero_size (by decide) w.heap.size _ L rfl HG4.out _ 1 1 [(⟨Q, hwq.dg.1⟩ : Wx)] rfl HN4.out (fun h => by cases h) (by rw [HN.out]; exact HNB.out) HBW4.out.size ?_; intro v5 w5 ho5 hg5; have HO5 := Lib.hid ho5; have HBW5 := Lib.hid (below_new_gw HBW4.out HG4.out hg5 HBW4.out.size); clear ho5 hg5))
          exact ⟨⟨NX, _, rfl, HO5, Lib.hid (by rw [HSTEP.out, wdL_append, HQW.out]), Lib.hid (fun y hy => by
            rcases List.mem_append.1 hy with h1 | h1
            · exact HK.out y h1
            · rw [List.mem_singleton] at h1
              subst h1
              exact HQO.out), fun hh => absurd hh (by simp), fun _ => ⟨HFIN.out.2.1, HFIN.out.2.2.1, HFIN.out.2.2.2.1⟩, HFIN.out.1, HBW5⟩, by have := HFIN.out; simp [Go.Lib.intOf]; omega⟩
    · have hne : (E != 0) = true := by simpa using hz
      rw [if_pos hz] at HSTEP
      go_wp2
      (try simp only [Exit.inBlock, Exit.then])
      refine bodyPost_ret (results_tmp4 rfl _ _ _) rfl ?_
      exact BpQ.no HSTEP.out HBW.out rfl
end Go.Proofs.Ytcjflabipkppfaa
