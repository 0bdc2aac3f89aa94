/- Layer 15, the reference: Parse; Layer 16, the reference: Scan; Layer 16, the laws: lives, SegmentEnds; Layer 16, the laws: SegmentEnds; Layer 16, the program: isFooter; Layer 16, the reference: Same (of scans that are the same); Layer 16, the reference: Scan (the walk); Layer 16, the laws: SegmentScans; Scans beside words in memory; what a scan of a first part finds; Layer 16, the laws: SegmentTor -/
import Derived.Test.YtjdigncieoaglaaSt4
import Derived.Test.YtjdigncieoaglaaSt11
import Derived.Test.YtjdigncieoaglaaSt16
import Derived.Test.YtjdigncieoaglaaSt24
import Derived.Test.YtjdigncieoaglaaSt28
import Derived.Test.YtjdigncieoaglaaSt29
set_option linter.unusedSimpArgs false
set_option linter.unusedVariables false
namespace Go.Proofs.Ytjdigncieoaglaa
set_option linter.unusedVariables false
open Go.RowKit Go.Lib

set_option maxRecDepth 100000 in
set_option maxHeartbeats 8000000 in
theorem rparse15_any (p : Option Addr) (len cap : Nat) (zs : List Int) (a seg : Int) (w : World) (h : Bs w p len zs) (hpc : p = none → cap = 0) (hlc : len ≤ cap) (hcm : cap ≤ maxLen) (hlen : len ≤ 2097216) (ha : -9223372036854775808 ≤ a ∧ a ≤ 9223372036854775807) (hseg : -9223372036854775808 ≤ seg ∧ seg ≤ 9223372036854775807) :
    Calls Try.prog 26 #[.slice p len cap, .int .i64 a, .int .i64 seg] w fun e w' => BpQ w zs a seg e w' := by
  have HZ := Lib.hid h
  have HBY := Lib.hid (show Byt zs from h.byte)
  have HLN := Lib.hid h.len
  have HST := Lib.hid (bpF_start h.byte a seg)
  have HCP := Lib.hid fun (t : Int) W (hW : Bs W p len zs) (ht : -9223372036854775808 ≤ t ∧ t ≤ 9223372036854775807) => rparse14_any p len cap zs t W hW hpc hlc hcm hlen ht
  have HWD := Lib.hid fun (x : Rq) (off l : Int) W (hx : x.Fit W) (hn : x.n ≤ 2097216) => rword_any x seg off l W hx (Nat.le_trans hn (by decide))
  unfold Rq.v locV at HWD
  clear h hpc hlc hcm
  go_enter Try.func26, Try.ntmps26
  go_wp2
  go_loopw [1, 10, 12] (fun av ov nv wr => ∃ (at_ : Int) (L : List Wx), av = .int .i64 at_ ∧ nv = .int .i64 (L.length : Int) ∧ Hid (Gw encWd wr w.heap.size ov L) ∧ Hid (bpF zs a seg = bpR zs seg a at_ (wdL L)) ∧ Hid (∀ x ∈ L, x.1.Ok) ∧ (L = [] → at_ = a) ∧ (L ≠ [] → 0 ≤ a ∧ a ≤ at_ ∧ at_ ≤ len) ∧ (L.length : Int) * 21 ≤ at_ - a ∧ Hid (Below w.heap.size w wr)) (fun av _ _ _ => ((len : Int) - intOf av).toNat)
  case atStart => exact ⟨a, [], rfl, by simp, Lib.hid (Gw.nil _ _ _), HST, Lib.hid (fun x hx => by cases hx), fun _ => rfl, fun h => absurd rfl h, by simp, Lib.hid (Below.refl _ _)⟩
  case round =>
    obtain ⟨t, L, rfl, rfl, HG, HS, HK, hl0, hl1, hl2, HB⟩ := hrel
    have ht : -9223372036854775808 ≤ t ∧ t ≤ 9223372036854775807 := by
      by_cases hL : L = []
      · rw [hl0 hL]; exact ha
      · have := hl1 hL; omega
    have HRP := Lib.hid (HCP.out t wr (HZ.out.later HB.out) ht)
    have HSTEP := Lib.hid (bpR_step HBY.out seg a t (wdL L))
    rw [← HS.out] at HSTEP
    have HNX := Lib.hid fun h0 => rp_next HBY.out (a := t) h0
    rw [HLN.out] at HNX
    have HDA := Lib.hid fun h0 => rpR_da HBY.out (a := t) h0
    rw [HLN.out] at HDA
    unfold RpQ at HRP
    obtain ⟨E, hE⟩ : ∃ E, rpE zs t = E := ⟨_, rfl⟩
    obtain ⟨NX, hNX⟩ : ∃ N, rpN zs t = N := ⟨_, rfl⟩
    obtain ⟨RC, hRC⟩ : ∃ r, rpR zs t = r := ⟨_, rfl⟩
    rw [hE, hNX, hRC] at HSTEP
    rw [hE, hNX, hRC] at HRP
    rw [hE, hNX] at HNX
    rw [hE, hRC] at HDA
    clear hE hNX hRC
    obtain ⟨oq, oc, hov, hlc2, hcm2, hgs2, hpc2⟩ := HG.out.open
    subst hov
    have HO2 := Lib.hid (And.intro hlc2 (And.intro hcm2 hpc2))
    have HGS := Lib.hid hgs2
    obtain ⟨n, hn⟩ : ∃ n, L.length = n := ⟨_, rfl⟩
    rw [hn] at HG HGS HO2 hl2 ⊢
    have HN := Lib.hid hn
    clear hlc2 hcm2 hpc2 hgs2 hn
    have hcn : (n : Int) ≤ (len : Int) := by
      by_cases hL : L = []
      · have h9 := HN.out
        rw [hL] at h9
        simp only [List.length_nil] at h9
        omega
      · have := hl1 hL; omega
    go_upto_region 7 with (first
      | (go_at_call 16; refine HRP.out.mono ?_; rintro e w1 ⟨x, rfl, hf1, hr1, hb1⟩; have HF1 := Lib.hid hf1; have HR1 := Lib.hid hr1; have HB1 := Lib.hid hb1; clear hf1 hr1 hb1)
      | (refine wpList_store_row rfl 29 _ _ rfl w1.heap.size _ rfl rfl 29 _ (heap_alloc_new _ _) (Rq.sizeOf x HF1.out.dg.1) (Rq.sizes rq0 x rfl HF1.out.dg.1) x.one ?_; generalize hw2 : World.setRow _ _ _ = w2))
    have HR2 : Hid (Rm w2 w1.heap.size x) := Lib.hid (by rw [← hw2]; exact Mx.row (show Rm (w1.alloc (.cells (mixC rq0.a rq0.dg rq0.z) 29)) w1.heap.size rq0 from heap_alloc_new _ _))
    have HB12 : Hid (Below w1.heap.size w1 w2) := Lib.hid (by rw [← hw2]; exact below_setRow8 ((Below.refl _ _).alloc (Nat.le_refl _) _) _ _ (Nat.le_refl _))
    have HB2 : Hid (Below wr.heap.size wr w2) := Lib.hid (below_step HB1.out HB12.out)
    have HBW : Hid (Below w.heap.size w w2) := Lib.hid (below_step HB.out HB2.out)
    have HG2 := Lib.hid (HG.out.later HB2.out)
    have HF2 := Lib.hid (HF1.out.later HB12.out)
    clear hw2
    by_cases hz : E = 0
    · subst hz
      rw [if_neg (by simp)] at HSTEP
      obtain ⟨hx0, hx1, hx2⟩ := HNX.out rfl
      obtain ⟨e0, e1, _, _, e36, e37⟩ := HR2.out.cells HF2.out.dg.1
      have hks : RC.k = x.k ∧ RC.s = x.s ∧ RC.n = x.N ∧ RC.z = x.Z := by rw [← HR1.out]; exact ⟨rfl, rfl, rfl, rfl⟩
      obtain ⟨hk', hs', hn', hz'⟩ := hks
      rw [hk', hs', hn', hz'] at HSTEP
      have hxs := HF2.out.s
      have hxn : x.n ≤ 2097216 := by
        have h1 := HF2.out.bs.len
        have h2 := HDA.out rfl
        have h3 : RC.da = x.da := by rw [← HR1.out]; rfl
        rw [h3, h1] at h2
        omega
      by_cases h0 : n = 0
      · have hLe : L = [] := List.length_eq_zero_iff.1 (by rw [HN.out]; exact h0)
        have HWL : Hid (wdL L = []) := Lib.hid (by rw [hLe]; rfl)
        have HT0 : Hid (0 ≤ a ∧ a ≤ t) := Lib.hid (by have hta := hl0 hLe; omega)
        have hgt : ¬ ((n : Int) > 0) := by omega
        have hg1 : decide ((n : Int) > 0) = false := decide_eq_false hgt
        have hg2 : decide (0 < (n : Int)) = false := decide_eq_false hgt
        have hg3 : decide (0 < n) = false := decide_eq_false (by omega)
        have hg4 : ¬ (0 < n) := by omega
        have H0 := Lib.hid h0
        clear hl0 hl1 hLe h0
        by_cases h5 : x.k > 5
        · skip
          replace HSTEP : Hid (bpF zs a seg = bpNo 3) := Lib.hid (by rw [HSTEP.out, HWL.out, if_neg (by simp), if_neg (by simp), if_pos h5])
          go_upto_region 9 with fail
          go_quiet (fail)
          have hBD : Below w2.heap.size w2 (w2.drewN nq) := below_drewN (Below.refl _ _) _
          generalize w2.drewN nq = wd at *
          have HBD := Lib.hid hBD
          have HRD := Lib.hid (HR2.out.later hBD)
          have HFD := Lib.hid (HF2.out.later hBD)
          have HGD := Lib.hid (HG2.out.later hBD)
          have HBWD := Lib.hid (below_step HBW.out hBD)
          clear hBD
          obtain ⟨e0, e1, _, _, e36, e37⟩ := HRD.out.cells HFD.out.dg.1
          go_wp2
          all_goals (try simp only [Exit.inBlock, Exit.then])
          all_goals (refine bodyPost_ret (results_tmp4 rfl _ _ _) rfl ?_)
          all_goals (exact BpQ.no HSTEP.out HBWD.out rfl)
        · skip
          replace HSTEP : Hid (bpF zs a seg = bpR zs seg a NX (wdL L ++ [wordN RC seg t (NX - t)])) := Lib.hid (by rw [HSTEP.out, HWL.out, if_neg (by simp), if_neg (by simp), if_neg h5])
          have hwq := wordQ_ok HF2.out hxn hseg ht (show -9223372036854775808 ≤ NX - t ∧ NX - t ≤ 9223372036854775807 by omega)
          have hwd := wordQ_wd HF2.out seg t (NX - t)
          rw [HR1.out] at hwd
          have HWX := Lib.hid fun W (hW : x.Fit W) => HWD.out x t (NX - t) W hW hxn
          have hsub : wrap64 (NX - t) = NX - t := by unfold wrap64; omega
          obtain ⟨Q, hQ⟩ : ∃ Q, wordQ x seg t (NX - t) = Q := ⟨_, rfl⟩
          rw [hQ] at hwq hwd HWX
          unfold Wq.v at HWX
          have HQO := Lib.hid hwq
          have hk6 : (x.k == 6) = false := by simp; omega
          have HQW : Hid (wdL [(⟨Q, hwq.dg.1⟩ : Wx)] = [wordN RC seg t (NX - t)]) := Lib.hid (by show [Q.wd] = _; rw [hwd])
          have HLEN : (Value.int .i64 ((n : Int) + 1)) = .int .i64 (((L ++ [(⟨Q, hwq.dg.1⟩ : Wx)]).length : Nat) : Int) := by rw [List.length_append, List.length_singleton, HN.out]; push_cast; rfl
          have HNB : Hid (n + 1 ≤ 2097216) := Lib.hid (by omega)
          have HFIN : Hid ((((L ++ [(⟨Q, hwq.dg.1⟩ : Wx)]).length : Nat) : Int) * 21 ≤ NX - a ∧ 0 ≤ a ∧ a ≤ NX ∧ NX ≤ len ∧ t < NX) := Lib.hid (by have hh := HT0.out; (try have hh0 := H0.out); rw [List.length_append, List.length_singleton, HN.out]; push_cast; omega)
          clear hQ hwd
          go_upto_region 9 with fail
          go_quiet (fail)
          have hBD : Below w2.heap.size w2 (w2.drewN nq) := below_drewN (Below.refl _ _) _
          generalize w2.drewN nq = wd at *
          have HBD := Lib.hid hBD
          have HRD := Lib.hid (HR2.out.later hBD)
          have HFD := Lib.hid (HF2.out.later hBD)
          have HGD := Lib.hid (HG2.out.later hBD)
          have HBWD := Lib.hid (below_step HBW.out hBD)
          clear hBD
          obtain ⟨e0, e1, _, _, e36, e37⟩ := HRD.out.cells HFD.out.dg.1
          go_wp2_with (first
            | (refine wpList_ld rfl _ _ rfl _ rfl _ (HRD.out.load HFD.out.dg.1) ?_)
            | (go_at_call 40; refine (HWX.out _ HFD.out).mono ?_; rintro e w3 ⟨rfl, hb3⟩; have HB3 := Lib.hid hb3; have HBW3 := Lib.hid (below_step HBWD.out hb3); clear hb3; obtain ⟨w4, hw4⟩ : ∃ W, w3.alloc (.cells (mixC Q.a Q.dg Q.t) 50) = W := ⟨_, rfl⟩; have HW4 := Lib.hid hw4; have HN4 : Hid (Gs encWd w4 (some ⟨w3.heap.size, 0, none⟩) 1 [(⟨Q, hwq.dg.1⟩ : Wx)]) := Lib.hid (by rw [← hw4]; exact Gs.oneWd w3 ⟨Q, hwq.dg.1⟩); have HB34 : Hid (Below w3.heap.size w3 w4) := Lib.hid (by rw [← hw4]; exact (Below.refl _ _).alloc (Nat.le_refl _) _); have HG4 := Lib.hid ((HGD.out.later HB3.out).later HB34.out); have HBW4 := Lib.hid (below_step HBW3.out HB34.out); clear hw4)
            | (refine wpList_build_wd rfl _ _ rfl Try.underlying36 ⟨Q, hwq.dg.1⟩ rfl ?_; rw [HW4.out])
            | (refine wpList_append_gen encWd rfl _ _ 36 rfl Try.underlying36 wzero 96 infoWd wzero_size (by decide) w.heap.size _ L rfl HG4.out _ 1 1 [(⟨Q, hwq.dg.1⟩ : Wx)] rfl HN4.out (fun h => by cases h) (by rw [HN.out]; exact HNB.out) HBW4.out.size ?_; intro v5 w5 ho5 hg5; have HO5 := Lib.hid ho5; have HBW5 := Lib.hid (below_new_gw HBW4.out HG4.out hg5 HBW4.out.size); clear ho5 hg5))
          exact ⟨⟨NX, _, rfl, HLEN, HO5, Lib.hid (by rw [HSTEP.out, wdL_append, HQW.out]), Lib.hid (fun y hy => by
              rcases List.mem_append.1 hy with h1 | h1
              · exact HK.out y h1
              · rw [List.mem_singleton] at h1
                subst h1
                exact HQO.out), fun hh => absurd hh (by simp), fun _ => ⟨HFIN.out.2.1, HFIN.out.2.2.1, HFIN.out.2.2.2.1⟩, HFIN.out.1, HBW5⟩, by have := HFIN.out; simp [intOf]; omega⟩
      · have hLne : L ≠ [] := fun hh => h0 (by rw [← HN.out, hh]; rfl)
        have HWL : Hid (wdL L ≠ []) := Lib.hid fun hh => hLne (List.map_eq_nil_iff.1 hh)
        have HWLN : Hid ((wdL L).length = n) := Lib.hid (by rw [wdL_length, HN.out])
        have hgt : (n : Int) > 0 := by omega
        have hg1 : decide ((n : Int) > 0) = true := decide_eq_true hgt
        have hg2 : decide (0 < (n : Int)) = true := decide_eq_true hgt
        have hg3 : decide (0 < n) = true := decide_eq_true (by omega)
        have hg4 : 0 < n := by omega
        obtain ⟨m, hm⟩ : ∃ m, n = m + 1 := ⟨n - 1, by omega⟩
        have hix : (n : Int) - 1 = (m : Int) := by omega
        have hmn : (m : Int) < (n : Int) := by omega
        obtain ⟨g, c', hv, hcl⟩ := HG2.out.lastS hLne
        simp only [Value.slice.injEq] at hv
        obtain ⟨rfl, hv1, hv2⟩ := hv
        clear hv1 hv2
        rw [HN.out, show n - 1 = m by omega] at hcl
        obtain ⟨LS, hLS⟩ : ∃ z, lastS (wdL L) = z := ⟨_, rfl⟩
        rw [hLS] at hcl HSTEP
        obtain ⟨hla, hlb, hlc⟩ := hl1 hLne
        have HT0 : Hid (0 ≤ a ∧ a ≤ t) := Lib.hid ⟨hla, hlb⟩
        clear hm hLS hLne hl0 hl1 h0
        by_cases hb1 : x.s < 1
        · have hs0 : (x.s == 0) = true := by simp; omega
          replace HSTEP : Hid (bpF zs a seg = bpNo 3) := Lib.hid (by rw [HSTEP.out, if_pos ⟨HWL.out, Or.inl hb1⟩])
          go_upto_region 9 with fail
          go_quiet (fail)
          have hBD : Below w2.heap.size w2 (w2.drewN nq) := below_drewN (Below.refl _ _) _
          generalize w2.drewN nq = wd at *
          have HBD := Lib.hid hBD
          have HRD := Lib.hid (HR2.out.later hBD)
          have HFD := Lib.hid (HF2.out.later hBD)
          have HGD := Lib.hid (HG2.out.later hBD)
          have HBWD := Lib.hid (below_step HBW.out hBD)
          clear hBD
          obtain ⟨e0, e1, _, _, e36, e37⟩ := HRD.out.cells HFD.out.dg.1
          go_wp2
          all_goals (try simp only [Exit.inBlock, Exit.then])
          all_goals (refine bodyPost_ret (results_tmp4 rfl _ _ _) rfl ?_)
          all_goals (exact BpQ.no HSTEP.out HBWD.out rfl)
        have hs0 : (x.s == 0) = false := by simp; omega
        obtain ⟨A, hA⟩ : ∃ A, IntKind.u64.wrap (x.s - 1) = A := ⟨_, rfl⟩
        have HAE : Hid (A = x.s - 1) := Lib.hid (by rw [← hA]; exact wrap_u64_in (by omega) (by omega))
        by_cases hb2 : x.s - 1 ≠ LS
        · have hs1 : (A != LS) = true := by rw [HAE.out]; simpa using hb2
          replace HSTEP : Hid (bpF zs a seg = bpNo 3) := Lib.hid (by rw [HSTEP.out, if_pos ⟨HWL.out, Or.inr hb2⟩])
          go_upto_region 9 with fail
          go_quiet (fail)
          have hBD : Below w2.heap.size w2 (w2.drewN nq) := below_drewN (Below.refl _ _) _
          generalize w2.drewN nq = wd at *
          have HBD := Lib.hid hBD
          have HRD := Lib.hid (HR2.out.later hBD)
          have HFD := Lib.hid (HF2.out.later hBD)
          have HGD := Lib.hid (HG2.out.later hBD)
          have HBWD := Lib.hid (below_step HBW.out hBD)
          clear hBD
          obtain ⟨e0, e1, _, _, e36, e37⟩ := HRD.out.cells HFD.out.dg.1
          go_wp2
          all_goals (try simp only [Exit.inBlock, Exit.then])
          all_goals (refine bodyPost_ret (results_tmp4 rfl _ _ _) rfl ?_)
          all_goals (exact BpQ.no HSTEP.out HBWD.out rfl)
        have hs1 : (A != LS) = false := by rw [HAE.out]; simpa using hb2
        have HC1 : Hid (¬ (wdL L ≠ [] ∧ (x.s < 1 ∨ x.s - 1 ≠ LS))) := Lib.hid (by rintro ⟨_, h | h⟩; exact hb1 h; exact hb2 h)
        clear hb2
        by_cases h6 : x.k = 6
        · have hk6 : (x.k == 6) = true := by simpa using h6
          by_cases hN : x.N = (n : Int)
          · have hkN : (x.N == (n : Int)) = true := by simpa using hN
            have hsb : wrap64 (t - a) = t - a := by unfold wrap64; omega
            obtain ⟨D, hD⟩ : ∃ D, t - a = D := ⟨_, rfl⟩
            by_cases hZ : x.Z = D
            · have hkZ : (x.Z == D) = true := by simpa using hZ
              replace HSTEP : Hid (bpF zs a seg = ⟨wdL L, NX, x.s, 0⟩) := Lib.hid (by rw [HSTEP.out, if_neg HC1.out, if_pos ⟨h6, HWL.out, by rw [hN, HWLN.out], hZ.trans hD.symm⟩])
              go_upto_region 9 with fail
              go_quiet (fail)
              have hBD : Below w2.heap.size w2 (w2.drewN nq) := below_drewN (Below.refl _ _) _
              generalize w2.drewN nq = wd at *
              have HBD := Lib.hid hBD
              have HRD := Lib.hid (HR2.out.later hBD)
              have HFD := Lib.hid (HF2.out.later hBD)
              have HGD := Lib.hid (HG2.out.later hBD)
              have HBWD := Lib.hid (below_step HBW.out hBD)
              clear hBD
              obtain ⟨e0, e1, _, _, e36, e37⟩ := HRD.out.cells HFD.out.dg.1
              go_upto_region 12 with fail
              go_quiet (fail)
              have hBE : Below wd.heap.size wd (wd.drewN nq) := below_drewN (Below.refl _ _) _
              generalize wd.drewN nq = we at *
              have HGE := Lib.hid (HGD.out.later hBE)
              have HBWE := Lib.hid (below_step HBWD.out hBE)
              clear hBE
              go_wp2
              all_goals (try simp only [Exit.inBlock, Exit.then])
              all_goals (refine bodyPost_ret (results_tmp4 rfl _ _ _) rfl ?_)
              all_goals (exact BpQ.of HSTEP.out _ n oc L HGE.out.gs rfl HK.out HO2.out.1 HO2.out.2.1 HO2.out.2.2 HBWE.out rfl rfl rfl)
            · have hkZ : (x.Z == D) = false := by simpa using hZ
              replace HSTEP : Hid (bpF zs a seg = bpNo 3) := Lib.hid (by rw [HSTEP.out, if_neg HC1.out, if_neg (fun h => hZ (h.2.2.2.trans hD)), if_pos (by omega)])
              go_upto_region 9 with fail
              go_quiet (fail)
              have hBD : Below w2.heap.size w2 (w2.drewN nq) := below_drewN (Below.refl _ _) _
              generalize w2.drewN nq = wd at *
              have HBD := Lib.hid hBD
              have HRD := Lib.hid (HR2.out.later hBD)
              have HFD := Lib.hid (HF2.out.later hBD)
              have HGD := Lib.hid (HG2.out.later hBD)
              have HBWD := Lib.hid (below_step HBW.out hBD)
              clear hBD
              obtain ⟨e0, e1, _, _, e36, e37⟩ := HRD.out.cells HFD.out.dg.1
              go_wp2
              all_goals (try simp only [Exit.inBlock, Exit.then])
              all_goals (refine bodyPost_ret (results_tmp4 rfl _ _ _) rfl ?_)
              all_goals (exact BpQ.no HSTEP.out HBWD.out rfl)
          · have hkN : (x.N == (n : Int)) = false := by simpa using hN
            replace HSTEP : Hid (bpF zs a seg = bpNo 3) := Lib.hid (by rw [HSTEP.out, if_neg HC1.out, if_neg (fun h => hN (by rw [h.2.2.1, HWLN.out])), if_pos (by omega)])
            go_upto_region 9 with fail
            go_quiet (fail)
            have hBD : Below w2.heap.size w2 (w2.drewN nq) := below_drewN (Below.refl _ _) _
            generalize w2.drewN nq = wd at *
            have HBD := Lib.hid hBD
            have HRD := Lib.hid (HR2.out.later hBD)
            have HFD := Lib.hid (HF2.out.later hBD)
            have HGD := Lib.hid (HG2.out.later hBD)
            have HBWD := Lib.hid (below_step HBW.out hBD)
            clear hBD
            obtain ⟨e0, e1, _, _, e36, e37⟩ := HRD.out.cells HFD.out.dg.1
            go_wp2
            all_goals (try simp only [Exit.inBlock, Exit.then])
            all_goals (refine bodyPost_ret (results_tmp4 rfl _ _ _) rfl ?_)
            all_goals (exact BpQ.no HSTEP.out HBWD.out rfl)
        · by_cases h5 : x.k > 5
          · have hk6 : (x.k == 6) = false := by simpa using h6
            replace HSTEP : Hid (bpF zs a seg = bpNo 3) := Lib.hid (by rw [HSTEP.out, if_neg HC1.out, if_neg (fun h => h6 h.1), if_pos h5])
            go_upto_region 9 with fail
            go_quiet (fail)
            have hBD : Below w2.heap.size w2 (w2.drewN nq) := below_drewN (Below.refl _ _) _
            generalize w2.drewN nq = wd at *
            have HBD := Lib.hid hBD
            have HRD := Lib.hid (HR2.out.later hBD)
            have HFD := Lib.hid (HF2.out.later hBD)
            have HGD := Lib.hid (HG2.out.later hBD)
            have HBWD := Lib.hid (below_step HBW.out hBD)
            clear hBD
            obtain ⟨e0, e1, _, _, e36, e37⟩ := HRD.out.cells HFD.out.dg.1
            go_wp2
            all_goals (try simp only [Exit.inBlock, Exit.then])
            all_goals (refine bodyPost_ret (results_tmp4 rfl _ _ _) rfl ?_)
            all_goals (exact BpQ.no HSTEP.out HBWD.out rfl)
          · skip
            replace HSTEP : Hid (bpF zs a seg = bpR zs seg a NX (wdL L ++ [wordN RC seg t (NX - t)])) := Lib.hid (by rw [HSTEP.out, if_neg HC1.out, if_neg (fun h => h6 h.1), if_neg h5])
            have hwq := wordQ_ok HF2.out hxn hseg ht (show -9223372036854775808 ≤ NX - t ∧ NX - t ≤ 9223372036854775807 by omega)
            have hwd := wordQ_wd HF2.out seg t (NX - t)
            rw [HR1.out] at hwd
            have HWX := Lib.hid fun W (hW : x.Fit W) => HWD.out x t (NX - t) W hW hxn
            have hsub : wrap64 (NX - t) = NX - t := by unfold wrap64; omega
            obtain ⟨Q, hQ⟩ : ∃ Q, wordQ x seg t (NX - t) = Q := ⟨_, rfl⟩
            rw [hQ] at hwq hwd HWX
            unfold Wq.v at HWX
            have HQO := Lib.hid hwq
            have hk6 : (x.k == 6) = false := by simp; omega
            have HQW : Hid (wdL [(⟨Q, hwq.dg.1⟩ : Wx)] = [wordN RC seg t (NX - t)]) := Lib.hid (by show [Q.wd] = _; rw [hwd])
            have HLEN : (Value.int .i64 ((n : Int) + 1)) = .int .i64 (((L ++ [(⟨Q, hwq.dg.1⟩ : Wx)]).length : Nat) : Int) := by rw [List.length_append, List.length_singleton, HN.out]; push_cast; rfl
            have HNB : Hid (n + 1 ≤ 2097216) := Lib.hid (by omega)
            have HFIN : Hid ((((L ++ [(⟨Q, hwq.dg.1⟩ : Wx)]).length : Nat) : Int) * 21 ≤ NX - a ∧ 0 ≤ a ∧ a ≤ NX ∧ NX ≤ len ∧ t < NX) := Lib.hid (by have hh := HT0.out; (try have hh0 := H0.out); rw [List.length_append, List.length_singleton, HN.out]; push_cast; omega)
            clear hQ hwd
            go_upto_region 9 with fail
            go_quiet (fail)
            have hBD : Below w2.heap.size w2 (w2.drewN nq) := below_drewN (Below.refl _ _) _
            generalize w2.drewN nq = wd at *
            have HBD := Lib.hid hBD
            have HRD := Lib.hid (HR2.out.later hBD)
            have HFD := Lib.hid (HF2.out.later hBD)
            have HGD := Lib.hid (HG2.out.later hBD)
            have HBWD := Lib.hid (below_step HBW.out hBD)
            clear hBD
            obtain ⟨e0, e1, _, _, e36, e37⟩ := HRD.out.cells HFD.out.dg.1
            go_wp2_with (first
              | (refine wpList_ld rfl _ _ rfl _ rfl _ (HRD.out.load HFD.out.dg.1) ?_)
              | (go_at_call 40; refine (HWX.out _ HFD.out).mono ?_; rintro e w3 ⟨rfl, hb3⟩; have HB3 := Lib.hid hb3; have HBW3 := Lib.hid (below_step HBWD.out hb3); clear hb3; obtain ⟨w4, hw4⟩ : ∃ W, w3.alloc (.cells (mixC Q.a Q.dg Q.t) 50) = W := ⟨_, rfl⟩; have HW4 := Lib.hid hw4; have HN4 : Hid (Gs encWd w4 (some ⟨w3.heap.size, 0, none⟩) 1 [(⟨Q, hwq.dg.1⟩ : Wx)]) := Lib.hid (by rw [← hw4]; exact Gs.oneWd w3 ⟨Q, hwq.dg.1⟩); have HB34 : Hid (Below w3.heap.size w3 w4) := Lib.hid (by rw [← hw4]; exact (Below.refl _ _).alloc (Nat.le_refl _) _); have HG4 := Lib.hid ((HGD.out.later HB3.out).later HB34.out); have HBW4 := Lib.hid (below_step HBW3.out HB34.out); clear hw4)
              | (refine wpList_build_wd rfl _ _ rfl Try.underlying36 ⟨Q, hwq.dg.1⟩ rfl ?_; rw [HW4.out])
              | (refine wpList_append_gen encWd rfl _ _ 36 rfl Try.underlying36 wzero 96 infoWd wzero_size (by decide) w.heap.size _ L rfl HG4.out _ 1 1 [(⟨Q, hwq.dg.1⟩ : Wx)] rfl HN4.out (fun h => by cases h) (by rw [HN.out]; exact HNB.out) HBW4.out.size ?_; intro v5 w5 ho5 hg5; have HO5 := Lib.hid ho5; have HBW5 := Lib.hid (below_new_gw HBW4.out HG4.out hg5 HBW4.out.size); clear ho5 hg5))
            exact ⟨⟨NX, _, rfl, HLEN, HO5, Lib.hid (by rw [HSTEP.out, wdL_append, HQW.out]), Lib.hid (fun y hy => by
                rcases List.mem_append.1 hy with h1 | h1
                · exact HK.out y h1
                · rw [List.mem_singleton] at h1
                  subst h1
                  exact HQO.out), fun hh => absurd hh (by simp), fun _ => ⟨HFIN.out.2.1, HFIN.out.2.2.1, HFIN.out.2.2.2.1⟩, HFIN.out.1, HBW5⟩, by have := HFIN.out; simp [intOf]; omega⟩
    · have hne : (E != 0) = true := by simpa using hz
      rw [if_pos hz] at HSTEP
      go_wp2
      (try simp only [Exit.inBlock, Exit.then])
      refine bodyPost_ret (results_tmp4 rfl _ _ _) rfl ?_
      exact BpQ.no HSTEP.out HBW.out rfl
end Go.Proofs.Ytjdigncieoaglaa

namespace Go.Proofs.Ytjdigncieoaglaa
set_option linter.unusedVariables false
open Go.RowKit Go.Lib

/-- block b holds a scan -/
def Sm (w : World) (b : Nat) (v : Value) (s e : Int) (sl : Bool) (a err : Int) : Prop := w.heap[b]? = some (.cells #[v, .int .u64 s, .int .i64 e, .bool sl, .int .i64 a, .int .i64 err] 39 (0, 0))
section
variable {w w' : World} {b : Nat} {v : Value} {s e a err : Int} {sl : Bool}
theorem Sm.lt (h : Sm w b v s e sl a err) : b < w.heap.size := (Array.getElem?_eq_some_iff.1 h).1
theorem Sm.keep (h : Sm w b v s e sl a err) (k : w'.heap[b]? = w.heap[b]?) : Sm w' b v s e sl a err := k.trans h
theorem Sm.later (h : Sm w b v s e sl a err) (hb : Below w.heap.size w w') : Sm w' b v s e sl a err := h.keep (hb.block b h.lt)
theorem Sm.cells (h : Sm w b v s e sl a err) : w.cell? ⟨b, 0, none⟩ = some v ∧ w.cell? ⟨b, 1, none⟩ = some (.int .u64 s) ∧ w.cell? ⟨b, 2, none⟩ = some (.int .i64 e) ∧ w.cell? ⟨b, 3, none⟩ = some (.bool sl) ∧ w.cell? ⟨b, 4, none⟩ = some (.int .i64 a) ∧ w.cell? ⟨b, 5, none⟩ = some (.int .i64 err) :=
  ⟨cell_of_row w b 0 _ _ _ h, cell_of_row w b 1 _ _ _ h, cell_of_row w b 2 _ _ _ h, cell_of_row w b 3 _ _ _ h, cell_of_row w b 4 _ _ _ h, cell_of_row w b 5 _ _ _ h⟩
theorem Sm.frozen (h : Sm w b v s e sl a err) (j : Nat) : w.frozen? ⟨b, j, none⟩ = false := frozen_of_row w b j _ _ h
theorem Sm.setV (h : Sm w b v s e sl a err) (u : Value) : Sm (w.setCell ⟨b, 0, none⟩ u) b u s e sl a err := heap_setCell_same w b 0 _ _ u h
theorem Sm.setS (h : Sm w b v s e sl a err) (x : Int) : Sm (w.setCell ⟨b, 1, none⟩ (.int .u64 x)) b v x e sl a err := heap_setCell_same w b 1 _ _ _ h
theorem Sm.setE (h : Sm w b v s e sl a err) (x : Int) : Sm (w.setCell ⟨b, 2, none⟩ (.int .i64 x)) b v s x sl a err := heap_setCell_same w b 2 _ _ _ h
theorem Sm.setL (h : Sm w b v s e sl a err) (x : Bool) : Sm (w.setCell ⟨b, 3, none⟩ (.bool x)) b v s e x a err := heap_setCell_same w b 3 _ _ _ h
theorem Sm.setA (h : Sm w b v s e sl a err) (x : Int) : Sm (w.setCell ⟨b, 4, none⟩ (.int .i64 x)) b v s e sl x err := heap_setCell_same w b 4 _ _ _ h
theorem Sm.setR (h : Sm w b v s e sl a err) (x : Int) : Sm (w.setCell ⟨b, 5, none⟩ (.int .i64 x)) b v s e sl a x := heap_setCell_same w b 5 _ _ _ h
theorem Sm.other (h : Sm w b v s e sl a err) (x : Addr) (u : Value) (hne : b ≠ x.block) : Sm (w.setCell x u) b v s e sl a err := h.keep (heap_setCell_other w x b u hne)
/-- a row outlives what is done to a scan -/
theorem Gw.bySm {α : Type} {E : Ec α} {B : Nat} {u : Value} {L : List α} (h : Gw E w B u L) (hs : Sm w b v s e sl a err) (ht : E.t ≠ 39) (x : Addr) (hx : x.block = b) (y : Value) : Gw E (w.setCell x y) B u L := by
  obtain ⟨hl, h2⟩ := h
  refine ⟨hl, ?_⟩
  rcases h2 with h2 | ⟨g, cap, cur, hv, hB, hg, r⟩
  · exact Or.inl h2
  · refine Or.inr ⟨g, cap, cur, hv, hB, ?_, r⟩
    rw [heap_setCell_other w x g y]
    · exact hg
    · intro e0
      rw [e0, hx] at hg
      have h3 : w.heap[b]? = some (.cells #[v, .int .u64 s, .int .i64 e, .bool sl, .int .i64 a, .int .i64 err] 39 (0, 0)) := hs
      rw [h3] at hg
      simp only [Option.some.injEq, Obj.cells.injEq] at hg
      exact ht hg.2.1.symm
/-- .. and a scan what is done to a row -/
theorem Sm.byGw {α : Type} {E : Ec α} {B : Nat} {u : Value} {L : List α} (hs : Sm w b v s e sl a err) (h : Gw E w B u L) (ht : E.t ≠ 39) (hg : w.grownBy w' u.ownBlock) : Sm w' b v s e sl a err := by
  refine hs.keep (hg.block b hs.lt ?_)
  intro e0
  rcases h.2 with ⟨rfl, _⟩ | ⟨g, cap, cur, rfl, _, hg1, _⟩
  · simp [Value.ownBlock] at e0
  · simp only [Value.ownBlock, Option.some.injEq] at e0
    subst e0
    have h3 : w.heap[b]? = some (.cells #[v, .int .u64 s, .int .i64 e, .bool sl, .int .i64 a, .int .i64 err] 39 (0, 0)) := hs
    rw [h3] at hg1
    simp only [Option.some.injEq, Obj.cells.injEq] at hg1
    exact ht hg1.2.1.symm
end
def scanC (v : Value) (s e : Int) (sl : Bool) (a err : Int) : Array Value := #[v, .int .u64 s, .int .i64 e, .bool sl, .int .i64 a, .int .i64 err]
theorem size6 : (Try.prog.info? 39).map (·.size) = some 6 := by kernel_rfl
theorem scanC_one {q : Option Addr} {m c : Nat} {s e a err : Int} {sl : Bool} : (scanC (.slice q m c) s e sl a err).all (·.oneCell') = true := by simp [scanC, Value.oneCell']
theorem Sm.load {w : World} {b : Nat} {v : Value} {s e a err : Int} {sl : Bool} (h : Sm w b v s e sl a err) : (Instr.loadAt 39 (.pointer (some ⟨b, 0, none⟩))).run Try.prog w = .ok (.agg (scanC v s e sl a err)) w := by
  refine run_loadAt_mid w b 0 39 [v, .int .u64 s, .int .i64 e, .bool sl, .int .i64 a, .int .i64 err] _ ?_ Try.underlying39 rfl size6
  intro k u hu
  rw [Nat.zero_add, cell_of_row w b k _ _ _ h]
  simpa using hu
theorem Sm.row {w : World} {b : Nat} {v u : Value} {s e a err s' e' a' err' : Int} {sl sl' : Bool} (h : Sm w b v s e sl a err) : Sm (w.setRow b (scanC u s' e' sl' a' err')) b u s' e' sl' a' err' := setRow_heap w b _ _ _ _ h
theorem Sm.res1 {fn : Func} {p : Tmp} {w : World} {g : Nat} {v : Value} {s e a err : Int} {sl : Bool} (h : Sm w g v s e sl a err) (hr : fn.results = #[.cell p 39]) (tmps : Array Value)
    (hp : tmps.getD p undef = .pointer (some ⟨g, 0, none⟩)) : (Go.results fn tmps).run Try.prog w = .ok (.agg (scanC v s e sl a err)) w :=
  results_cell_row hr tmps w g _ _ _ _ hp h Try.underlying39 rfl size6
theorem Gw.bySmRow {α : Type} {E : Ec α} {w : World} {B b : Nat} {u v : Value} {L : List α} {s e a err : Int} {sl : Bool} (h : Gw E w B u L) (hs : Sm w b v s e sl a err) (ht : E.t ≠ 39) (cs : Array Value) : Gw E (w.setRow b cs) B u L := by
  obtain ⟨hl, h2⟩ := h
  refine ⟨hl, ?_⟩
  rcases h2 with h2 | ⟨g, cap, cur, hv, hB, hg, r⟩
  · exact Or.inl h2
  · refine Or.inr ⟨g, cap, cur, hv, hB, ?_, r⟩
    rw [setRow_other w b g cs]
    · exact hg
    · intro e0
      subst e0
      have h3 : w.heap[g]? = some (.cells #[v, .int .u64 s, .int .i64 e, .bool sl, .int .i64 a, .int .i64 err] 39 (0, 0)) := hs
      rw [h3] at hg
      simp only [Option.some.injEq, Obj.cells.injEq] at hg
      exact ht hg.2.1.symm
theorem Sm.zero {w wA : World} (hA : w.alloc (.cells (scanC (.slice none 0 0) 0 0 false 0 0) 39) = wA) : Sm wA w.heap.size (.slice none 0 0) 0 0 false 0 0 := by
  rw [← hA]
  exact heap_alloc_new _ _
theorem wd_notScan : encWd.t ≠ 39 := by decide
end Go.Proofs.Ytjdigncieoaglaa

namespace Go.Proofs.Ytjdigncieoaglaa
set_option linter.unusedVariables false
open Go.RowKit Go.Lib

theorem head_right {n s : Int} (h : 1 ≤ n ∧ n ≤ 99999999) : rightN (headN n s) = 0 := by
  unfold rightN headN
  simp
  omega
theorem head_len {n s : Int} (h : 1 ≤ n ∧ n ≤ 99999999) : (makeN (headN n s)).length = 37 := by
  rw [makeN_len (head_right h)]
  unfold dataN headN
  simp [putN_length, magN]
theorem head_scan : scF (makeN (headN 5 9)) 5 = ⟨[], 9, 37, false, 37, 0⟩ := by
  have h := seg_open (n := 5) (s := 9) (ls := []) (head_right (by omega)) (by omega) (fun l hl => by cases hl) (by show (10 : Int) ≤ _; omega)
  simp only [segN, segPos, segS, posW, List.map_nil, List.append_nil, List.length_nil, head_len (show (1 : Int) ≤ 5 ∧ (5 : Int) ≤ 99999999 by omega)] at h
  rw [h]
  rfl
theorem head_scan6 : scF (makeN (headN 5 9)) 6 = scNo 3 := by
  have hb : Byt (makeN (headN 5 9)) := makeN_byt (headN_ok 5 9)
  obtain ⟨m1, m2, m3⟩ := rp_same (headN_ok 5 9) (head_right (by omega)) (bare_head 5 9) ⟨by show (0 : Int) ≤ 9; omega, by show (9 : Int) < _; omega⟩ [] []
  simp only [List.nil_append, List.append_nil, List.length_nil, Int.natCast_zero] at m1 m2 m3
  rw [scF_start hb, if_neg (by rw [m1]; simp), m2, if_pos (Or.inr (by show (5 : Int) ≠ 6; omega))]

set_option maxRecDepth 100000 in
set_option maxHeartbeats 2000000 in
theorem lives16_any (hH : csHeadOk) (hS : csScanOk) (w : World) : Calls Try.prog 11 #[] w fun e w' => e = .returned (.bool true) ∧ Below w.heap.size w w' := by
  have HH := Lib.hid (hH 5 9 w (by omega) (by omega))
  have HL := Lib.hid (head_len (n := 5) (s := 9) (by omega))
  have H5 := Lib.hid head_scan
  have H6 := Lib.hid head_scan6
  obtain ⟨F, hF⟩ : ∃ F, makeN (headN 5 9) = F := ⟨_, rfl⟩
  rw [hF] at HH HL H5 H6
  have HSC := Lib.hid fun (p : Option Addr) (cap : Nat) (n : Int) W (hW : Bs W p 37 F) (h1 : p = none → cap = 0) (h2 : 37 ≤ cap) (h3 : cap ≤ maxLen) (hn : -9223372036854775808 ≤ n ∧ n ≤ 9223372036854775807) => hS p 37 cap F n W hW h1 h2 h3 (by omega) hn
  unfold ScQ scanV at HSC
  clear hF hH hS
  have field5 : ∀ (q : Option Addr) (m c : Nat) (w : World), (Instr.field 39 (.agg #[.slice q m c, .int .u64 0, .int .i64 0, .bool false, .int .i64 0, .int .i64 3]) 5).run Try.prog w = .ok (.int .i64 3) w := fun q m c w => by kernel_rfl
  go_enter Try.func11, Try.ntmps11
  go_wp2_with (first
    | (go_at_call 9; refine HH.out.mono ?_; rintro e w1 ⟨v1, rfl, ho1, hb1⟩; have HB1 := Lib.hid hb1; obtain ⟨p1, c1, hv1, hlc1, hcm1, hbs1, hpc1⟩ := ho1.open; rw [HL.out] at hv1 hlc1 hbs1; subst hv1; have HD1 := Lib.hid hbs1; have HC1 := Lib.hid (And.intro hpc1 (And.intro hlc1 hcm1)); clear ho1 hb1 hbs1 hpc1 hlc1 hcm1)
    | (go_at_call 13; (fail_if_success (have hh := HB2.out)); refine (HSC.out p1 c1 5 _ HD1.out HC1.out.1 HC1.out.2.1 HC1.out.2.2 (by omega)).mono ?_; rw [H5.out]; rintro e w2 ⟨q2, m2, c2, L2, rfl, _, _, _, _, _, _, _, hb2⟩; have HB2 := Lib.hid (below_step HB1.out hb2); have HD2 := Lib.hid (HD1.out.later hb2); dsimp only; have hbx : Below w2.heap.size w2 (w2.alloc (.cells #[.slice q2 m2 c2, .int .u64 9, .int .i64 37, .bool false, .int .i64 37, .int .i64 0] 39)) := (Below.refl _ _).alloc (Nat.le_refl _) _; have HB3 := Lib.hid (below_step HB2.out hbx); have HD3 := Lib.hid (HD2.out.later hbx); clear hb2 hbx)
    | (go_at_call 13; refine (HSC.out p1 c1 6 _ HD3.out HC1.out.1 HC1.out.2.1 HC1.out.2.2 (by omega)).mono ?_; rw [H6.out]; rintro e w4 ⟨q4, m4, c4, L4, rfl, _, _, _, _, _, _, _, hb4⟩; have HB4 := Lib.hid (below_step HB3.out hb4); unfold scNo; dsimp only; clear hb4))
  go_ret
  exact ⟨rfl, HB4.out⟩
end Go.Proofs.Ytjdigncieoaglaa

namespace Go.Proofs.Ytjdigncieoaglaa
set_option linter.unusedVariables false
open Go.RowKit Go.Lib

set_option maxRecDepth 100000 in
set_option maxHeartbeats 2000000 in
theorem segends_any (hH : csHeadOk) (hF : csFootOk) (hS : csScanOk) (n z s : Int) (w : World) (hn : -9223372036854775808 ≤ n ∧ n ≤ 9223372036854775807) (hz : -9223372036854775808 ≤ z ∧ z ≤ 9223372036854775807) (hs : 0 ≤ s ∧ s < 18446744073709551616) :
    Calls Try.prog 3 #[.int .i64 n, .int .i64 z, .int .u64 s] w fun e w' => e = .returned (.bool true) ∧ Below w.heap.size w w' := by
  have HM1 := Lib.hid (rmake14_any (hdQ n s) w (hdQ_fit hn hs w))
  have HM2 := Lib.hid fun W => rmake14_any (ftQ s n z) W (ftQ_fit hs hn hz W)
  have HH := Lib.hid fun W => hH n s W hn hs
  have HF := Lib.hid fun W => hF n z s W hn hz hs
  have HLV := Lib.hid fun W => lives16_any hH hS W
  rw [hdQ_rc] at HM1
  rw [ftQ_rc] at HM2
  have HL1 : Hid ((makeN (headN n s)).length ≤ 65557) := Lib.hid (makeN_length (headN_ok n s))
  have HL2 : Hid ((makeN (footN s n z)).length ≤ 65557) := Lib.hid (makeN_length (footN_ok s n z))
  unfold Rq.v at HM1 HM2
  obtain ⟨F, hF'⟩ : ∃ F, makeN (headN n s) = F := ⟨_, rfl⟩
  obtain ⟨G, hG⟩ : ∃ G, makeN (footN s n z) = G := ⟨_, rfl⟩
  rw [hF'] at HM1 HH HL1
  rw [hG] at HM2 HF HL2
  obtain ⟨FN, hFN⟩ : ∃ m, F.length = m := ⟨_, rfl⟩
  obtain ⟨GN, hGN⟩ : ∃ m, G.length = m := ⟨_, rfl⟩
  have HFN := Lib.hid hFN
  have HGN := Lib.hid hGN
  rw [hFN] at HL1
  rw [hGN] at HL2
  have HLF : Hid (FN ≤ maxLen) := Lib.hid (by have := HL1.out; unfold maxLen; omega)
  have HLG : Hid (GN ≤ maxLen) := Lib.hid (by have := HL2.out; unfold maxLen; omega)
  obtain ⟨R1, hR1⟩ : ∃ r, rightN (headN n s) = r := ⟨_, rfl⟩
  obtain ⟨R2, hR2⟩ : ∃ r, rightN (footN s n z) = r := ⟨_, rfl⟩
  rw [hR1] at HM1
  rw [hR2] at HM2
  clear hH hF hS hF' hG hFN hGN hR1 hR2
  go_enter Try.func3, Try.ntmps3
  go_upto_region 2 with (first
    | (refine wpList_build_is rfl 29 _ rfl (mixC (hdQ n s).a (hdQ n s).dg (hdQ n s).z) ?_ ?_; focus kernel_rfl)
    | (go_at_call 7; refine HM1.out.mono ?_; rintro e w1 ⟨v1, rfl, ho1, hb1⟩; have HB1 := Lib.hid hb1; obtain ⟨p1, c1, hv1, hlc1, hcm1, hbs1, hpc1⟩ := ho1.open; rw [HFN.out] at hv1 hlc1 hbs1; subst hv1; have HD1 := Lib.hid hbs1; clear ho1 hb1 hbs1 hpc1 hlc1 hcm1))
  go_upto_region 3 with (first
    | (refine wpList_build_is rfl 29 _ rfl (mixC (ftQ s n z).a (ftQ s n z).dg (ftQ s n z).z) ?_ ?_; focus kernel_rfl)
    | (go_at_call 7; refine (HM2.out _).mono ?_; rintro e w2 ⟨v2, rfl, ho2, hb2⟩; have HB2 := Lib.hid (below_step HB1.out hb2); have HD12 := Lib.hid (HD1.out.later hb2); obtain ⟨p2, c2, hv2, hlc2, hcm2, hbs2, hpc2⟩ := ho2.open; rw [HGN.out] at hv2 hlc2 hbs2; subst hv2; have HD2 := Lib.hid hbs2; clear ho2 hb2 hbs2 hpc2 hlc2 hcm2))
  go_wp2_with (first
    | (go_at_call 9; refine (HH.out _).mono ?_; rintro e w3 ⟨v3, rfl, ho3, hb3⟩; have HB3 := Lib.hid (below_step HB2.out hb3); have HD13 := Lib.hid (HD12.out.later hb3); have HD23 := Lib.hid (HD2.out.later hb3); obtain ⟨p3, c3, hv3, hlc3, hcm3, hbs3, hpc3⟩ := ho3.open; rw [HFN.out] at hv3 hlc3 hbs3; subst hv3; have HD3 := Lib.hid hbs3; clear ho3 hb3 hbs3 hpc3 hlc3 hcm3)
    | (go_at_call 8; (fail_if_success (have hh := HB4.out)); refine (same_any _ _ _ _ _ _ F F _ HLF.out HLF.out HD3.out HD13.out).mono ?_; rintro e w4 ⟨rfl, q, hq⟩; rw [decide_eq_true (rfl : F = F)]; have HBq : Hid (Below w3.heap.size w3 w4) := Lib.hid (by rw [hq]; exact below_drewN (Below.refl _ _) _); have HB4 := Lib.hid (below_step HB3.out HBq.out); have HD24 := Lib.hid (HD23.out.later HBq.out); clear hq)
    | (go_at_call 10; refine (HF.out _).mono ?_; rintro e w5 ⟨v5, rfl, ho5, hb5⟩; have HB5 := Lib.hid (below_step HB4.out hb5); have HD25 := Lib.hid (HD24.out.later hb5); obtain ⟨p5, c5, hv5, hlc5, hcm5, hbs5, hpc5⟩ := ho5.open; rw [HGN.out] at hv5 hlc5 hbs5; subst hv5; have HD5 := Lib.hid hbs5; clear ho5 hb5 hbs5 hpc5 hlc5 hcm5)
    | (go_at_call 8; refine (same_any _ _ _ _ _ _ G G _ HLG.out HLG.out HD5.out HD25.out).mono ?_; rintro e w6 ⟨rfl, q, hq⟩; rw [decide_eq_true (rfl : G = G)]; have HB6 : Hid (Below w.heap.size w w6) := Lib.hid (by rw [hq]; exact below_drewN HB5.out _); clear hq)
    | (go_at_call 11; refine (HLV.out _).mono ?_; rintro e w7 ⟨rfl, hb7⟩; have HB7 := Lib.hid (below_step HB6.out hb7); clear hb7))
  go_ret
  exact ⟨rfl, HB7.out⟩
end Go.Proofs.Ytjdigncieoaglaa

namespace Go.Proofs.Ytjdigncieoaglaa
set_option linter.unusedVariables false
open Go.RowKit Go.Lib

/-- what a call that boxes a scan finds -/
theorem box_scan (w : World) (v : Value) (s e : Int) (sl : Bool) (a err : Int) : ∃ wA, w.alloc (.cells (scanC v s e sl a err) 39) = wA ∧ Sm wA w.heap.size v s e sl a err ∧ Below w.heap.size w wA :=
  ⟨_, rfl, heap_alloc_new _ _, (Below.refl _ _).alloc (Nat.le_refl _) _⟩
set_option maxRecDepth 100000 in
set_option maxHeartbeats 1000000 in
theorem isFooter_any (x : Rq) (q : Option Addr) (m c : Nat) (s e : Int) (sl : Bool) (a err : Int) (w : World) (hd : x.dg.length = 32) : Calls Try.prog 58 #[.agg (mixC x.a x.dg x.z), .agg (scanC (.slice q m c) s e sl a err)] w fun e1 w' => e1 = .returned (.bool (ftB x.k x.s x.N x.Z s m e)) ∧ Below w.heap.size w w' := by
  obtain ⟨wA, hA, hxA, hbA, _⟩ := box_rec w x hd
  obtain ⟨g, hg⟩ : ∃ g, wA.heap.size = g := ⟨_, rfl⟩
  obtain ⟨wB, hB, hsB, hbB⟩ := box_scan wA (.slice q m c) s e sl a err
  have hxB : Rm wB w.heap.size x := Mx.later hxA hbB
  obtain ⟨c0, c1, _, _, c36, c37⟩ := hxB.cells hd
  rw [hg] at hsB
  obtain ⟨r0, r1, r2, r3, r4, r5⟩ := hsB.cells
  have HB := Lib.hid (below_step hbA hbB)
  obtain ⟨R, hR⟩ : ∃ R, ftB x.k x.s x.N x.Z s m e = R := ⟨_, rfl⟩
  rw [hR]
  have HR : Hid (R = ftB x.k x.s x.N x.Z s m e) := Lib.hid hR.symm
  clear hR hbA hbB hd hxA hxB hsB
  unfold ftB at HR
  obtain ⟨k, s', dg, nm, p, n, c, da, N, Z⟩ := x
  dsimp only at *
  generalize mixC _ _ _ = M at *
  generalize scanC _ _ _ _ _ _ = M2 at *
  by_cases h1 : k = 8
  · have d1 : (k == 8) = true := by simpa using h1
    by_cases h2 : s < s'
    · have d2 : decide (s < s') = true := decide_eq_true h2
      by_cases h3 : N = m
      · have d3 : (N == (m : Int)) = true := by simpa using h3
        by_cases h4 : Z = e
        · have d4 : (Z == e) = true := by simpa using h4
          replace HR : Hid (R = true) := Lib.hid (by rw [HR.out]; exact decide_eq_true ⟨h1, h2, h3, h4⟩)
          clear h1 h3 h4
          go_enter Try.func58, Try.ntmps58
          go_wp2
          go_ret
          exact ⟨by rw [HR.out]; rfl, HB.out⟩
        · have d4 : (Z == e) = false := by simpa using h4
          replace HR : Hid (R = false) := Lib.hid (by rw [HR.out]; exact decide_eq_false fun h => h4 h.2.2.2)
          clear h1 h3 h4
          go_enter Try.func58, Try.ntmps58
          go_wp2
          go_ret
          exact ⟨by rw [HR.out]; rfl, HB.out⟩
      · have d3 : (N == (m : Int)) = false := by simpa using h3
        replace HR : Hid (R = false) := Lib.hid (by rw [HR.out]; exact decide_eq_false fun h => h3 h.2.2.1)
        clear h1 h3
        go_enter Try.func58, Try.ntmps58
        go_wp2
        go_ret
        exact ⟨by rw [HR.out]; rfl, HB.out⟩
    · have d2 : decide (s < s') = false := decide_eq_false h2
      replace HR : Hid (R = false) := Lib.hid (by rw [HR.out]; exact decide_eq_false fun h => h2 h.2.1)
      clear h1
      go_enter Try.func58, Try.ntmps58
      go_wp2
      go_ret
      exact ⟨by rw [HR.out]; rfl, HB.out⟩
  · have d1 : (k == 8) = false := by simpa using h1
    replace HR : Hid (R = false) := Lib.hid (by rw [HR.out]; exact decide_eq_false fun h => h1 h.1)
    clear h1
    go_enter Try.func58, Try.ntmps58
    go_wp2
    go_ret
    exact ⟨by rw [HR.out]; rfl, HB.out⟩
end Go.Proofs.Ytjdigncieoaglaa

namespace Go.Proofs.Ytjdigncieoaglaa
set_option linter.unusedVariables false
open Go.RowKit Go.Lib

set_option maxRecDepth 100000 in
set_option maxHeartbeats 2000000 in
theorem rsame16_any (q q2 : Option Addr) (m c c2 : Nat) (L M : List Wx) (F : Sc) (w : World) (hL : Gs encWd w q m L) (hM : Gs encWd w q2 m M) (he : wdL L = wdL M) (hk : ∀ x ∈ L, x.1.Ok) (hm : m ≤ 2097216) :
    Calls Try.prog 12 #[scanV q m c F, scanV q2 m c2 F] w fun e w' => e = .returned (.bool true) ∧ Below w.heap.size w w' := by
  have HW := Lib.hid fun W (hW : Below w.heap.size w W) => rwords_any q q2 m c c2 L M W (hL.later hW) (hM.later hW) he hk hm
  obtain ⟨ws, s, e, sl, a, err⟩ := F
  unfold scanV
  dsimp only
  obtain ⟨wA, hA⟩ : ∃ W, w.alloc (.cells #[.slice q m c, .int .u64 s, .int .i64 e, .bool sl, .int .i64 a, .int .i64 err] 39) = W := ⟨_, rfl⟩
  obtain ⟨g, hg⟩ : ∃ g, wA.heap.size = g := ⟨_, rfl⟩
  obtain ⟨wB, hB⟩ : ∃ W, wA.alloc (.cells #[.slice q2 m c2, .int .u64 s, .int .i64 e, .bool sl, .int .i64 a, .int .i64 err] 39) = W := ⟨_, rfl⟩
  have h1 : Sm wA w.heap.size (.slice q m c) s e sl a err := by rw [← hA]; exact heap_alloc_new _ _
  have HS1 : Hid (Sm wB w.heap.size (.slice q m c) s e sl a err) := Lib.hid (h1.later (by rw [← hB]; exact (Below.refl _ _).alloc (Nat.le_refl _) _))
  have HS2 : Hid (Sm wB g (.slice q2 m c2) s e sl a err) := Lib.hid (by rw [← hg, ← hB]; exact heap_alloc_new _ _)
  have HBB : Hid (Below w.heap.size w wB) := Lib.hid (by rw [← hB, ← hA]; exact ((Below.refl _ _).alloc (Nat.le_refl _) _).alloc (by simp) _)
  obtain ⟨a0, _⟩ := HS1.out.cells
  obtain ⟨b0, _⟩ := HS2.out.cells
  clear h1 hL hM he hk
  go_enter Try.func12, Try.ntmps12
  go_wp2_with (go_at_call 19; refine (HW.out _ HBB.out).mono ?_; rintro e w3 ⟨rfl, hb3⟩; have HB3 := Lib.hid (below_step HBB.out hb3); obtain ⟨_, a1, a2, a3, a4, a5⟩ := (HS1.out.later hb3).cells; obtain ⟨_, b1, b2, b3, b4, b5⟩ := (HS2.out.later hb3).cells; clear hb3)
  go_ret
  exact ⟨rfl, HB3.out⟩
end Go.Proofs.Ytjdigncieoaglaa

namespace Go.Proofs.Ytjdigncieoaglaa
set_option linter.unusedVariables false
open Go.RowKit Go.Lib

set_option maxRecDepth 100000 in
set_option maxHeartbeats 8000000 in
theorem rscan16_any (p : Option Addr) (len cap : Nat) (zs : List Int) (n : Int) (w : World) (h : Bs w p len zs) (hpc : p = none → cap = 0) (hlc : len ≤ cap) (hcm : cap ≤ maxLen) (hlen : len ≤ 2097216) (hn : -9223372036854775808 ≤ n ∧ n ≤ 9223372036854775807) :
    Calls Try.prog 14 #[.slice p len cap, .int .i64 n] w fun e w' => ScQ w zs n e w' := by
  have HZ := Lib.hid h
  have HBY := Lib.hid (show Byt zs from h.byte)
  have HLN := Lib.hid h.len
  have HST := Lib.hid (scF_start h.byte n)
  have HRP := Lib.hid fun (t : Int) W (hW : Bs W p len zs) (ht : -9223372036854775808 ≤ t ∧ t ≤ 9223372036854775807) => rparse14_any p len cap zs t W hW hpc hlc hcm hlen ht
  have HBP := Lib.hid fun (t : Int) W (hW : Bs W p len zs) (ht : -9223372036854775808 ≤ t ∧ t ≤ 9223372036854775807) => rparse15_any p len cap zs t n W hW hpc hlc hcm hlen ht hn
  unfold RpQ at HRP
  unfold BpQ at HBP
  obtain ⟨wA, hA⟩ : ∃ W, w.alloc (.cells (scanC (.slice none 0 0) 0 0 false 0 0) 39) = W := ⟨_, rfl⟩
  obtain ⟨g5, hg5⟩ : ∃ g, wA.heap.size = g := ⟨_, rfl⟩
  obtain ⟨wB, hB⟩ : ∃ W, wA.alloc (.cells (scanC (.slice none 0 0) 0 0 false 0 0) 39) = W := ⟨_, rfl⟩
  have hA4 := Sm.zero hA
  have HG45 : Hid (w.heap.size < g5) := Lib.hid (by rw [← hg5]; exact hA4.lt)
  have H4 : Hid (Sm wB w.heap.size (.slice none 0 0) 0 0 false 0 0) := Lib.hid (hA4.later (by rw [← hB]; exact (Below.refl _ _).alloc (Nat.le_refl _) _))
  have H5 : Hid (Sm wB g5 (.slice none 0 0) 0 0 false 0 0) := Lib.hid (by rw [← hg5]; exact Sm.zero hB)
  have HBB : Hid (Below w.heap.size w wB) := Lib.hid (by rw [← hB, ← hA]; exact ((Below.refl _ _).alloc (Nat.le_refl _) _).alloc (by simp) _)
  have HRP0 := Lib.hid (HRP.out 0 wB (HZ.out.later HBB.out) (by omega))
  have HNX0 := Lib.hid fun h0 => rp_next HBY.out (a := 0) h0
  rw [HLN.out] at HNX0
  obtain ⟨E0, hE0⟩ : ∃ E, rpE zs 0 = E := ⟨_, rfl⟩
  obtain ⟨N0, hN0⟩ : ∃ N, rpN zs 0 = N := ⟨_, rfl⟩
  obtain ⟨R0, hR0⟩ : ∃ r, rpR zs 0 = r := ⟨_, rfl⟩
  rw [hE0, hN0, hR0] at HST HRP0
  rw [hE0, hN0] at HNX0
  unfold scanC at hA hB
  clear h hpc hlc hcm hA4 hE0 hN0 hR0
  go_enter Try.func14, Try.ntmps14
  go_upto_region 3 with (first
    | (go_at_call 16; refine HRP0.out.mono ?_; rintro e w1 ⟨x, rfl, hf1, hr1, hb1⟩; have HF1 := Lib.hid hf1; have HR1 := Lib.hid hr1; have HB1 := Lib.hid hb1; clear hf1 hr1 hb1)
    | (refine wpList_store_row rfl 29 _ _ rfl w1.heap.size _ rfl rfl 29 _ (heap_alloc_new _ _) (Rq.sizeOf x HF1.out.dg.1) (Rq.sizes rq0 x rfl HF1.out.dg.1) x.one ?_; generalize hw2 : World.setRow _ _ _ = w2))
  have HB12 : Hid (Below w1.heap.size w1 w2) := Lib.hid (by rw [← hw2]; exact below_setRow8 ((Below.refl _ _).alloc (Nat.le_refl _) _) _ _ (Nat.le_refl _))
  have HR2 : Hid (Rm w2 w1.heap.size x) := Lib.hid (by rw [← hw2]; exact Mx.row (show Rm (w1.alloc (.cells (mixC rq0.a rq0.dg rq0.z) 29)) w1.heap.size rq0 from heap_alloc_new _ _))
  have HB02 := Lib.hid (below_step HB1.out HB12.out)
  have HW2 := Lib.hid (below_step HBB.out HB02.out)
  have H42 := Lib.hid (H4.out.later HB02.out)
  have H52 := Lib.hid (H5.out.later HB02.out)
  have HXD := Lib.hid HF1.out.dg.1
  clear hw2 hA hB hg5
  by_cases hz : E0 = 0
  · subst hz
    rw [if_neg (by simp)] at HST
    obtain ⟨hx0, hx1, hx2⟩ := HNX0.out rfl
    obtain ⟨e0, e1, _, _, e36, e37⟩ := HR2.out.cells HXD.out
    have hks : R0.k = x.k ∧ R0.s = x.s ∧ R0.n = x.N := by rw [← HR1.out]; exact ⟨rfl, rfl, rfl⟩
    obtain ⟨hk', hs', hn'⟩ := hks
    rw [hk', hs', hn'] at HST
    clear hk' hs' hn'
    by_cases h7 : x.k = 7
    · have hk7 : (x.k != 7) = false := by simpa using h7
      by_cases hN : x.N = n
      · have hkN : (x.N != n) = false := by simpa using hN
        rw [if_neg (by rintro (h1 | h1); exact h1 h7; exact h1 hN)] at HST
        have HST2 : Hid (scF zs n = scR zs n (wdL []) x.s N0) := HST
        have HX12 := Lib.hid (And.intro hx1 hx2)
        obtain ⟨v7, hv7⟩ : ∃ W, w2.setCell ⟨g5, 1, none⟩ (.int .u64 x.s) = W := ⟨_, rfl⟩
        obtain ⟨c70, c71, c72, c73, c74, c75⟩ := H52.out.cells
        have f7 := H52.out.frozen 1
        have HS7 : Hid (Sm v7 g5 (.slice none 0 0) x.s 0 false 0 0) := Lib.hid (by rw [← hv7]; exact H52.out.setS _)
        have HF7 : Hid (Sm v7 w.heap.size (.slice none 0 0) 0 0 false 0 0) := Lib.hid (by rw [← hv7]; exact H42.out.other _ _ (Nat.ne_of_lt HG45.out))
        have HQ7 : Hid (Below w.heap.size w v7) := Lib.hid (by rw [← hv7]; exact HW2.out.setCell (p := ⟨g5, 1, none⟩) (Nat.le_of_lt HG45.out) _)
        obtain ⟨v8, hv8⟩ : ∃ W, v7.setCell ⟨g5, 2, none⟩ (.int .i64 N0) = W := ⟨_, rfl⟩
        obtain ⟨c80, c81, c82, c83, c84, c85⟩ := HS7.out.cells
        have f8 := HS7.out.frozen 2
        have HS8 : Hid (Sm v8 g5 (.slice none 0 0) x.s N0 false 0 0) := Lib.hid (by rw [← hv8]; exact HS7.out.setE _)
        have HF8 : Hid (Sm v8 w.heap.size (.slice none 0 0) 0 0 false 0 0) := Lib.hid (by rw [← hv8]; exact HF7.out.other _ _ (Nat.ne_of_lt HG45.out))
        have HQ8 : Hid (Below w.heap.size w v8) := Lib.hid (by rw [← hv8]; exact HQ7.out.setCell (p := ⟨g5, 2, none⟩) (Nat.le_of_lt HG45.out) _)
        obtain ⟨v9, hv9⟩ : ∃ W, v8.setCell ⟨g5, 4, none⟩ (.int .i64 N0) = W := ⟨_, rfl⟩
        obtain ⟨c90, c91, c92, c93, c94, c95⟩ := HS8.out.cells
        have f9 := HS8.out.frozen 4
        have HS9 : Hid (Sm v9 g5 (.slice none 0 0) x.s N0 false N0 0) := Lib.hid (by rw [← hv9]; exact HS8.out.setA _)
        have HF9 : Hid (Sm v9 w.heap.size (.slice none 0 0) 0 0 false 0 0) := Lib.hid (by rw [← hv9]; exact HF8.out.other _ _ (Nat.ne_of_lt HG45.out))
        have HQ9 : Hid (Below w.heap.size w v9) := Lib.hid (by rw [← hv9]; exact HQ8.out.setCell (p := ⟨g5, 4, none⟩) (Nat.le_of_lt HG45.out) _)
        clear h7 hN
        go_wp2
        clear hv7 c70 c71 c72 c73 c74 c75 f7 hv8 c80 c81 c82 c83 c84 c85 f8 hv9 c90 c91 c92 c93 c94 c95 f9 e0 e1 e36 e37 hk7 hkN
        go_loopw [10] (fun _ wr => ∃ (s e : Int) (L : List Wx) (q : Option Addr) (m c : Nat), Hid (Sm wr g5 (.slice q m c) s e false e 0) ∧ Hid (Sm wr w.heap.size (.slice none 0 0) 0 0 false 0 0) ∧ Hid (Gw encWd wr w.heap.size (.slice q m c) L) ∧ Hid (scF zs n = scR zs n (wdL L) s e) ∧ Hid (∀ x ∈ L, x.1.Ok) ∧ Hid (21 ≤ e ∧ e ≤ len ∧ (L.length : Int) * 21 ≤ e) ∧ Hid (Below w.heap.size w wr)) (fun _ wr => match wr.cell? ⟨g5, 2, none⟩ with | some (.int _ e) => ((len : Int) - e).toNat | _ => 0)
        case atStart => exact ⟨x.s, N0, [], none, 0, 0, HS9, HF9, Lib.hid (Gw.nil _ _ _), HST2, Lib.hid (fun x hx => by cases hx), Lib.hid (by have := HX12.out; simp; omega), HQ9⟩
        case round =>
          obtain ⟨s, e, L, q, m, c, H5r, H4r, HG, HS, HK, HE, HB⟩ := hrel
          obtain ⟨r0, r1, r2, r3, r4, r5⟩ := H5r.out.cells
          have HM := Lib.hid HG.out.len
          obtain ⟨hmc, hcm, hpc⟩ : m ≤ c ∧ c ≤ maxLen ∧ (q = none → c = 0) := by
            obtain ⟨q1, c1, hv, a1, a2, _, a3⟩ := HG.out.open
            rw [HM.out] at hv a1
            simp only [Value.slice.injEq, true_and] at hv
            obtain ⟨rfl, rfl⟩ := hv
            exact ⟨a1, a2, a3⟩
          have HC := Lib.hid (And.intro hmc (And.intro hcm hpc))
          clear hmc hcm hpc
          obtain ⟨he0, he1, he2⟩ := HE.out
          rw [HM.out] at he2
          have HM2 : Hid (m ≤ 2097216) := Lib.hid (by omega)
          by_cases hlt : e < (len : Int)
          · skip
            have HSTEP := Lib.hid (scR_step HBY.out n (wdL L) s e)
            rw [← HS.out, if_pos (by rw [HLN.out]; exact hlt)] at HSTEP
            have HRPe := Lib.hid (HRP.out e wr (HZ.out.later HB.out) (by omega))
            have HNX := Lib.hid fun h0 => rp_next HBY.out (a := e) h0
            rw [HLN.out] at HNX
            have HWLN : Hid ((wdL L).length = m) := Lib.hid (by rw [wdL_length, HM.out])
            obtain ⟨E, hE⟩ : ∃ E, rpE zs e = E := ⟨_, rfl⟩
            obtain ⟨NX, hNX⟩ : ∃ N, rpN zs e = N := ⟨_, rfl⟩
            obtain ⟨RC, hRC⟩ : ∃ r, rpR zs e = r := ⟨_, rfl⟩
            rw [hE, hNX, hRC] at HSTEP HRPe
            rw [hE, hNX] at HNX
            clear hE hNX hRC
            go_upto_region 14 with (first
              | (go_at_call 16; refine HRPe.out.mono ?_; rintro e w3 ⟨y, rfl, hf3, hr3, hb3⟩; have HF3 := Lib.hid hf3; have HR3 := Lib.hid hr3; have HB3 := Lib.hid hb3; clear hf3 hr3 hb3)
              | (refine wpList_store_row rfl 29 _ _ rfl w3.heap.size _ rfl rfl 29 _ (heap_alloc_new _ _) (Rq.sizeOf y HF3.out.dg.1) (Rq.sizes rq0 y rfl HF3.out.dg.1) y.one ?_; generalize hw4 : World.setRow _ _ _ = w4))
            have HB34 : Hid (Below w3.heap.size w3 w4) := Lib.hid (by rw [← hw4]; exact below_setRow8 ((Below.refl _ _).alloc (Nat.le_refl _) _) _ _ (Nat.le_refl _))
            have HR4 : Hid (Rm w4 w3.heap.size y) := Lib.hid (by rw [← hw4]; exact Mx.row (show Rm (w3.alloc (.cells (mixC rq0.a rq0.dg rq0.z) 29)) w3.heap.size rq0 from heap_alloc_new _ _))
            have HBr4 := Lib.hid (below_step HB3.out HB34.out)
            have HB4 := Lib.hid (below_step HB.out HBr4.out)
            have H44 := Lib.hid (H4r.out.later HBr4.out)
            have H54 := Lib.hid (H5r.out.later HBr4.out)
            have HG4 := Lib.hid (HG.out.later HBr4.out)
            have HYD := Lib.hid HF3.out.dg.1
            obtain ⟨e0, e1, _, _, e36, e37⟩ := HR4.out.cells HYD.out
            have hks : RC.k = y.k ∧ RC.s = y.s ∧ RC.n = y.N ∧ RC.z = y.Z := by rw [← HR3.out]; exact ⟨rfl, rfl, rfl, rfl⟩
            obtain ⟨hk1, hs1, hn1, hz1⟩ := hks
            rw [hk1, hs1, hn1, hz1] at HSTEP
            clear hw4 hk1 hs1 hn1 hz1 r0 r1 r2 r3 r4 r5
            obtain ⟨r0, r1, r2, r3, r4, r5⟩ := H54.out.cells
            by_cases h8 : E = 0 ∧ y.k = 8
            · skip
              rw [if_pos h8] at HSTEP
              obtain ⟨h80, h88⟩ := h8
              subst h80
              have hk8 : (y.k == 8) = true := by simpa using h88
              obtain ⟨hx0, hx1, hx2⟩ := HNX.out rfl
              by_cases ha : y.s ≤ s
              · have d1 : decide (y.s ≤ s) = true := decide_eq_true ha
                rw [if_pos (Or.inl ha)] at HSTEP
                obtain ⟨v11, hv11⟩ : ∃ W, w4.setCell ⟨g5, 5, none⟩ (.int .i64 3) = W := ⟨_, rfl⟩
                obtain ⟨c110, c111, c112, c113, c114, c115⟩ := H54.out.cells
                have f11 := H54.out.frozen 5
                have HS11 : Hid (Sm v11 g5 (.slice q m c) s e false e 3) := Lib.hid (by rw [← hv11]; exact H54.out.setR _)
                have HF11 : Hid (Sm v11 w.heap.size (.slice none 0 0) 0 0 false 0 0) := Lib.hid (by rw [← hv11]; exact H44.out.other _ _ (Nat.ne_of_lt HG45.out))
                have HQ11 : Hid (Below w.heap.size w v11) := Lib.hid (by rw [← hv11]; exact HB4.out.setCell (p := ⟨g5, 5, none⟩) (Nat.le_of_lt HG45.out) _)
                have HY11 : Hid (Gw encWd v11 w.heap.size (.slice q m c) L) := Lib.hid (by rw [← hv11]; exact HG4.out.bySm H54.out wd_notScan _ rfl _)
                go_wp2_with (first
                  | (refine wpList_ld rfl _ _ rfl _ rfl _ HS11.out.load ?_)
                  | (refine wpList_store_row rfl 39 _ _ rfl w.heap.size _ rfl rfl 39 _ HF11.out size6 rfl scanC_one ?_; generalize hwZ : World.setRow _ _ _ = wZ))
                have HZ4 := Lib.hid (show Sm wZ w.heap.size (.slice q m c) s e false e 3 from by rw [← hwZ]; exact HF11.out.row)
                have HZB : Hid (Below w.heap.size w wZ) := Lib.hid (by rw [← hwZ]; exact below_setRow8 HQ11.out _ _ (Nat.le_refl _))
                have HZG := Lib.hid (show Gw encWd wZ w.heap.size (.slice q m c) L from by rw [← hwZ]; exact HY11.out.bySmRow HF11.out wd_notScan _)
                clear hwZ
                refine bodyPost_ret (HZ4.out.res1 rfl _ rfl) rfl ?_
                exact ScQ.of HSTEP.out q m c L HZG.out.gs rfl HK.out HC.out.1 HC.out.2.1 HC.out.2.2 HM2.out HZB.out rfl
              have d1 : decide (y.s ≤ s) = false := decide_eq_false ha
              by_cases hb : y.N = (m : Int)
              · have d2 : (y.N != (m : Int)) = false := by simpa using hb
                by_cases hc : y.Z = e
                · have d3 : (y.Z != e) = false := by simpa using hc
                  by_cases hd : NX = (len : Int)
                  · have d4 : (NX != (len : Int)) = false := by simpa using hd
                    rw [if_neg (by
                      rintro (h1 | h1 | h1 | h1)
                      · exact ha h1
                      · exact h1 (by rw [HWLN.out]; exact hb)
                      · exact h1 hc
                      · exact h1 (by rw [HLN.out]; exact hd))] at HSTEP
                    clear ha hb hc hd
                    have HG53 : Hid (g5 < w3.heap.size) := Lib.hid (by have h1 := H5r.out.lt; have h2 := HB3.out.size; omega)
                    obtain ⟨v13, hv13⟩ : ∃ W, w4.setCell ⟨g5, 3, none⟩ (.bool true) = W := ⟨_, rfl⟩
                    obtain ⟨c130, c131, c132, c133, c134, c135⟩ := H54.out.cells
                    have f13 := H54.out.frozen 3
                    have HS13 : Hid (Sm v13 g5 (.slice q m c) s e true e 0) := Lib.hid (by rw [← hv13]; exact H54.out.setL _)
                    have HF13 : Hid (Sm v13 w.heap.size (.slice none 0 0) 0 0 false 0 0) := Lib.hid (by rw [← hv13]; exact H44.out.other _ _ (Nat.ne_of_lt HG45.out))
                    have HQ13 : Hid (Below w.heap.size w v13) := Lib.hid (by rw [← hv13]; exact HB4.out.setCell (p := ⟨g5, 3, none⟩) (Nat.le_of_lt HG45.out) _)
                    have HY13 : Hid (Gw encWd v13 w.heap.size (.slice q m c) L) := Lib.hid (by rw [← hv13]; exact HG4.out.bySm H54.out wd_notScan _ rfl _)
                    obtain ⟨v14, hv14⟩ : ∃ W, v13.setCell ⟨g5, 1, none⟩ (.int .u64 y.s) = W := ⟨_, rfl⟩
                    obtain ⟨c140, c141, c142, c143, c144, c145⟩ := HS13.out.cells
                    have f14 := HS13.out.frozen 1
                    have HS14 : Hid (Sm v14 g5 (.slice q m c) y.s e true e 0) := Lib.hid (by rw [← hv14]; exact HS13.out.setS _)
                    have HF14 : Hid (Sm v14 w.heap.size (.slice none 0 0) 0 0 false 0 0) := Lib.hid (by rw [← hv14]; exact HF13.out.other _ _ (Nat.ne_of_lt HG45.out))
                    have HQ14 : Hid (Below w.heap.size w v14) := Lib.hid (by rw [← hv14]; exact HQ13.out.setCell (p := ⟨g5, 1, none⟩) (Nat.le_of_lt HG45.out) _)
                    have HY14 : Hid (Gw encWd v14 w.heap.size (.slice q m c) L) := Lib.hid (by rw [← hv14]; exact HY13.out.bySm HS13.out wd_notScan _ rfl _)
                    obtain ⟨v15, hv15⟩ : ∃ W, v14.setCell ⟨g5, 2, none⟩ (.int .i64 NX) = W := ⟨_, rfl⟩
                    obtain ⟨c150, c151, c152, c153, c154, c155⟩ := HS14.out.cells
                    have f15 := HS14.out.frozen 2
                    have HS15 : Hid (Sm v15 g5 (.slice q m c) y.s NX true e 0) := Lib.hid (by rw [← hv15]; exact HS14.out.setE _)
                    have HF15 : Hid (Sm v15 w.heap.size (.slice none 0 0) 0 0 false 0 0) := Lib.hid (by rw [← hv15]; exact HF14.out.other _ _ (Nat.ne_of_lt HG45.out))
                    have HQ15 : Hid (Below w.heap.size w v15) := Lib.hid (by rw [← hv15]; exact HQ14.out.setCell (p := ⟨g5, 2, none⟩) (Nat.le_of_lt HG45.out) _)
                    have HY15 : Hid (Gw encWd v15 w.heap.size (.slice q m c) L) := Lib.hid (by rw [← hv15]; exact HY14.out.bySm HS14.out wd_notScan _ rfl _)
                    obtain ⟨v16, hv16⟩ : ∃ W, v15.setCell ⟨g5, 4, none⟩ (.int .i64 NX) = W := ⟨_, rfl⟩
                    obtain ⟨c160, c161, c162, c163, c164, c165⟩ := HS15.out.cells
                    have f16 := HS15.out.frozen 4
                    have HS16 : Hid (Sm v16 g5 (.slice q m c) y.s NX true NX 0) := Lib.hid (by rw [← hv16]; exact HS15.out.setA _)
                    have HF16 : Hid (Sm v16 w.heap.size (.slice none 0 0) 0 0 false 0 0) := Lib.hid (by rw [← hv16]; exact HF15.out.other _ _ (Nat.ne_of_lt HG45.out))
                    have HQ16 : Hid (Below w.heap.size w v16) := Lib.hid (by rw [← hv16]; exact HQ15.out.setCell (p := ⟨g5, 4, none⟩) (Nat.le_of_lt HG45.out) _)
                    have HY16 : Hid (Gw encWd v16 w.heap.size (.slice q m c) L) := Lib.hid (by rw [← hv16]; exact HY15.out.bySm HS15.out wd_notScan _ rfl _)
                    have HRK : Hid (Rm v13 w3.heap.size y) := Lib.hid (by rw [← hv13]; exact Mx.other HR4.out _ _ (Nat.ne_of_gt HG53.out))
                    obtain ⟨_, y1, _, _, _, _⟩ := HRK.out.cells HYD.out
                    go_wp2_with (first
                      | (refine wpList_ld rfl _ _ rfl _ rfl _ HS16.out.load ?_)
                      | (refine wpList_store_row rfl 39 _ _ rfl w.heap.size _ rfl rfl 39 _ HF16.out size6 rfl scanC_one ?_; generalize hwZ : World.setRow _ _ _ = wZ))
                    have HZ4 := Lib.hid (show Sm wZ w.heap.size (.slice q m c) y.s NX true NX 0 from by rw [← hwZ]; exact HF16.out.row)
                    have HZB : Hid (Below w.heap.size w wZ) := Lib.hid (by rw [← hwZ]; exact below_setRow8 HQ16.out _ _ (Nat.le_refl _))
                    have HZG := Lib.hid (show Gw encWd wZ w.heap.size (.slice q m c) L from by rw [← hwZ]; exact HY16.out.bySmRow HF16.out wd_notScan _)
                    clear hwZ
                    refine bodyPost_ret (HZ4.out.res1 rfl _ rfl) rfl ?_
                    exact ScQ.of HSTEP.out q m c L HZG.out.gs rfl HK.out HC.out.1 HC.out.2.1 HC.out.2.2 HM2.out HZB.out rfl
                  · have d4 : (NX != (len : Int)) = true := by simpa using hd
                    rw [if_pos (Or.inr (Or.inr (Or.inr (by rw [HLN.out]; exact hd))))] at HSTEP
                    obtain ⟨v18, hv18⟩ : ∃ W, w4.setCell ⟨g5, 5, none⟩ (.int .i64 3) = W := ⟨_, rfl⟩
                    obtain ⟨c180, c181, c182, c183, c184, c185⟩ := H54.out.cells
                    have f18 := H54.out.frozen 5
                    have HS18 : Hid (Sm v18 g5 (.slice q m c) s e false e 3) := Lib.hid (by rw [← hv18]; exact H54.out.setR _)
                    have HF18 : Hid (Sm v18 w.heap.size (.slice none 0 0) 0 0 false 0 0) := Lib.hid (by rw [← hv18]; exact H44.out.other _ _ (Nat.ne_of_lt HG45.out))
                    have HQ18 : Hid (Below w.heap.size w v18) := Lib.hid (by rw [← hv18]; exact HB4.out.setCell (p := ⟨g5, 5, none⟩) (Nat.le_of_lt HG45.out) _)
                    have HY18 : Hid (Gw encWd v18 w.heap.size (.slice q m c) L) := Lib.hid (by rw [← hv18]; exact HG4.out.bySm H54.out wd_notScan _ rfl _)
                    go_wp2_with (first
                      | (refine wpList_ld rfl _ _ rfl _ rfl _ HS18.out.load ?_)
                      | (refine wpList_store_row rfl 39 _ _ rfl w.heap.size _ rfl rfl 39 _ HF18.out size6 rfl scanC_one ?_; generalize hwZ : World.setRow _ _ _ = wZ))
                    have HZ4 := Lib.hid (show Sm wZ w.heap.size (.slice q m c) s e false e 3 from by rw [← hwZ]; exact HF18.out.row)
                    have HZB : Hid (Below w.heap.size w wZ) := Lib.hid (by rw [← hwZ]; exact below_setRow8 HQ18.out _ _ (Nat.le_refl _))
                    have HZG := Lib.hid (show Gw encWd wZ w.heap.size (.slice q m c) L from by rw [← hwZ]; exact HY18.out.bySmRow HF18.out wd_notScan _)
                    clear hwZ
                    refine bodyPost_ret (HZ4.out.res1 rfl _ rfl) rfl ?_
                    exact ScQ.of HSTEP.out q m c L HZG.out.gs rfl HK.out HC.out.1 HC.out.2.1 HC.out.2.2 HM2.out HZB.out rfl
                · have d3 : (y.Z != e) = true := by simpa using hc
                  rw [if_pos (Or.inr (Or.inr (Or.inl hc)))] at HSTEP
                  obtain ⟨v20, hv20⟩ : ∃ W, w4.setCell ⟨g5, 5, none⟩ (.int .i64 3) = W := ⟨_, rfl⟩
                  obtain ⟨c200, c201, c202, c203, c204, c205⟩ := H54.out.cells
                  have f20 := H54.out.frozen 5
                  have HS20 : Hid (Sm v20 g5 (.slice q m c) s e false e 3) := Lib.hid (by rw [← hv20]; exact H54.out.setR _)
                  have HF20 : Hid (Sm v20 w.heap.size (.slice none 0 0) 0 0 false 0 0) := Lib.hid (by rw [← hv20]; exact H44.out.other _ _ (Nat.ne_of_lt HG45.out))
                  have HQ20 : Hid (Below w.heap.size w v20) := Lib.hid (by rw [← hv20]; exact HB4.out.setCell (p := ⟨g5, 5, none⟩) (Nat.le_of_lt HG45.out) _)
                  have HY20 : Hid (Gw encWd v20 w.heap.size (.slice q m c) L) := Lib.hid (by rw [← hv20]; exact HG4.out.bySm H54.out wd_notScan _ rfl _)
                  go_wp2_with (first
                    | (refine wpList_ld rfl _ _ rfl _ rfl _ HS20.out.load ?_)
                    | (refine wpList_store_row rfl 39 _ _ rfl w.heap.size _ rfl rfl 39 _ HF20.out size6 rfl scanC_one ?_; generalize hwZ : World.setRow _ _ _ = wZ))
                  have HZ4 := Lib.hid (show Sm wZ w.heap.size (.slice q m c) s e false e 3 from by rw [← hwZ]; exact HF20.out.row)
                  have HZB : Hid (Below w.heap.size w wZ) := Lib.hid (by rw [← hwZ]; exact below_setRow8 HQ20.out _ _ (Nat.le_refl _))
                  have HZG := Lib.hid (show Gw encWd wZ w.heap.size (.slice q m c) L from by rw [← hwZ]; exact HY20.out.bySmRow HF20.out wd_notScan _)
                  clear hwZ
                  refine bodyPost_ret (HZ4.out.res1 rfl _ rfl) rfl ?_
                  exact ScQ.of HSTEP.out q m c L HZG.out.gs rfl HK.out HC.out.1 HC.out.2.1 HC.out.2.2 HM2.out HZB.out rfl
              · have d2 : (y.N != (m : Int)) = true := by simpa using hb
                rw [if_pos (Or.inr (Or.inl (by rw [HWLN.out]; exact hb)))] at HSTEP
                obtain ⟨v22, hv22⟩ : ∃ W, w4.setCell ⟨g5, 5, none⟩ (.int .i64 3) = W := ⟨_, rfl⟩
                obtain ⟨c220, c221, c222, c223, c224, c225⟩ := H54.out.cells
                have f22 := H54.out.frozen 5
                have HS22 : Hid (Sm v22 g5 (.slice q m c) s e false e 3) := Lib.hid (by rw [← hv22]; exact H54.out.setR _)
                have HF22 : Hid (Sm v22 w.heap.size (.slice none 0 0) 0 0 false 0 0) := Lib.hid (by rw [← hv22]; exact H44.out.other _ _ (Nat.ne_of_lt HG45.out))
                have HQ22 : Hid (Below w.heap.size w v22) := Lib.hid (by rw [← hv22]; exact HB4.out.setCell (p := ⟨g5, 5, none⟩) (Nat.le_of_lt HG45.out) _)
                have HY22 : Hid (Gw encWd v22 w.heap.size (.slice q m c) L) := Lib.hid (by rw [← hv22]; exact HG4.out.bySm H54.out wd_notScan _ rfl _)
                go_wp2_with (first
                  | (refine wpList_ld rfl _ _ rfl _ rfl _ HS22.out.load ?_)
                  | (refine wpList_store_row rfl 39 _ _ rfl w.heap.size _ rfl rfl 39 _ HF22.out size6 rfl scanC_one ?_; generalize hwZ : World.setRow _ _ _ = wZ))
                have HZ4 := Lib.hid (show Sm wZ w.heap.size (.slice q m c) s e false e 3 from by rw [← hwZ]; exact HF22.out.row)
                have HZB : Hid (Below w.heap.size w wZ) := Lib.hid (by rw [← hwZ]; exact below_setRow8 HQ22.out _ _ (Nat.le_refl _))
                have HZG := Lib.hid (show Gw encWd wZ w.heap.size (.slice q m c) L from by rw [← hwZ]; exact HY22.out.bySmRow HF22.out wd_notScan _)
                clear hwZ
                refine bodyPost_ret (HZ4.out.res1 rfl _ rfl) rfl ?_
                exact ScQ.of HSTEP.out q m c L HZG.out.gs rfl HK.out HC.out.1 HC.out.2.1 HC.out.2.2 HM2.out HZB.out rfl
            · skip
              rw [if_neg h8] at HSTEP
              have HBPe := Lib.hid (HBP.out e w4 (HZ.out.later HB4.out) (by omega))
              have HBE := Lib.hid fun h0 => bpF_end HBY.out (a := e) (seg := n) h0
              have HBW := Lib.hid fun h0 => bpF_count HBY.out (a := e) (seg := n) h0
              rw [HLN.out] at HBE
              obtain ⟨BP, hBP⟩ : ∃ b, bpF zs e n = b := ⟨_, rfl⟩
              rw [hBP] at HBPe HBE HBW HSTEP
              clear hBP
              obtain ⟨ws, be, bs, berr⟩ := BP
              dsimp only at HBPe HBE HBW HSTEP
              by_cases hE : E = 0
              · subst hE
                have hk8 : (y.k == 8) = false := by simp; exact fun h1 => h8 ⟨by first | rfl | trivial, h1⟩
                go_upto_region 24 with (go_at_call 26; refine HBPe.out.mono ?_; rintro e w5 ⟨q2, n2, c2, L2, rfl, hg2, hl2, hk2, hn2, hc2, hq2, hb5⟩; have HB45 := Lib.hid hb5; have HG2 := Lib.hid hg2; have HL2 := Lib.hid hl2; have HK2 := Lib.hid hk2; have HC2 := Lib.hid (And.intro hn2 (And.intro hc2 hq2)); clear hb5 hg2 hl2 hk2 hn2 hc2 hq2)
                have HB5 := Lib.hid (below_step HB4.out HB45.out)
                have H45 := Lib.hid (H44.out.later HB45.out)
                have H55 := Lib.hid (H54.out.later HB45.out)
                have HG5 := Lib.hid (HG4.out.later HB45.out)
                clear r0 r1 r2 r3 r4 r5
                obtain ⟨r0, r1, r2, r3, r4, r5⟩ := H55.out.cells
                by_cases hbe : berr = 0
                · subst hbe
                  rw [if_neg (by simp)] at HSTEP
                  obtain ⟨b1, b2, b3⟩ := HBE.out (by first | rfl | trivial)
                  obtain ⟨b4, hw0⟩ := HBW.out (by first | rfl | trivial)
                  have HN2 := Lib.hid HG2.out.len
                  have hwn : ws.length = n2 := by rw [← HL2.out, List.length_map, HN2.out]
                  rw [hwn] at b4
                  have hn0 : 0 < n2 := by
                    have h9 := List.length_pos_iff.2 hw0
                    omega
                  obtain ⟨bb, oo, x0, rfl, hx0, hxm, hr0⟩ := HG2.out.word 0 hn0
                  have hsq := hr0 1 (.int .u64 x0.1.s) rfl
                  rw [Nat.zero_mul, Nat.add_zero] at hsq
                  have hfs : firstS ws = x0.1.s := by
                    have hh := HL2.out
                    cases L2 with
                    | nil => simp at hx0
                    | cons z zs2 =>
                      simp only [List.getElem?_cons_zero, Option.some.injEq] at hx0
                      subst hx0
                      rw [← hh]
                      rfl
                  rw [hfs] at HSTEP
                  have hn0i : (0 : Int) < (n2 : Int) := by omega
                  have HFB : Hid (21 ≤ be ∧ be ≤ len ∧ ((m + n2 : Nat) : Int) * 21 ≤ be ∧ e < be ∧ m + n2 ≤ 2097216) := Lib.hid (by omega)
                  clear hr0 hx0 hxm hfs hw0 hwn b1 b2 b3 b4
                  by_cases hq : x0.1.s ≤ s
                  · have d1 : decide (x0.1.s ≤ s) = true := decide_eq_true hq
                    go_quiet (fail)
                    have hBD : Below w5.heap.size w5 (w5.drewN nq) := below_drewN (Below.refl _ _) _
                    generalize w5.drewN nq = w6 at *
                    have HB56 := Lib.hid hBD
                    have HB6 := Lib.hid (below_step HB5.out hBD)
                    have H46 := Lib.hid (H45.out.later hBD)
                    have H56 := Lib.hid (H55.out.later hBD)
                    have HG6 := Lib.hid (HG5.out.later hBD)
                    have HG26 := Lib.hid (HG2.out.later hBD)
                    clear hBD r0 r1 r2 r3 r4 r5
                    rw [if_pos hq] at HSTEP
                    obtain ⟨v24, hv24⟩ : ∃ W, w6.setCell ⟨g5, 5, none⟩ (.int .i64 3) = W := ⟨_, rfl⟩
                    obtain ⟨c240, c241, c242, c243, c244, c245⟩ := H56.out.cells
                    have f24 := H56.out.frozen 5
                    have HS24 : Hid (Sm v24 g5 (.slice q m c) s e false e 3) := Lib.hid (by rw [← hv24]; exact H56.out.setR _)
                    have HF24 : Hid (Sm v24 w.heap.size (.slice none 0 0) 0 0 false 0 0) := Lib.hid (by rw [← hv24]; exact H46.out.other _ _ (Nat.ne_of_lt HG45.out))
                    have HQ24 : Hid (Below w.heap.size w v24) := Lib.hid (by rw [← hv24]; exact HB6.out.setCell (p := ⟨g5, 5, none⟩) (Nat.le_of_lt HG45.out) _)
                    have HY24 : Hid (Gw encWd v24 w.heap.size (.slice q m c) L) := Lib.hid (by rw [← hv24]; exact HG6.out.bySm H56.out wd_notScan _ rfl _)
                    go_wp2_with (first
                      | (refine wpList_ld rfl _ _ rfl _ rfl _ HS24.out.load ?_)
                      | (refine wpList_store_row rfl 39 _ _ rfl w.heap.size _ rfl rfl 39 _ HF24.out size6 rfl scanC_one ?_; generalize hwZ : World.setRow _ _ _ = wZ))
                    have HZ4 := Lib.hid (show Sm wZ w.heap.size (.slice q m c) s e false e 3 from by rw [← hwZ]; exact HF24.out.row)
                    have HZB : Hid (Below w.heap.size w wZ) := Lib.hid (by rw [← hwZ]; exact below_setRow8 HQ24.out _ _ (Nat.le_refl _))
                    have HZG := Lib.hid (show Gw encWd wZ w.heap.size (.slice q m c) L from by rw [← hwZ]; exact HY24.out.bySmRow HF24.out wd_notScan _)
                    clear hwZ
                    refine bodyPost_ret (HZ4.out.res1 rfl _ rfl) rfl ?_
                    exact ScQ.of HSTEP.out q m c L HZG.out.gs rfl HK.out HC.out.1 HC.out.2.1 HC.out.2.2 HM2.out HZB.out rfl
                  · have d1 : decide (x0.1.s ≤ s) = false := decide_eq_false hq
                    go_quiet (fail)
                    have hBD : Below w5.heap.size w5 (w5.drewN nq) := below_drewN (Below.refl _ _) _
                    generalize w5.drewN nq = w6 at *
                    have HB56 := Lib.hid hBD
                    have HB6 := Lib.hid (below_step HB5.out hBD)
                    have H46 := Lib.hid (H45.out.later hBD)
                    have H56 := Lib.hid (H55.out.later hBD)
                    have HG6 := Lib.hid (HG5.out.later hBD)
                    have HG26 := Lib.hid (HG2.out.later hBD)
                    clear hBD r0 r1 r2 r3 r4 r5
                    rw [if_neg hq] at HSTEP
                    obtain ⟨r0, r1, r2, r3, r4, r5⟩ := H56.out.cells
                    have fr0 := H56.out.frozen 0
                    obtain ⟨m7, hm7⟩ : ∃ a, m + n2 = a := ⟨_, rfl⟩
                    have HM7 := Lib.hid hm7
                    rw [hm7] at HFB
                    clear hm7
                    go_wp2_with (refine wpList_append_gen encWd rfl _ _ 36 rfl Try.underlying36 wzero 96 infoWd wzero_size (by decide) w.heap.size _ L rfl HG6.out _ n2 c2 L2 rfl HG26.out HC2.out.2.2 (by rw [HM.out, HM7.out]; exact HFB.out.2.2.2.2) HB6.out.size ?_; intro v7 w7 ho7 hg7; have HB7 := Lib.hid (below_new_gw HB6.out HG6.out hg7 HB6.out.size); have H57 := Lib.hid (H56.out.byGw HG6.out wd_notScan hg7); have H47 := Lib.hid (H46.out.byGw HG6.out wd_notScan hg7); obtain ⟨q7, c7, hv7, _, _, _, _⟩ := ho7.open; have hm7 : (L ++ L2).length = m7 := (by rw [List.length_append, HM.out, HN2.out]; exact HM7.out); rw [hm7] at hv7; subst hv7; have HG7 := Lib.hid ho7; clear ho7 hg7 hm7; obtain ⟨v27, hv27⟩ : ∃ W, w7.setCell ⟨g5, 0, none⟩ (.slice q7 m7 c7) = W := ⟨_, rfl⟩; obtain ⟨c270, c271, c272, c273, c274, c275⟩ := H57.out.cells; have f27 := H57.out.frozen 0; have HS27 : Hid (Sm v27 g5 (.slice q7 m7 c7) s e false e 0) := Lib.hid (by rw [← hv27]; exact H57.out.setV _); have HF27 : Hid (Sm v27 w.heap.size (.slice none 0 0) 0 0 false 0 0) := Lib.hid (by rw [← hv27]; exact H47.out.other _ _ (Nat.ne_of_lt HG45.out)); have HQ27 : Hid (Below w.heap.size w v27) := Lib.hid (by rw [← hv27]; exact HB7.out.setCell (p := ⟨g5, 0, none⟩) (Nat.le_of_lt HG45.out) _); have HY27 : Hid (Gw encWd v27 w.heap.size (.slice q7 m7 c7) (L ++ L2)) := Lib.hid (by rw [← hv27]; exact HG7.out.bySm H57.out wd_notScan _ rfl _); obtain ⟨v28, hv28⟩ : ∃ W, v27.setCell ⟨g5, 1, none⟩ (.int .u64 bs) = W := ⟨_, rfl⟩; obtain ⟨c280, c281, c282, c283, c284, c285⟩ := HS27.out.cells; have f28 := HS27.out.frozen 1; have HS28 : Hid (Sm v28 g5 (.slice q7 m7 c7) bs e false e 0) := Lib.hid (by rw [← hv28]; exact HS27.out.setS _); have HF28 : Hid (Sm v28 w.heap.size (.slice none 0 0) 0 0 false 0 0) := Lib.hid (by rw [← hv28]; exact HF27.out.other _ _ (Nat.ne_of_lt HG45.out)); have HQ28 : Hid (Below w.heap.size w v28) := Lib.hid (by rw [← hv28]; exact HQ27.out.setCell (p := ⟨g5, 1, none⟩) (Nat.le_of_lt HG45.out) _); have HY28 : Hid (Gw encWd v28 w.heap.size (.slice q7 m7 c7) (L ++ L2)) := Lib.hid (by rw [← hv28]; exact HY27.out.bySm HS27.out wd_notScan _ rfl _); obtain ⟨v29, hv29⟩ : ∃ W, v28.setCell ⟨g5, 2, none⟩ (.int .i64 be) = W := ⟨_, rfl⟩; obtain ⟨c290, c291, c292, c293, c294, c295⟩ := HS28.out.cells; have f29 := HS28.out.frozen 2; have HS29 : Hid (Sm v29 g5 (.slice q7 m7 c7) bs be false e 0) := Lib.hid (by rw [← hv29]; exact HS28.out.setE _); have HF29 : Hid (Sm v29 w.heap.size (.slice none 0 0) 0 0 false 0 0) := Lib.hid (by rw [← hv29]; exact HF28.out.other _ _ (Nat.ne_of_lt HG45.out)); have HQ29 : Hid (Below w.heap.size w v29) := Lib.hid (by rw [← hv29]; exact HQ28.out.setCell (p := ⟨g5, 2, none⟩) (Nat.le_of_lt HG45.out) _); have HY29 : Hid (Gw encWd v29 w.heap.size (.slice q7 m7 c7) (L ++ L2)) := Lib.hid (by rw [← hv29]; exact HY28.out.bySm HS28.out wd_notScan _ rfl _); obtain ⟨v30, hv30⟩ : ∃ W, v29.setCell ⟨g5, 4, none⟩ (.int .i64 be) = W := ⟨_, rfl⟩; obtain ⟨c300, c301, c302, c303, c304, c305⟩ := HS29.out.cells; have f30 := HS29.out.frozen 4; have HS30 : Hid (Sm v30 g5 (.slice q7 m7 c7) bs be false be 0) := Lib.hid (by rw [← hv30]; exact HS29.out.setA _); have HF30 : Hid (Sm v30 w.heap.size (.slice none 0 0) 0 0 false 0 0) := Lib.hid (by rw [← hv30]; exact HF29.out.other _ _ (Nat.ne_of_lt HG45.out)); have HQ30 : Hid (Below w.heap.size w v30) := Lib.hid (by rw [← hv30]; exact HQ29.out.setCell (p := ⟨g5, 4, none⟩) (Nat.le_of_lt HG45.out) _); have HY30 : Hid (Gw encWd v30 w.heap.size (.slice q7 m7 c7) (L ++ L2)) := Lib.hid (by rw [← hv30]; exact HY29.out.bySm HS29.out wd_notScan _ rfl _))
                    have HLL : Hid ((L ++ L2).length = m7) := Lib.hid (by rw [List.length_append, HM.out, HN2.out]; exact HM7.out)
                    refine ⟨⟨bs, be, L ++ L2, q7, m7, c7, HS30, HF30, HY30, Lib.hid (by rw [HSTEP.out, wdL_append, show wdL L2 = ws from HL2.out]), Lib.hid (fun y hy => ?_), Lib.hid (by rw [HLL.out]; exact ⟨HFB.out.1, HFB.out.2.1, HFB.out.2.2.1⟩), HQ30⟩, ?_⟩
                    · rcases List.mem_append.1 hy with h1 | h1
                      · exact HK.out y h1
                      · exact HK2.out y h1
                    · rw [H5r.out.cells.2.2.1, HS30.out.cells.2.2.1]
                      have := HFB.out
                      dsimp only
                      omega
                · have hbn : (berr == 0) = false := by simpa using hbe
                  have hbn2 : (berr != 0) = true := by simpa using hbe
                  go_quiet (fail)
                  have hBD : Below w5.heap.size w5 (w5.drewN nq) := below_drewN (Below.refl _ _) _
                  generalize w5.drewN nq = w6 at *
                  have HB56 := Lib.hid hBD
                  have HB6 := Lib.hid (below_step HB5.out hBD)
                  have H46 := Lib.hid (H45.out.later hBD)
                  have H56 := Lib.hid (H55.out.later hBD)
                  have HG6 := Lib.hid (HG5.out.later hBD)
                  have HG26 := Lib.hid (HG2.out.later hBD)
                  clear hBD r0 r1 r2 r3 r4 r5
                  rw [if_pos hbe] at HSTEP
                  obtain ⟨v31, hv31⟩ : ∃ W, w6.setCell ⟨g5, 5, none⟩ (.int .i64 berr) = W := ⟨_, rfl⟩
                  obtain ⟨c310, c311, c312, c313, c314, c315⟩ := H56.out.cells
                  have f31 := H56.out.frozen 5
                  have HS31 : Hid (Sm v31 g5 (.slice q m c) s e false e berr) := Lib.hid (by rw [← hv31]; exact H56.out.setR _)
                  have HF31 : Hid (Sm v31 w.heap.size (.slice none 0 0) 0 0 false 0 0) := Lib.hid (by rw [← hv31]; exact H46.out.other _ _ (Nat.ne_of_lt HG45.out))
                  have HQ31 : Hid (Below w.heap.size w v31) := Lib.hid (by rw [← hv31]; exact HB6.out.setCell (p := ⟨g5, 5, none⟩) (Nat.le_of_lt HG45.out) _)
                  have HY31 : Hid (Gw encWd v31 w.heap.size (.slice q m c) L) := Lib.hid (by rw [← hv31]; exact HG6.out.bySm H56.out wd_notScan _ rfl _)
                  go_wp2_with (first
                    | (refine wpList_ld rfl _ _ rfl _ rfl _ HS31.out.load ?_)
                    | (refine wpList_store_row rfl 39 _ _ rfl w.heap.size _ rfl rfl 39 _ HF31.out size6 rfl scanC_one ?_; generalize hwZ : World.setRow _ _ _ = wZ))
                  have HZ4 := Lib.hid (show Sm wZ w.heap.size (.slice q m c) s e false e berr from by rw [← hwZ]; exact HF31.out.row)
                  have HZB : Hid (Below w.heap.size w wZ) := Lib.hid (by rw [← hwZ]; exact below_setRow8 HQ31.out _ _ (Nat.le_refl _))
                  have HZG := Lib.hid (show Gw encWd wZ w.heap.size (.slice q m c) L from by rw [← hwZ]; exact HY31.out.bySmRow HF31.out wd_notScan _)
                  clear hwZ
                  refine bodyPost_ret (HZ4.out.res1 rfl _ rfl) rfl ?_
                  exact ScQ.of HSTEP.out q m c L HZG.out.gs rfl HK.out HC.out.1 HC.out.2.1 HC.out.2.2 HM2.out HZB.out rfl
              · have hE0 : (E == 0) = false := by simpa using hE
                go_upto_region 24 with (go_at_call 26; refine HBPe.out.mono ?_; rintro e w5 ⟨q2, n2, c2, L2, rfl, hg2, hl2, hk2, hn2, hc2, hq2, hb5⟩; have HB45 := Lib.hid hb5; have HG2 := Lib.hid hg2; have HL2 := Lib.hid hl2; have HK2 := Lib.hid hk2; have HC2 := Lib.hid (And.intro hn2 (And.intro hc2 hq2)); clear hb5 hg2 hl2 hk2 hn2 hc2 hq2)
                have HB5 := Lib.hid (below_step HB4.out HB45.out)
                have H45 := Lib.hid (H44.out.later HB45.out)
                have H55 := Lib.hid (H54.out.later HB45.out)
                have HG5 := Lib.hid (HG4.out.later HB45.out)
                clear r0 r1 r2 r3 r4 r5
                obtain ⟨r0, r1, r2, r3, r4, r5⟩ := H55.out.cells
                by_cases hbe : berr = 0
                · subst hbe
                  rw [if_neg (by simp)] at HSTEP
                  obtain ⟨b1, b2, b3⟩ := HBE.out (by first | rfl | trivial)
                  obtain ⟨b4, hw0⟩ := HBW.out (by first | rfl | trivial)
                  have HN2 := Lib.hid HG2.out.len
                  have hwn : ws.length = n2 := by rw [← HL2.out, List.length_map, HN2.out]
                  rw [hwn] at b4
                  have hn0 : 0 < n2 := by
                    have h9 := List.length_pos_iff.2 hw0
                    omega
                  obtain ⟨bb, oo, x0, rfl, hx0, hxm, hr0⟩ := HG2.out.word 0 hn0
                  have hsq := hr0 1 (.int .u64 x0.1.s) rfl
                  rw [Nat.zero_mul, Nat.add_zero] at hsq
                  have hfs : firstS ws = x0.1.s := by
                    have hh := HL2.out
                    cases L2 with
                    | nil => simp at hx0
                    | cons z zs2 =>
                      simp only [List.getElem?_cons_zero, Option.some.injEq] at hx0
                      subst hx0
                      rw [← hh]
                      rfl
                  rw [hfs] at HSTEP
                  have hn0i : (0 : Int) < (n2 : Int) := by omega
                  have HFB : Hid (21 ≤ be ∧ be ≤ len ∧ ((m + n2 : Nat) : Int) * 21 ≤ be ∧ e < be ∧ m + n2 ≤ 2097216) := Lib.hid (by omega)
                  clear hr0 hx0 hxm hfs hw0 hwn b1 b2 b3 b4
                  by_cases hq : x0.1.s ≤ s
                  · have d1 : decide (x0.1.s ≤ s) = true := decide_eq_true hq
                    go_quiet (fail)
                    have hBD : Below w5.heap.size w5 (w5.drewN nq) := below_drewN (Below.refl _ _) _
                    generalize w5.drewN nq = w6 at *
                    have HB56 := Lib.hid hBD
                    have HB6 := Lib.hid (below_step HB5.out hBD)
                    have H46 := Lib.hid (H45.out.later hBD)
                    have H56 := Lib.hid (H55.out.later hBD)
                    have HG6 := Lib.hid (HG5.out.later hBD)
                    have HG26 := Lib.hid (HG2.out.later hBD)
                    clear hBD r0 r1 r2 r3 r4 r5
                    rw [if_pos hq] at HSTEP
                    obtain ⟨v33, hv33⟩ : ∃ W, w6.setCell ⟨g5, 5, none⟩ (.int .i64 3) = W := ⟨_, rfl⟩
                    obtain ⟨c330, c331, c332, c333, c334, c335⟩ := H56.out.cells
                    have f33 := H56.out.frozen 5
                    have HS33 : Hid (Sm v33 g5 (.slice q m c) s e false e 3) := Lib.hid (by rw [← hv33]; exact H56.out.setR _)
                    have HF33 : Hid (Sm v33 w.heap.size (.slice none 0 0) 0 0 false 0 0) := Lib.hid (by rw [← hv33]; exact H46.out.other _ _ (Nat.ne_of_lt HG45.out))
                    have HQ33 : Hid (Below w.heap.size w v33) := Lib.hid (by rw [← hv33]; exact HB6.out.setCell (p := ⟨g5, 5, none⟩) (Nat.le_of_lt HG45.out) _)
                    have HY33 : Hid (Gw encWd v33 w.heap.size (.slice q m c) L) := Lib.hid (by rw [← hv33]; exact HG6.out.bySm H56.out wd_notScan _ rfl _)
                    go_wp2_with (first
                      | (refine wpList_ld rfl _ _ rfl _ rfl _ HS33.out.load ?_)
                      | (refine wpList_store_row rfl 39 _ _ rfl w.heap.size _ rfl rfl 39 _ HF33.out size6 rfl scanC_one ?_; generalize hwZ : World.setRow _ _ _ = wZ))
                    have HZ4 := Lib.hid (show Sm wZ w.heap.size (.slice q m c) s e false e 3 from by rw [← hwZ]; exact HF33.out.row)
                    have HZB : Hid (Below w.heap.size w wZ) := Lib.hid (by rw [← hwZ]; exact below_setRow8 HQ33.out _ _ (Nat.le_refl _))
                    have HZG := Lib.hid (show Gw encWd wZ w.heap.size (.slice q m c) L from by rw [← hwZ]; exact HY33.out.bySmRow HF33.out wd_notScan _)
                    clear hwZ
                    refine bodyPost_ret (HZ4.out.res1 rfl _ rfl) rfl ?_
                    exact ScQ.of HSTEP.out q m c L HZG.out.gs rfl HK.out HC.out.1 HC.out.2.1 HC.out.2.2 HM2.out HZB.out rfl
                  · have d1 : decide (x0.1.s ≤ s) = false := decide_eq_false hq
                    go_quiet (fail)
                    have hBD : Below w5.heap.size w5 (w5.drewN nq) := below_drewN (Below.refl _ _) _
                    generalize w5.drewN nq = w6 at *
                    have HB56 := Lib.hid hBD
                    have HB6 := Lib.hid (below_step HB5.out hBD)
                    have H46 := Lib.hid (H45.out.later hBD)
                    have H56 := Lib.hid (H55.out.later hBD)
                    have HG6 := Lib.hid (HG5.out.later hBD)
                    have HG26 := Lib.hid (HG2.out.later hBD)
                    clear hBD r0 r1 r2 r3 r4 r5
                    rw [if_neg hq] at HSTEP
                    obtain ⟨r0, r1, r2, r3, r4, r5⟩ := H56.out.cells
                    have fr0 := H56.out.frozen 0
                    obtain ⟨m7, hm7⟩ : ∃ a, m + n2 = a := ⟨_, rfl⟩
                    have HM7 := Lib.hid hm7
                    rw [hm7] at HFB
                    clear hm7
                    go_wp2_with (refine wpList_append_gen encWd rfl _ _ 36 rfl Try.underlying36 wzero 96 infoWd wzero_size (by decide) w.heap.size _ L rfl HG6.out _ n2 c2 L2 rfl HG26.out HC2.out.2.2 (by rw [HM.out, HM7.out]; exact HFB.out.2.2.2.2) HB6.out.size ?_; intro v7 w7 ho7 hg7; have HB7 := Lib.hid (below_new_gw HB6.out HG6.out hg7 HB6.out.size); have H57 := Lib.hid (H56.out.byGw HG6.out wd_notScan hg7); have H47 := Lib.hid (H46.out.byGw HG6.out wd_notScan hg7); obtain ⟨q7, c7, hv7, _, _, _, _⟩ := ho7.open; have hm7 : (L ++ L2).length = m7 := (by rw [List.length_append, HM.out, HN2.out]; exact HM7.out); rw [hm7] at hv7; subst hv7; have HG7 := Lib.hid ho7; clear ho7 hg7 hm7; obtain ⟨v36, hv36⟩ : ∃ W, w7.setCell ⟨g5, 0, none⟩ (.slice q7 m7 c7) = W := ⟨_, rfl⟩; obtain ⟨c360, c361, c362, c363, c364, c365⟩ := H57.out.cells; have f36 := H57.out.frozen 0; have HS36 : Hid (Sm v36 g5 (.slice q7 m7 c7) s e false e 0) := Lib.hid (by rw [← hv36]; exact H57.out.setV _); have HF36 : Hid (Sm v36 w.heap.size (.slice none 0 0) 0 0 false 0 0) := Lib.hid (by rw [← hv36]; exact H47.out.other _ _ (Nat.ne_of_lt HG45.out)); have HQ36 : Hid (Below w.heap.size w v36) := Lib.hid (by rw [← hv36]; exact HB7.out.setCell (p := ⟨g5, 0, none⟩) (Nat.le_of_lt HG45.out) _); have HY36 : Hid (Gw encWd v36 w.heap.size (.slice q7 m7 c7) (L ++ L2)) := Lib.hid (by rw [← hv36]; exact HG7.out.bySm H57.out wd_notScan _ rfl _); obtain ⟨v37, hv37⟩ : ∃ W, v36.setCell ⟨g5, 1, none⟩ (.int .u64 bs) = W := ⟨_, rfl⟩; obtain ⟨c370, c371, c372, c373, c374, c375⟩ := HS36.out.cells; have f37 := HS36.out.frozen 1; have HS37 : Hid (Sm v37 g5 (.slice q7 m7 c7) bs e false e 0) := Lib.hid (by rw [← hv37]; exact HS36.out.setS _); have HF37 : Hid (Sm v37 w.heap.size (.slice none 0 0) 0 0 false 0 0) := Lib.hid (by rw [← hv37]; exact HF36.out.other _ _ (Nat.ne_of_lt HG45.out)); have HQ37 : Hid (Below w.heap.size w v37) := Lib.hid (by rw [← hv37]; exact HQ36.out.setCell (p := ⟨g5, 1, none⟩) (Nat.le_of_lt HG45.out) _); have HY37 : Hid (Gw encWd v37 w.heap.size (.slice q7 m7 c7) (L ++ L2)) := Lib.hid (by rw [← hv37]; exact HY36.out.bySm HS36.out wd_notScan _ rfl _); obtain ⟨v38, hv38⟩ : ∃ W, v37.setCell ⟨g5, 2, none⟩ (.int .i64 be) = W := ⟨_, rfl⟩; obtain ⟨c380, c381, c382, c383, c384, c385⟩ := HS37.out.cells; have f38 := HS37.out.frozen 2; have HS38 : Hid (Sm v38 g5 (.slice q7 m7 c7) bs be false e 0) := Lib.hid (by rw [← hv38]; exact HS37.out.setE _); have HF38 : Hid (Sm v38 w.heap.size (.slice none 0 0) 0 0 false 0 0) := Lib.hid (by rw [← hv38]; exact HF37.out.other _ _ (Nat.ne_of_lt HG45.out)); have HQ38 : Hid (Below w.heap.size w v38) := Lib.hid (by rw [← hv38]; exact HQ37.out.setCell (p := ⟨g5, 2, none⟩) (Nat.le_of_lt HG45.out) _); have HY38 : Hid (Gw encWd v38 w.heap.size (.slice q7 m7 c7) (L ++ L2)) := Lib.hid (by rw [← hv38]; exact HY37.out.bySm HS37.out wd_notScan _ rfl _); obtain ⟨v39, hv39⟩ : ∃ W, v38.setCell ⟨g5, 4, none⟩ (.int .i64 be) = W := ⟨_, rfl⟩; obtain ⟨c390, c391, c392, c393, c394, c395⟩ := HS38.out.cells; have f39 := HS38.out.frozen 4; have HS39 : Hid (Sm v39 g5 (.slice q7 m7 c7) bs be false be 0) := Lib.hid (by rw [← hv39]; exact HS38.out.setA _); have HF39 : Hid (Sm v39 w.heap.size (.slice none 0 0) 0 0 false 0 0) := Lib.hid (by rw [← hv39]; exact HF38.out.other _ _ (Nat.ne_of_lt HG45.out)); have HQ39 : Hid (Below w.heap.size w v39) := Lib.hid (by rw [← hv39]; exact HQ38.out.setCell (p := ⟨g5, 4, none⟩) (Nat.le_of_lt HG45.out) _); have HY39 : Hid (Gw encWd v39 w.heap.size (.slice q7 m7 c7) (L ++ L2)) := Lib.hid (by rw [← hv39]; exact HY38.out.bySm HS38.out wd_notScan _ rfl _))
                    have HLL : Hid ((L ++ L2).length = m7) := Lib.hid (by rw [List.length_append, HM.out, HN2.out]; exact HM7.out)
                    refine ⟨⟨bs, be, L ++ L2, q7, m7, c7, HS39, HF39, HY39, Lib.hid (by rw [HSTEP.out, wdL_append, show wdL L2 = ws from HL2.out]), Lib.hid (fun y hy => ?_), Lib.hid (by rw [HLL.out]; exact ⟨HFB.out.1, HFB.out.2.1, HFB.out.2.2.1⟩), HQ39⟩, ?_⟩
                    · rcases List.mem_append.1 hy with h1 | h1
                      · exact HK.out y h1
                      · exact HK2.out y h1
                    · rw [H5r.out.cells.2.2.1, HS39.out.cells.2.2.1]
                      have := HFB.out
                      dsimp only
                      omega
                · have hbn : (berr == 0) = false := by simpa using hbe
                  have hbn2 : (berr != 0) = true := by simpa using hbe
                  go_quiet (fail)
                  have hBD : Below w5.heap.size w5 (w5.drewN nq) := below_drewN (Below.refl _ _) _
                  generalize w5.drewN nq = w6 at *
                  have HB56 := Lib.hid hBD
                  have HB6 := Lib.hid (below_step HB5.out hBD)
                  have H46 := Lib.hid (H45.out.later hBD)
                  have H56 := Lib.hid (H55.out.later hBD)
                  have HG6 := Lib.hid (HG5.out.later hBD)
                  have HG26 := Lib.hid (HG2.out.later hBD)
                  clear hBD r0 r1 r2 r3 r4 r5
                  rw [if_pos hbe] at HSTEP
                  obtain ⟨v40, hv40⟩ : ∃ W, w6.setCell ⟨g5, 5, none⟩ (.int .i64 berr) = W := ⟨_, rfl⟩
                  obtain ⟨c400, c401, c402, c403, c404, c405⟩ := H56.out.cells
                  have f40 := H56.out.frozen 5
                  have HS40 : Hid (Sm v40 g5 (.slice q m c) s e false e berr) := Lib.hid (by rw [← hv40]; exact H56.out.setR _)
                  have HF40 : Hid (Sm v40 w.heap.size (.slice none 0 0) 0 0 false 0 0) := Lib.hid (by rw [← hv40]; exact H46.out.other _ _ (Nat.ne_of_lt HG45.out))
                  have HQ40 : Hid (Below w.heap.size w v40) := Lib.hid (by rw [← hv40]; exact HB6.out.setCell (p := ⟨g5, 5, none⟩) (Nat.le_of_lt HG45.out) _)
                  have HY40 : Hid (Gw encWd v40 w.heap.size (.slice q m c) L) := Lib.hid (by rw [← hv40]; exact HG6.out.bySm H56.out wd_notScan _ rfl _)
                  go_wp2_with (first
                    | (refine wpList_ld rfl _ _ rfl _ rfl _ HS40.out.load ?_)
                    | (refine wpList_store_row rfl 39 _ _ rfl w.heap.size _ rfl rfl 39 _ HF40.out size6 rfl scanC_one ?_; generalize hwZ : World.setRow _ _ _ = wZ))
                  have HZ4 := Lib.hid (show Sm wZ w.heap.size (.slice q m c) s e false e berr from by rw [← hwZ]; exact HF40.out.row)
                  have HZB : Hid (Below w.heap.size w wZ) := Lib.hid (by rw [← hwZ]; exact below_setRow8 HQ40.out _ _ (Nat.le_refl _))
                  have HZG := Lib.hid (show Gw encWd wZ w.heap.size (.slice q m c) L from by rw [← hwZ]; exact HY40.out.bySmRow HF40.out wd_notScan _)
                  clear hwZ
                  refine bodyPost_ret (HZ4.out.res1 rfl _ rfl) rfl ?_
                  exact ScQ.of HSTEP.out q m c L HZG.out.gs rfl HK.out HC.out.1 HC.out.2.1 HC.out.2.2 HM2.out HZB.out rfl
          · skip
            have hF : scF zs n = ⟨wdL L, s, e, false, e, 0⟩ := by rw [HS.out, scR_step HBY.out, if_neg (by rw [HLN.out]; exact hlt)]
            have HF := Lib.hid hF
            clear hF
            go_wp2_with (first
              | (refine wpList_ld rfl _ _ rfl _ rfl _ H5r.out.load ?_)
              | (refine wpList_store_row rfl 39 _ _ rfl w.heap.size _ rfl rfl 39 _ H4r.out size6 rfl scanC_one ?_; generalize hwZ : World.setRow _ _ _ = wZ))
            have HZ4 := Lib.hid (show Sm wZ w.heap.size (.slice q m c) s e false e 0 from by rw [← hwZ]; exact H4r.out.row)
            have HZB : Hid (Below w.heap.size w wZ) := Lib.hid (by rw [← hwZ]; exact below_setRow8 HB.out _ _ (Nat.le_refl _))
            have HZG := Lib.hid (show Gw encWd wZ w.heap.size (.slice q m c) L from by rw [← hwZ]; exact HG.out.bySmRow H4r.out wd_notScan _)
            clear hwZ
            refine bodyPost_ret (HZ4.out.res1 rfl _ rfl) rfl ?_
            exact ScQ.of HF.out q m c L HZG.out.gs rfl HK.out HC.out.1 HC.out.2.1 HC.out.2.2 HM2.out HZB.out rfl
      · have hkN : (x.N != n) = true := by simpa using hN
        rw [if_pos (Or.inr hN)] at HST
        obtain ⟨v3, hv3⟩ : ∃ W, w2.setCell ⟨g5, 5, none⟩ (.int .i64 3) = W := ⟨_, rfl⟩
        obtain ⟨c30, c31, c32, c33, c34, c35⟩ := H52.out.cells
        have f3 := H52.out.frozen 5
        have HS3 : Hid (Sm v3 g5 (.slice none 0 0) 0 0 false 0 3) := Lib.hid (by rw [← hv3]; exact H52.out.setR _)
        have HF3 : Hid (Sm v3 w.heap.size (.slice none 0 0) 0 0 false 0 0) := Lib.hid (by rw [← hv3]; exact H42.out.other _ _ (Nat.ne_of_lt HG45.out))
        have HQ3 : Hid (Below w.heap.size w v3) := Lib.hid (by rw [← hv3]; exact HW2.out.setCell (p := ⟨g5, 5, none⟩) (Nat.le_of_lt HG45.out) _)
        go_wp2_with (first
          | (refine wpList_ld rfl _ _ rfl _ rfl _ HS3.out.load ?_)
          | (refine wpList_store_row rfl 39 _ _ rfl w.heap.size _ rfl rfl 39 _ HF3.out size6 rfl scanC_one ?_; generalize hwZ : World.setRow _ _ _ = wZ))
        have HZ4 := Lib.hid (show Sm wZ w.heap.size (.slice none 0 0) 0 0 false 0 3 from by rw [← hwZ]; exact HF3.out.row)
        have HZB : Hid (Below w.heap.size w wZ) := Lib.hid (by rw [← hwZ]; exact below_setRow8 HQ3.out _ _ (Nat.le_refl _))
        clear hwZ
        refine bodyPost_ret (HZ4.out.res1 rfl _ rfl) rfl ?_
        exact ScQ.of HST.out none 0 0 [] (Gs.empty _ _ _) rfl (fun x hx => by cases hx) (Nat.le_refl _) (Nat.zero_le _) (fun _ => rfl) (Nat.zero_le _) HZB.out rfl
    · have hk7 : (x.k != 7) = true := by simpa using h7
      rw [if_pos (Or.inl h7)] at HST
      obtain ⟨v1, hv1⟩ : ∃ W, w2.setCell ⟨g5, 5, none⟩ (.int .i64 3) = W := ⟨_, rfl⟩
      obtain ⟨c10, c11, c12, c13, c14, c15⟩ := H52.out.cells
      have f1 := H52.out.frozen 5
      have HS1 : Hid (Sm v1 g5 (.slice none 0 0) 0 0 false 0 3) := Lib.hid (by rw [← hv1]; exact H52.out.setR _)
      have HF1 : Hid (Sm v1 w.heap.size (.slice none 0 0) 0 0 false 0 0) := Lib.hid (by rw [← hv1]; exact H42.out.other _ _ (Nat.ne_of_lt HG45.out))
      have HQ1 : Hid (Below w.heap.size w v1) := Lib.hid (by rw [← hv1]; exact HW2.out.setCell (p := ⟨g5, 5, none⟩) (Nat.le_of_lt HG45.out) _)
      go_wp2_with (first
        | (refine wpList_ld rfl _ _ rfl _ rfl _ HS1.out.load ?_)
        | (refine wpList_store_row rfl 39 _ _ rfl w.heap.size _ rfl rfl 39 _ HF1.out size6 rfl scanC_one ?_; generalize hwZ : World.setRow _ _ _ = wZ))
      have HZ4 := Lib.hid (show Sm wZ w.heap.size (.slice none 0 0) 0 0 false 0 3 from by rw [← hwZ]; exact HF1.out.row)
      have HZB : Hid (Below w.heap.size w wZ) := Lib.hid (by rw [← hwZ]; exact below_setRow8 HQ1.out _ _ (Nat.le_refl _))
      clear hwZ
      refine bodyPost_ret (HZ4.out.res1 rfl _ rfl) rfl ?_
      exact ScQ.of HST.out none 0 0 [] (Gs.empty _ _ _) rfl (fun x hx => by cases hx) (Nat.le_refl _) (Nat.zero_le _) (fun _ => rfl) (Nat.zero_le _) HZB.out rfl
  · have hne : (E0 != 0) = true := by simpa using hz
    rw [if_pos hz] at HST
    obtain ⟨v5, hv5⟩ : ∃ W, w2.setCell ⟨g5, 5, none⟩ (.int .i64 E0) = W := ⟨_, rfl⟩
    obtain ⟨c50, c51, c52, c53, c54, c55⟩ := H52.out.cells
    have f5 := H52.out.frozen 5
    have HS5 : Hid (Sm v5 g5 (.slice none 0 0) 0 0 false 0 E0) := Lib.hid (by rw [← hv5]; exact H52.out.setR _)
    have HF5 : Hid (Sm v5 w.heap.size (.slice none 0 0) 0 0 false 0 0) := Lib.hid (by rw [← hv5]; exact H42.out.other _ _ (Nat.ne_of_lt HG45.out))
    have HQ5 : Hid (Below w.heap.size w v5) := Lib.hid (by rw [← hv5]; exact HW2.out.setCell (p := ⟨g5, 5, none⟩) (Nat.le_of_lt HG45.out) _)
    go_wp2_with (first
      | (refine wpList_ld rfl _ _ rfl _ rfl _ HS5.out.load ?_)
      | (refine wpList_store_row rfl 39 _ _ rfl w.heap.size _ rfl rfl 39 _ HF5.out size6 rfl scanC_one ?_; generalize hwZ : World.setRow _ _ _ = wZ))
    have HZ4 := Lib.hid (show Sm wZ w.heap.size (.slice none 0 0) 0 0 false 0 E0 from by rw [← hwZ]; exact HF5.out.row)
    have HZB : Hid (Below w.heap.size w wZ) := Lib.hid (by rw [← hwZ]; exact below_setRow8 HQ5.out _ _ (Nat.le_refl _))
    clear hwZ
    refine bodyPost_ret (HZ4.out.res1 rfl _ rfl) rfl ?_
    exact ScQ.of HST.out none 0 0 [] (Gs.empty _ _ _) rfl (fun x hx => by cases hx) (Nat.le_refl _) (Nat.zero_le _) (fun _ => rfl) (Nat.zero_le _) HZB.out rfl
end Go.Proofs.Ytjdigncieoaglaa

namespace Go.Proofs.Ytjdigncieoaglaa
set_option linter.unusedVariables false
open Go.RowKit Go.Lib

set_option maxRecDepth 100000 in
set_option maxHeartbeats 2000000 in
theorem segscans_any (hH : csHeadOk) (hS : csScanOk) (p : Option Addr) (len cap : Nat) (zs : List Int) (n : Int) (w : World) (h : Bs w p len zs) (hpc : p = none → cap = 0) (hlc : len ≤ cap) (hcm : cap ≤ maxLen) (hlen : len ≤ 2097216) (hn : -9223372036854775808 ≤ n ∧ n ≤ 9223372036854775807) :
    Calls Try.prog 4 #[.slice p len cap, .int .i64 n] w fun e w' => e = .returned (.bool true) ∧ Below w.heap.size w w' := by
  have HC := Lib.hid (hS p len cap zs n w h hpc hlc hcm hlen hn)
  have HR := Lib.hid fun W (hW : Below w.heap.size w W) => rscan16_any p len cap zs n W (h.later hW) hpc hlc hcm hlen hn
  have HLV := Lib.hid fun W => lives16_any hH hS W
  have HSM := Lib.hid fun q q2 m c c2 L M F W hL hM he hk hm => rsame16_any q q2 m c c2 L M F W hL hM he hk hm
  unfold ScQ at HC HR
  unfold scanV at HC HR HSM
  generalize scF zs n = F at *
  obtain ⟨ws, s, e, sl, a, err⟩ := F
  dsimp only at HC HR
  clear hH hS h
  go_enter Try.func4, Try.ntmps4
  go_wp2_with (first
    | (go_at_call 13; refine HC.out.mono ?_; rintro e1 w1 ⟨q1, m1, c1, L1, rfl, hg1, hl1, hk1, _, _, _, hm1, hb1⟩; have HB1 := Lib.hid hb1; have HG1 := Lib.hid hg1; have HL1 := Lib.hid hl1; have HK1 := Lib.hid hk1; have HM1 := Lib.hid hm1; clear hb1 hg1 hl1 hk1 hm1)
    | (go_at_call 14; refine (HR.out _ HB1.out).mono ?_; rintro e2 w2 ⟨q2, m2, c2, L2, rfl, hg2, hl2, hk2, _, _, _, hm2, hb2⟩; have HB2 := Lib.hid (below_step HB1.out hb2); have HG12 := Lib.hid (HG1.out.later hb2); have HEQ : Hid (m2 = m1) := Lib.hid (by rw [← hg2.len, ← HG1.out.len, ← wdL_length L2, ← wdL_length L1, hl2, HL1.out]); rw [HEQ.out] at hg2 ⊢; have HG2 := Lib.hid hg2; have HW : Hid (wdL L1 = wdL L2) := Lib.hid (by rw [HL1.out, hl2]); clear hb2 hg2 hl2 hk2 hm2)
    | (go_at_call 12; refine (HSM.out q1 q2 m1 c1 c2 L1 L2 ⟨ws, s, e, sl, a, err⟩ _ HG12.out HG2.out HW.out HK1.out HM1.out).mono ?_; rintro e3 w3 ⟨rfl, hb3⟩; have HB3 := Lib.hid (below_step HB2.out hb3); clear hb3)
    | (go_at_call 11; refine (HLV.out _).mono ?_; rintro e7 w7 ⟨rfl, hb7⟩; have HB7 := Lib.hid (below_step HB3.out hb7); clear hb7))
  go_ret
  exact ⟨rfl, HB7.out⟩
end Go.Proofs.Ytjdigncieoaglaa

namespace Go.Proofs.Ytjdigncieoaglaa
set_option linter.unusedVariables false
open Go.RowKit Go.Lib

/-- 'x[:h]' of any row -/
theorem Gs.cut_to {α : Type} {E : Ec α} {W : World} {p : Option Addr} {len : Nat} {L : List α} (hb : Gs E W p len L) (t : TypeId) (ht : Try.prog.underlying t = some (.slice E.t)) (hz : ∀ w, (Go.sizeOf E.t).run Try.prog w = .ok E.k w) (cap h : Nat) (hlc : len ≤ cap) (hh : h ≤ len) :
    (∀ W', (Instr.slice t (.slice p len cap) none (some (.int .i64 (h : Int))) none).run Try.prog W' = .ok (.slice p h cap) W') ∧ Gs E W p h (L.take h) := by
  have ht' : Try.prog.underlying t = some (.slice (Try.prog.elem t)) := by simp [Program.elem, ht]
  have he : Try.prog.elem t = E.t := by simp [Program.elem, ht]
  refine ⟨fun W' => ?_, hb.take h hh⟩
  rw [run_slice_h W' t _ _ _ ht' .i64 _ (by omega) (by omega), he, hz]
  cases p <;> simp [Result.andThen, sliced, Addr.add]
/-- words outlive what is done to a scan -/
theorem Gs.bySm {w w' : World} {q : Option Addr} {m g : Nat} {L : List Wx} {v : Value} {s e a err : Int} {sl : Bool} (h : Gs encWd w q m L) (hs : Sm w g v s e sl a err) (hk : ∀ k, k ≠ g → w'.heap[k]? = w.heap[k]?) : Gs encWd w' q m L := by
  obtain ⟨h1, h3⟩ := h
  refine ⟨h1, ?_⟩
  rcases h3 with h3 | ⟨b, off, hp, hc⟩
  · exact Or.inl h3
  · refine Or.inr ⟨b, off, hp, fun j hj i u hu => ?_⟩
    have hb : b ≠ g := by
      rintro rfl
      have hx : (encWd.f (L.getD j encWd.d)).length = 39 := encWd.len _
      have h9 := hc j hj 38 _ (List.getElem?_eq_getElem (show 38 < (encWd.f (L.getD j encWd.d)).length by omega))
      rw [cell_of_row w b _ _ _ _ hs, Array.getElem?_eq_none (by simp <;> omega)] at h9
      cases h9
    rw [World.cell?_of_block (hk b hb)]
    exact hc j hj i u hu
theorem wdL_take (L : List Wx) (k : Nat) : wdL (L.take k) = (wdL L).take k := by
  unfold wdL
  rw [List.map_take]
theorem scF_in {zs : List Int} (hz : Byt zs) (n : Int) : 0 ≤ (scF zs n).e ∧ (scF zs n).e ≤ zs.length := by
  rw [scF_start hz]
  split
  · show (0 : Int) ≤ 0 ∧ (0 : Int) ≤ _
    omega
  rename_i h1
  obtain ⟨_, h2, h3⟩ := rp_next hz (Decidable.of_not_not h1)
  split
  · show (0 : Int) ≤ 0 ∧ (0 : Int) ≤ _
    omega
  · have h4 := scR_grows hz n _ [] (rpR zs 0).s (rpN zs 0) (Nat.le_refl _) h3
    omega
/-- a first part's scan, beside the whole's -/
theorem scF_part {zs : List Int} (hz : Byt zs) (n : Int) (k : Nat) (hk : k ≤ zs.length) : (∃ more, (scF zs n).ws = (scF (zs.take k) n).ws ++ more) ∧ 0 ≤ (scF (zs.take k) n).e ∧ (scF (zs.take k) n).e ≤ k := by
  have hz0 : Byt (zs.take k) := hz.take k
  have hz1 : Byt (zs.take k ++ zs.drop k) := by rw [List.take_append_drop]; exact hz
  have h := scF_more (zs := zs.take k) (zs.drop k) hz1 hz0 n
  rw [List.take_append_drop, List.length_take, Nat.min_eq_left hk] at h
  exact ⟨h.1, (scF_in hz0 n).1, h.2⟩
/-- what was found is found alone -/
theorem scF_alone {zs : List Int} (hz : Byt zs) (n : Int) (k : Nat) (hk : k ≤ zs.length) (hk0 : k ≠ 0) (he : (scF zs n).e = k) : (scF (zs.take k) n).err = 0 ∧ (scF (zs.take k) n).e = k ∧ (scF (zs.take k) n).ws = (scF zs n).ws ∧ (scF (zs.take k) n).s = (scF zs n).s := by
  have hz0 : Byt (zs.take k) := hz.take k
  have hz1 : Byt (zs.take k ++ zs.drop k) := by rw [List.take_append_drop]; exact hz
  have h := scF_cut (zs := zs.take k) (es := zs.drop k) hz1 hz0 n
  rw [List.take_append_drop, List.length_take, Nat.min_eq_left hk] at h
  exact h (by omega) he
end Go.Proofs.Ytjdigncieoaglaa

namespace Go.Proofs.Ytjdigncieoaglaa
set_option linter.unusedVariables false
open Go.RowKit Go.Lib

/- a region's orders, one after the other -/
theorem take1 {P : Program} {md : Region.Mode} {l tl : List Oper} {Q : Exit → Act → World → Prop} (i : Nat) {oi : Oper} {v : Value} {fuel : Nat} {listed : Array Bool} {a : Act} {w : World} (hl : l.drop i = oi :: tl)
    (hs : Region.noSelect l.toArray = true) (hf : Region.free md l.toArray listed i = true) (hr : (Region.ready md l.toArray listed).contains i = true)
    (hQ : ∀ c a w, Q (.panic c) (a.put oi.dst v) w → Q (.panic c) a w) (hy : Yields P l.toArray oi v a)
    (h : wpAny P md l.toArray Q fuel (listed.setIfInBounds i true) (a.put oi.dst v) w) : wpAny P md l.toArray Q (fuel + 1) listed a w :=
  wpAny_take (getElem?_of_drop hl) hs hf hr hQ hy h
theorem all1 {P : Program} {md : Region.Mode} {l tl : List Oper} {Q : Exit → Act → World → Prop} (i : Nat) {oi : Oper} {fuel : Nat} {listed : Array Bool} {a : Act} {w : World} {rs : List Nat} (hl : l.drop i = oi :: tl)
    (h : ∀ K' : Act → World → Prop, Shut (∀ a w, wpAny P md l.toArray Q fuel (listed.setIfInBounds i true) a w → K' a w) → if Region.wanted oi (yielded l.toArray a.tmps) = true then Oper.wp P oi a w K' Q else K' (a.put oi.dst undef) w)
    (hs : AllReady P md l.toArray Q fuel listed a w rs) : AllReady P md l.toArray Q fuel listed a w (i :: rs) :=
  AllReady.cons (getElem?_of_drop hl) h hs

set_option maxRecDepth 100000 in
set_option maxHeartbeats 2000000 in
theorem segtorn_any (hH : csHeadOk) (hS : csScanOk) (p : Option Addr) (len cap : Nat) (zs : List Int) (n part : Int) (w : World) (h : Bs w p len zs) (hpc : p = none → cap = 0) (hlc : len ≤ cap) (hcm : cap ≤ maxLen) (hlen : len ≤ 2097216) (hn : -9223372036854775808 ≤ n ∧ n ≤ 9223372036854775807) :
    Calls Try.prog 6 #[.slice p len cap, .int .i64 n, .int .i64 part] w fun e w' => e = .returned (.bool true) ∧ Below w.heap.size w w' := by
  have HLV := Lib.hid fun W => lives16_any hH hS W
  by_cases h0 : part < 0
  · clear h
    go_enter Try.func6, Try.ntmps6
    go_wp2_with (go_at_call 11; refine (HLV.out _).mono ?_; rintro e7 w7 ⟨rfl, hb7⟩; have HB7 := Lib.hid hb7; clear hb7)
    go_ret
    exact ⟨rfl, HB7.out⟩
  by_cases h1 : part > (len : Int)
  · clear h
    go_enter Try.func6, Try.ntmps6
    go_wp2_with (go_at_call 11; refine (HLV.out _).mono ?_; rintro e7 w7 ⟨rfl, hb7⟩; have HB7 := Lib.hid hb7; clear hb7)
    go_ret
    exact ⟨rfl, HB7.out⟩
  obtain ⟨k, rfl⟩ : ∃ k : Nat, part = (k : Int) := ⟨part.toNat, by omega⟩
  have hk : k ≤ len := by omega
  have HKL := Lib.hid hk
  obtain ⟨pk, hst, hbk, hpk⟩ := h.slice_to (P := Try.prog) 23 5 Try.underlying23 (fun _ => by kernel_rfl) cap k hlc hk
  have HZ := Lib.hid h
  have hlz := h.len
  have HS1 := Lib.hid fun W (hW : Below w.heap.size w W) => hS p len cap zs n W (h.later hW) hpc hlc hcm hlen hn
  have HS2 := Lib.hid fun W (hW : Below w.heap.size w W) => hS pk k cap (zs.take k) n W (hbk.later hW) (hpk hpc) (by omega) hcm (by omega) hn
  have HP := Lib.hid (scF_part h.byte n k (by omega))
  have HE1 := Lib.hid (scF_in h.byte n)
  rw [hlz] at HE1
  have HC := Lib.hid fun j (hj : j ≤ k) => (show ∃ p', (∀ W', (Instr.slice 23 (.slice p len cap) none (some (.int .i64 (j : Int))) none).run Try.prog W' = .ok (.slice p' j cap) W') ∧ ∀ W, Below w.heap.size w W → Calls Try.prog 13 #[.slice p' j cap, .int .i64 n] W fun e w' => ScQ W (zs.take j) n e w' from by
    obtain ⟨pj, hsj, hbj, hpj⟩ := h.slice_to (P := Try.prog) 23 5 Try.underlying23 (fun _ => by kernel_rfl) cap j hlc (by omega)
    exact ⟨pj, hsj, fun W hW => hS pj j cap (zs.take j) n W (hbj.later hW) (hpj hpc) (by omega) hcm (by omega) hn⟩)
  have HA := Lib.hid fun j (hj : j ≤ k) (hj0 : j ≠ 0) (he : (scF (zs.take k) n).e = j) => (show (scF (zs.take j) n).err = 0 ∧ (scF (zs.take j) n).e = j ∧ (scF (zs.take j) n).ws = (scF (zs.take k) n).ws ∧ (scF (zs.take j) n).s = (scF (zs.take k) n).s from by
    have h9 := scF_alone (zs := zs.take k) ((show Byt zs from h.byte).take k) n j (by rw [List.length_take]; omega) hj0 he
    rw [List.take_take, Nat.min_eq_left hj] at h9
    exact h9)
  unfold ScQ at HS1 HS2 HC
  unfold scanV at HS1 HS2 HC
  generalize scF zs n = F1 at *
  generalize scF (zs.take k) n = F2 at *
  obtain ⟨ws1, s1, e1, sl1, a1, r1⟩ := F1
  obtain ⟨ws2, s2, e2, sl2, a2, r2⟩ := F2
  dsimp only at HS1 HS2 HP HE1 HA
  clear h hbk hpk hpc hlc hcm hS hH h0 hlz
  go_enter Try.func6, Try.ntmps6
  go_upto_region 3 with fail
  go_cut [7, 8] (fun v7 v8 wx => ∃ (G7 G8 : Nat) (q1 : Option Addr) (m1 c1 : Nat) (L1 : List Wx) (q2 : Option Addr) (m2 c2 : Nat) (L2 : List Wx), v7 = .pointer (some ⟨G7, 0, none⟩) ∧ v8 = .pointer (some ⟨G8, 0, none⟩) ∧ Hid (Sm wx G7 (.slice q1 m1 c1) s1 e1 sl1 a1 r1) ∧ Hid (Sm wx G8 (.slice q2 m2 c2) s2 e2 sl2 a2 r2) ∧ Hid (Gs encWd wx q1 m1 L1) ∧ Hid (Gs encWd wx q2 m2 L2) ∧ Hid (wdL L1 = ws1) ∧ Hid (wdL L2 = ws2) ∧ Hid (∀ x ∈ L1, x.1.Ok) ∧ Hid (∀ x ∈ L2, x.1.Ok) ∧ Hid (m1 ≤ c1 ∧ m2 ≤ c2 ∧ m1 ≤ 2097216 ∧ m2 ≤ 2097216) ∧ Hid (Below w.heap.size w wx))
  case first =>
    refine wp_region_any (by kernel_rfl) ?_
    (try (change wpAny _ _ _ _ _ _ _ (World.drew _)))
    obtain ⟨y0, hy0⟩ : ∃ X, w.drew = X := ⟨_, rfl⟩
    have HB0 : Hid (Below w.heap.size w y0) := Lib.hid (by rw [← hy0]; exact (Below.refl _ _).drew)
    rw [hy0]
    clear hy0
    refine take1 0 (v := ?va1) rfl (by kernel_rfl) (by kernel_rfl) (by kernel_rfl) (fun _ _ _ h => h) (Or.inl ⟨by rfl, ?ya1⟩) ?ra1
    case ya1 => intro w; go_simp; (try with_reducible rfl)
    (try simp only [Act.put, List.setIfInBounds_toArray, List.set_cons_zero, List.set_cons_succ])
    refine take1 1 (v := ?va2) rfl (by kernel_rfl) (by kernel_rfl) (by kernel_rfl) (fun _ _ _ h => h) (Or.inl ⟨by rfl, ?ya2⟩) ?ra2
    case ya2 => intro w; go_simp; (try with_reducible rfl)
    (try simp only [Act.put, List.setIfInBounds_toArray, List.set_cons_zero, List.set_cons_succ])
    refine take1 3 (v := ?va3) rfl (by kernel_rfl) (by kernel_rfl) (by kernel_rfl) (fun _ _ _ h => h) (Or.inl ⟨by rfl, ?ya3⟩) ?ra3
    case ya3 => intro w; go_simp; (try with_reducible rfl)
    (try simp only [Act.put, List.setIfInBounds_toArray, List.set_cons_zero, List.set_cons_succ])
    refine take1 4 (v := ?va4) rfl (by kernel_rfl) (by kernel_rfl) (by kernel_rfl) (fun _ _ _ h => h) (Or.inl ⟨by rfl, ?ya4⟩) ?ra4
    case ya4 => intro w; go_simp; (try with_reducible rfl)
    (try simp only [Act.put, List.setIfInBounds_toArray, List.set_cons_zero, List.set_cons_succ])
    refine take1 5 (v := ?va5) rfl (by kernel_rfl) (by kernel_rfl) (by kernel_rfl) (fun _ _ _ h => h) (Or.inl ⟨by rfl, ?ya5⟩) ?ra5
    case ya5 => intro w; go_simp; (try with_reducible rfl)
    (try simp only [Act.put, List.setIfInBounds_toArray, List.set_cons_zero, List.set_cons_succ])
    refine take1 6 (v := ?va6) rfl (by kernel_rfl) (by kernel_rfl) (by kernel_rfl) (fun _ _ _ h => h) (Or.inl ⟨by rfl, ?ya6⟩) ?ra6
    case ya6 => intro w; go_simp; (try with_reducible rfl)
    (try simp only [Act.put, List.setIfInBounds_toArray, List.set_cons_zero, List.set_cons_succ])
    refine wpAny_ready (rs := [2, 8, 9]) (by kernel_rfl) (by simp) (all1 2 rfl (fun K hK => ?o7) (all1 8 rfl (fun K hK => ?o8) (all1 9 rfl (fun K hK => ?o9) AllReady.nil)))
    case o7 =>
      go_simp
      refine (HS1.out _ HB0.out).mono ?_
      rintro ex y10 ⟨q1, m1, c1, L1, rfl, hg, hl, hk, hmc, _, _, hm, hb⟩
      have HX10 : Hid (Below y0.heap.size y0 y10) := Lib.hid hb
      have HG10 := Lib.hid hg
      have HL1 := Lib.hid hl
      have HK1 := Lib.hid hk
      have HM1 := Lib.hid (And.intro hmc hm)
      clear hg hl hk hmc hm hb
      (try dsimp only)
      first
        | refine hK.out _ _ ?_
        | (go_wp2_with fail; refine hK.out _ _ ?_)
      clear hK K
      (try simp only [Act.put, List.setIfInBounds_toArray, List.set_cons_zero, List.set_cons_succ])
      have FB11 := Lib.hid (below_step HB0.out HX10.out)
      refine wpAny_ready (rs := [7, 8, 9]) (by kernel_rfl) (by simp) (all1 7 rfl (fun K hK => ?o12) (all1 8 rfl (fun K hK => ?o13) (all1 9 rfl (fun K hK => ?o14) AllReady.nil)))
      case o12 =>
        go_simp
        refine (HS2.out _ FB11.out).mono ?_
        rintro ex y15 ⟨q2, m2, c2, L2, rfl, hg, hl, hk, hmc, _, _, hm, hb⟩
        have HX15 : Hid (Below y10.heap.size y10 y15) := Lib.hid hb
        have HG15 := Lib.hid hg
        have HL2 := Lib.hid hl
        have HK2 := Lib.hid hk
        have HM2 := Lib.hid (And.intro hmc hm)
        clear hg hl hk hmc hm hb
        (try dsimp only)
        first
          | refine hK.out _ _ ?_
          | (go_wp2_with fail; refine hK.out _ _ ?_)
        clear hK K
        (try simp only [Act.put, List.setIfInBounds_toArray, List.set_cons_zero, List.set_cons_succ])
        have Fs116 := Lib.hid (HG10.out.later HX15.out)
        have FB16 := Lib.hid (below_step FB11.out HX15.out)
        refine wpAny_ready (rs := [8, 9]) (by kernel_rfl) (by simp) (all1 8 rfl (fun K hK => ?o17) (all1 9 rfl (fun K hK => ?o18) AllReady.nil))
        case o17 =>
          go_simp
          first
            | refine hK.out _ _ ?_
            | (go_wp2_with fail; refine hK.out _ _ ?_)
          clear hK K
          (try simp only [Act.put, List.setIfInBounds_toArray, List.set_cons_zero, List.set_cons_succ])
          obtain ⟨y19, hy⟩ : ∃ X, y15.alloc (.cells #[.slice none 0 0, .int .u64 0, .int .i64 0, .bool false, .int .i64 0, .int .i64 0] 39) = X := ⟨_, rfl⟩
          rw [hy]
          obtain ⟨G7, hG⟩ : ∃ x, y15.heap.size = x := ⟨_, rfl⟩
          rw [hG]
          have HX19 : Hid (Below y15.heap.size y15 y19) := Lib.hid (by rw [← hy]; exact (Below.refl _ _).alloc (Nat.le_refl _) _)
          have HZ19 : Hid (Sm y19 G7 (.slice none 0 0) 0 0 false 0 0) := Lib.hid (by rw [← hG, ← hy]; exact heap_alloc_new _ _)
          have HGB7 : Hid (w.heap.size ≤ G7) := Lib.hid (by rw [← hG]; exact FB16.out.size)
          have Fs120 := Lib.hid (Fs116.out.later HX19.out)
          have Fs220 := Lib.hid (HG15.out.later HX19.out)
          have FB20 := Lib.hid (below_step FB16.out HX19.out)
          clear hy hG
          refine wpAny_ready (rs := [9]) (by kernel_rfl) (by simp) (all1 9 rfl (fun K hK => ?o21) AllReady.nil)
          case o21 =>
            go_simp
            first
              | refine hK.out _ _ ?_
              | (go_wp2_with fail; refine hK.out _ _ ?_)
            clear hK K
            (try simp only [Act.put, List.setIfInBounds_toArray, List.set_cons_zero, List.set_cons_succ])
            obtain ⟨y22, hy⟩ : ∃ X, y19.alloc (.cells #[.slice none 0 0, .int .u64 0, .int .i64 0, .bool false, .int .i64 0, .int .i64 0] 39) = X := ⟨_, rfl⟩
            rw [hy]
            obtain ⟨G8, hG⟩ : ∃ x, y19.heap.size = x := ⟨_, rfl⟩
            rw [hG]
            have HX22 : Hid (Below y19.heap.size y19 y22) := Lib.hid (by rw [← hy]; exact (Below.refl _ _).alloc (Nat.le_refl _) _)
            have HZ22 : Hid (Sm y22 G8 (.slice none 0 0) 0 0 false 0 0) := Lib.hid (by rw [← hG, ← hy]; exact heap_alloc_new _ _)
            have HGB8 : Hid (w.heap.size ≤ G8) := Lib.hid (by rw [← hG]; exact FB20.out.size)
            have HNE : Hid (G7 ≠ G8) := Lib.hid (by rw [← hG]; exact Nat.ne_of_lt HZ19.out.lt)
            have Fs123 := Lib.hid (Fs120.out.later HX22.out)
            have Fs223 := Lib.hid (Fs220.out.later HX22.out)
            have Fz723 := Lib.hid (HZ19.out.later HX22.out)
            have FB23 := Lib.hid (below_step FB20.out HX22.out)
            clear hy hG
            refine wpAny_ready (rs := [10]) (by kernel_rfl) (by simp) (all1 10 rfl (fun K hK => ?_) AllReady.nil)
            rw [if_pos (by rfl)]
            refine wp_store_row 39 _ _ rfl G7 _ rfl rfl 39 _ Fz723.out size6 rfl scanC_one ?_
            generalize hwA : World.setRow _ _ _ = y24
            have HZ24 : Hid (Sm y24 G7 (.slice q1 m1 c1) s1 e1 sl1 a1 r1) := Lib.hid (by rw [← hwA]; exact Fz723.out.row)
            have HO24 := Lib.hid (Sm.keep HZ22.out (keep_row hwA _ HNE.out.symm))
            have HP24 := Lib.hid (Gs.bySm Fs123.out Fz723.out (keep_row hwA))
            have HQ24 := Lib.hid (Gs.bySm Fs223.out Fz723.out (keep_row hwA))
            have HR24 : Hid (Below w.heap.size w y24) := Lib.hid (by rw [← hwA]; exact below_setRow8 FB23.out _ _ HGB7.out)
            clear hwA
            refine hK.out _ _ ?_
            clear hK K
            (try simp only [Act.put, List.setIfInBounds_toArray, List.set_cons_zero, List.set_cons_succ])
            refine wpAny_ready (rs := [11]) (by kernel_rfl) (by simp) (all1 11 rfl (fun K hK => ?_) AllReady.nil)
            rw [if_pos (by rfl)]
            refine wp_store_row 39 _ _ rfl G8 _ rfl rfl 39 _ HO24.out size6 rfl scanC_one ?_
            generalize hwA : World.setRow _ _ _ = y25
            have HZ25 : Hid (Sm y25 G8 (.slice q2 m2 c2) s2 e2 sl2 a2 r2) := Lib.hid (by rw [← hwA]; exact HO24.out.row)
            have HO25 := Lib.hid (Sm.keep HZ24.out (keep_row hwA _ HNE.out))
            have HP25 := Lib.hid (Gs.bySm HP24.out HO24.out (keep_row hwA))
            have HQ25 := Lib.hid (Gs.bySm HQ24.out HO24.out (keep_row hwA))
            have HR25 : Hid (Below w.heap.size w y25) := Lib.hid (by rw [← hwA]; exact below_setRow8 HR24.out _ _ HGB8.out)
            clear hwA
            refine hK.out _ _ ?_
            clear hK K
            (try simp only [Act.put, List.setIfInBounds_toArray, List.set_cons_zero, List.set_cons_succ])
            refine wpAny_done (by kernel_rfl) ?_ _
            go_wp2_with fail
            go_meet
            exact ⟨G7, G8, q1, m1, c1, L1, q2, m2, c2, L2, rfl, rfl, HO25, HZ25, HP25, HQ25, HL1, HL2, HK1, HK2, Lib.hid ⟨HM1.out.1, HM2.out.1, HM1.out.2, HM2.out.2⟩, HR25⟩
        case o18 =>
          go_simp
          first
            | refine hK.out _ _ ?_
            | (go_wp2_with fail; refine hK.out _ _ ?_)
          clear hK K
          (try simp only [Act.put, List.setIfInBounds_toArray, List.set_cons_zero, List.set_cons_succ])
          obtain ⟨y26, hy⟩ : ∃ X, y15.alloc (.cells #[.slice none 0 0, .int .u64 0, .int .i64 0, .bool false, .int .i64 0, .int .i64 0] 39) = X := ⟨_, rfl⟩
          rw [hy]
          obtain ⟨G8, hG⟩ : ∃ x, y15.heap.size = x := ⟨_, rfl⟩
          rw [hG]
          have HX26 : Hid (Below y15.heap.size y15 y26) := Lib.hid (by rw [← hy]; exact (Below.refl _ _).alloc (Nat.le_refl _) _)
          have HZ26 : Hid (Sm y26 G8 (.slice none 0 0) 0 0 false 0 0) := Lib.hid (by rw [← hG, ← hy]; exact heap_alloc_new _ _)
          have HGB8 : Hid (w.heap.size ≤ G8) := Lib.hid (by rw [← hG]; exact FB16.out.size)
          have Fs127 := Lib.hid (Fs116.out.later HX26.out)
          have Fs227 := Lib.hid (HG15.out.later HX26.out)
          have FB27 := Lib.hid (below_step FB16.out HX26.out)
          clear hy hG
          refine wpAny_ready (rs := [8]) (by kernel_rfl) (by simp) (all1 8 rfl (fun K hK => ?o28) AllReady.nil)
          case o28 =>
            go_simp
            first
              | refine hK.out _ _ ?_
              | (go_wp2_with fail; refine hK.out _ _ ?_)
            clear hK K
            (try simp only [Act.put, List.setIfInBounds_toArray, List.set_cons_zero, List.set_cons_succ])
            obtain ⟨y29, hy⟩ : ∃ X, y26.alloc (.cells #[.slice none 0 0, .int .u64 0, .int .i64 0, .bool false, .int .i64 0, .int .i64 0] 39) = X := ⟨_, rfl⟩
            rw [hy]
            obtain ⟨G7, hG⟩ : ∃ x, y26.heap.size = x := ⟨_, rfl⟩
            rw [hG]
            have HX29 : Hid (Below y26.heap.size y26 y29) := Lib.hid (by rw [← hy]; exact (Below.refl _ _).alloc (Nat.le_refl _) _)
            have HZ29 : Hid (Sm y29 G7 (.slice none 0 0) 0 0 false 0 0) := Lib.hid (by rw [← hG, ← hy]; exact heap_alloc_new _ _)
            have HGB7 : Hid (w.heap.size ≤ G7) := Lib.hid (by rw [← hG]; exact FB27.out.size)
            have HNE : Hid (G7 ≠ G8) := Lib.hid (by rw [← hG]; exact Nat.ne_of_gt HZ26.out.lt)
            have Fs130 := Lib.hid (Fs127.out.later HX29.out)
            have Fs230 := Lib.hid (Fs227.out.later HX29.out)
            have Fz830 := Lib.hid (HZ26.out.later HX29.out)
            have FB30 := Lib.hid (below_step FB27.out HX29.out)
            clear hy hG
            refine wpAny_ready (rs := [10]) (by kernel_rfl) (by simp) (all1 10 rfl (fun K hK => ?_) AllReady.nil)
            rw [if_pos (by rfl)]
            refine wp_store_row 39 _ _ rfl G7 _ rfl rfl 39 _ HZ29.out size6 rfl scanC_one ?_
            generalize hwA : World.setRow _ _ _ = y31
            have HZ31 : Hid (Sm y31 G7 (.slice q1 m1 c1) s1 e1 sl1 a1 r1) := Lib.hid (by rw [← hwA]; exact HZ29.out.row)
            have HO31 := Lib.hid (Sm.keep Fz830.out (keep_row hwA _ HNE.out.symm))
            have HP31 := Lib.hid (Gs.bySm Fs130.out HZ29.out (keep_row hwA))
            have HQ31 := Lib.hid (Gs.bySm Fs230.out HZ29.out (keep_row hwA))
            have HR31 : Hid (Below w.heap.size w y31) := Lib.hid (by rw [← hwA]; exact below_setRow8 FB30.out _ _ HGB7.out)
            clear hwA
            refine hK.out _ _ ?_
            clear hK K
            (try simp only [Act.put, List.setIfInBounds_toArray, List.set_cons_zero, List.set_cons_succ])
            refine wpAny_ready (rs := [11]) (by kernel_rfl) (by simp) (all1 11 rfl (fun K hK => ?_) AllReady.nil)
            rw [if_pos (by rfl)]
            refine wp_store_row 39 _ _ rfl G8 _ rfl rfl 39 _ HO31.out size6 rfl scanC_one ?_
            generalize hwA : World.setRow _ _ _ = y32
            have HZ32 : Hid (Sm y32 G8 (.slice q2 m2 c2) s2 e2 sl2 a2 r2) := Lib.hid (by rw [← hwA]; exact HO31.out.row)
            have HO32 := Lib.hid (Sm.keep HZ31.out (keep_row hwA _ HNE.out))
            have HP32 := Lib.hid (Gs.bySm HP31.out HO31.out (keep_row hwA))
            have HQ32 := Lib.hid (Gs.bySm HQ31.out HO31.out (keep_row hwA))
            have HR32 : Hid (Below w.heap.size w y32) := Lib.hid (by rw [← hwA]; exact below_setRow8 HR31.out _ _ HGB8.out)
            clear hwA
            refine hK.out _ _ ?_
            clear hK K
            (try simp only [Act.put, List.setIfInBounds_toArray, List.set_cons_zero, List.set_cons_succ])
            refine wpAny_done (by kernel_rfl) ?_ _
            go_wp2_with fail
            go_meet
            exact ⟨G7, G8, q1, m1, c1, L1, q2, m2, c2, L2, rfl, rfl, HO32, HZ32, HP32, HQ32, HL1, HL2, HK1, HK2, Lib.hid ⟨HM1.out.1, HM2.out.1, HM1.out.2, HM2.out.2⟩, HR32⟩
      case o13 =>
        go_simp
        first
          | refine hK.out _ _ ?_
          | (go_wp2_with fail; refine hK.out _ _ ?_)
        clear hK K
        (try simp only [Act.put, List.setIfInBounds_toArray, List.set_cons_zero, List.set_cons_succ])
        obtain ⟨y33, hy⟩ : ∃ X, y10.alloc (.cells #[.slice none 0 0, .int .u64 0, .int .i64 0, .bool false, .int .i64 0, .int .i64 0] 39) = X := ⟨_, rfl⟩
        rw [hy]
        obtain ⟨G7, hG⟩ : ∃ x, y10.heap.size = x := ⟨_, rfl⟩
        rw [hG]
        have HX33 : Hid (Below y10.heap.size y10 y33) := Lib.hid (by rw [← hy]; exact (Below.refl _ _).alloc (Nat.le_refl _) _)
        have HZ33 : Hid (Sm y33 G7 (.slice none 0 0) 0 0 false 0 0) := Lib.hid (by rw [← hG, ← hy]; exact heap_alloc_new _ _)
        have HGB7 : Hid (w.heap.size ≤ G7) := Lib.hid (by rw [← hG]; exact FB11.out.size)
        have Fs134 := Lib.hid (HG10.out.later HX33.out)
        have FB34 := Lib.hid (below_step FB11.out HX33.out)
        clear hy hG
        refine wpAny_ready (rs := [7, 9]) (by kernel_rfl) (by simp) (all1 7 rfl (fun K hK => ?o35) (all1 9 rfl (fun K hK => ?o36) AllReady.nil))
        case o35 =>
          go_simp
          refine (HS2.out _ FB34.out).mono ?_
          rintro ex y37 ⟨q2, m2, c2, L2, rfl, hg, hl, hk, hmc, _, _, hm, hb⟩
          have HX37 : Hid (Below y33.heap.size y33 y37) := Lib.hid hb
          have HG37 := Lib.hid hg
          have HL2 := Lib.hid hl
          have HK2 := Lib.hid hk
          have HM2 := Lib.hid (And.intro hmc hm)
          clear hg hl hk hmc hm hb
          (try dsimp only)
          first
            | refine hK.out _ _ ?_
            | (go_wp2_with fail; refine hK.out _ _ ?_)
          clear hK K
          (try simp only [Act.put, List.setIfInBounds_toArray, List.set_cons_zero, List.set_cons_succ])
          have Fs138 := Lib.hid (Fs134.out.later HX37.out)
          have Fz738 := Lib.hid (HZ33.out.later HX37.out)
          have FB38 := Lib.hid (below_step FB34.out HX37.out)
          refine wpAny_ready (rs := [9]) (by kernel_rfl) (by simp) (all1 9 rfl (fun K hK => ?o39) AllReady.nil)
          case o39 =>
            go_simp
            first
              | refine hK.out _ _ ?_
              | (go_wp2_with fail; refine hK.out _ _ ?_)
            clear hK K
            (try simp only [Act.put, List.setIfInBounds_toArray, List.set_cons_zero, List.set_cons_succ])
            obtain ⟨y40, hy⟩ : ∃ X, y37.alloc (.cells #[.slice none 0 0, .int .u64 0, .int .i64 0, .bool false, .int .i64 0, .int .i64 0] 39) = X := ⟨_, rfl⟩
            rw [hy]
            obtain ⟨G8, hG⟩ : ∃ x, y37.heap.size = x := ⟨_, rfl⟩
            rw [hG]
            have HX40 : Hid (Below y37.heap.size y37 y40) := Lib.hid (by rw [← hy]; exact (Below.refl _ _).alloc (Nat.le_refl _) _)
            have HZ40 : Hid (Sm y40 G8 (.slice none 0 0) 0 0 false 0 0) := Lib.hid (by rw [← hG, ← hy]; exact heap_alloc_new _ _)
            have HGB8 : Hid (w.heap.size ≤ G8) := Lib.hid (by rw [← hG]; exact FB38.out.size)
            have HNE : Hid (G7 ≠ G8) := Lib.hid (by rw [← hG]; exact Nat.ne_of_lt Fz738.out.lt)
            have Fs141 := Lib.hid (Fs138.out.later HX40.out)
            have Fs241 := Lib.hid (HG37.out.later HX40.out)
            have Fz741 := Lib.hid (Fz738.out.later HX40.out)
            have FB41 := Lib.hid (below_step FB38.out HX40.out)
            clear hy hG
            refine wpAny_ready (rs := [10]) (by kernel_rfl) (by simp) (all1 10 rfl (fun K hK => ?_) AllReady.nil)
            rw [if_pos (by rfl)]
            refine wp_store_row 39 _ _ rfl G7 _ rfl rfl 39 _ Fz741.out size6 rfl scanC_one ?_
            generalize hwA : World.setRow _ _ _ = y42
            have HZ42 : Hid (Sm y42 G7 (.slice q1 m1 c1) s1 e1 sl1 a1 r1) := Lib.hid (by rw [← hwA]; exact Fz741.out.row)
            have HO42 := Lib.hid (Sm.keep HZ40.out (keep_row hwA _ HNE.out.symm))
            have HP42 := Lib.hid (Gs.bySm Fs141.out Fz741.out (keep_row hwA))
            have HQ42 := Lib.hid (Gs.bySm Fs241.out Fz741.out (keep_row hwA))
            have HR42 : Hid (Below w.heap.size w y42) := Lib.hid (by rw [← hwA]; exact below_setRow8 FB41.out _ _ HGB7.out)
            clear hwA
            refine hK.out _ _ ?_
            clear hK K
            (try simp only [Act.put, List.setIfInBounds_toArray, List.set_cons_zero, List.set_cons_succ])
            refine wpAny_ready (rs := [11]) (by kernel_rfl) (by simp) (all1 11 rfl (fun K hK => ?_) AllReady.nil)
            rw [if_pos (by rfl)]
            refine wp_store_row 39 _ _ rfl G8 _ rfl rfl 39 _ HO42.out size6 rfl scanC_one ?_
            generalize hwA : World.setRow _ _ _ = y43
            have HZ43 : Hid (Sm y43 G8 (.slice q2 m2 c2) s2 e2 sl2 a2 r2) := Lib.hid (by rw [← hwA]; exact HO42.out.row)
            have HO43 := Lib.hid (Sm.keep HZ42.out (keep_row hwA _ HNE.out))
            have HP43 := Lib.hid (Gs.bySm HP42.out HO42.out (keep_row hwA))
            have HQ43 := Lib.hid (Gs.bySm HQ42.out HO42.out (keep_row hwA))
            have HR43 : Hid (Below w.heap.size w y43) := Lib.hid (by rw [← hwA]; exact below_setRow8 HR42.out _ _ HGB8.out)
            clear hwA
            refine hK.out _ _ ?_
            clear hK K
            (try simp only [Act.put, List.setIfInBounds_toArray, List.set_cons_zero, List.set_cons_succ])
            refine wpAny_done (by kernel_rfl) ?_ _
            go_wp2_with fail
            go_meet
            exact ⟨G7, G8, q1, m1, c1, L1, q2, m2, c2, L2, rfl, rfl, HO43, HZ43, HP43, HQ43, HL1, HL2, HK1, HK2, Lib.hid ⟨HM1.out.1, HM2.out.1, HM1.out.2, HM2.out.2⟩, HR43⟩
        case o36 =>
          go_simp
          first
            | refine hK.out _ _ ?_
            | (go_wp2_with fail; refine hK.out _ _ ?_)
          clear hK K
          (try simp only [Act.put, List.setIfInBounds_toArray, List.set_cons_zero, List.set_cons_succ])
          obtain ⟨y44, hy⟩ : ∃ X, y33.alloc (.cells #[.slice none 0 0, .int .u64 0, .int .i64 0, .bool false, .int .i64 0, .int .i64 0] 39) = X := ⟨_, rfl⟩
          rw [hy]
          obtain ⟨G8, hG⟩ : ∃ x, y33.heap.size = x := ⟨_, rfl⟩
          rw [hG]
          have HX44 : Hid (Below y33.heap.size y33 y44) := Lib.hid (by rw [← hy]; exact (Below.refl _ _).alloc (Nat.le_refl _) _)
          have HZ44 : Hid (Sm y44 G8 (.slice none 0 0) 0 0 false 0 0) := Lib.hid (by rw [← hG, ← hy]; exact heap_alloc_new _ _)
          have HGB8 : Hid (w.heap.size ≤ G8) := Lib.hid (by rw [← hG]; exact FB34.out.size)
          have HNE : Hid (G7 ≠ G8) := Lib.hid (by rw [← hG]; exact Nat.ne_of_lt HZ33.out.lt)
          have Fs145 := Lib.hid (Fs134.out.later HX44.out)
          have Fz745 := Lib.hid (HZ33.out.later HX44.out)
          have FB45 := Lib.hid (below_step FB34.out HX44.out)
          clear hy hG
          refine wpAny_ready (rs := [7]) (by kernel_rfl) (by simp) (all1 7 rfl (fun K hK => ?o46) AllReady.nil)
          case o46 =>
            go_simp
            refine (HS2.out _ FB45.out).mono ?_
            rintro ex y47 ⟨q2, m2, c2, L2, rfl, hg, hl, hk, hmc, _, _, hm, hb⟩
            have HX47 : Hid (Below y44.heap.size y44 y47) := Lib.hid hb
            have HG47 := Lib.hid hg
            have HL2 := Lib.hid hl
            have HK2 := Lib.hid hk
            have HM2 := Lib.hid (And.intro hmc hm)
            clear hg hl hk hmc hm hb
            (try dsimp only)
            first
              | refine hK.out _ _ ?_
              | (go_wp2_with fail; refine hK.out _ _ ?_)
            clear hK K
            (try simp only [Act.put, List.setIfInBounds_toArray, List.set_cons_zero, List.set_cons_succ])
            have Fs148 := Lib.hid (Fs145.out.later HX47.out)
            have Fz748 := Lib.hid (Fz745.out.later HX47.out)
            have Fz848 := Lib.hid (HZ44.out.later HX47.out)
            have FB48 := Lib.hid (below_step FB45.out HX47.out)
            refine wpAny_ready (rs := [10]) (by kernel_rfl) (by simp) (all1 10 rfl (fun K hK => ?_) AllReady.nil)
            rw [if_pos (by rfl)]
            refine wp_store_row 39 _ _ rfl G7 _ rfl rfl 39 _ Fz748.out size6 rfl scanC_one ?_
            generalize hwA : World.setRow _ _ _ = y49
            have HZ49 : Hid (Sm y49 G7 (.slice q1 m1 c1) s1 e1 sl1 a1 r1) := Lib.hid (by rw [← hwA]; exact Fz748.out.row)
            have HO49 := Lib.hid (Sm.keep Fz848.out (keep_row hwA _ HNE.out.symm))
            have HP49 := Lib.hid (Gs.bySm Fs148.out Fz748.out (keep_row hwA))
            have HQ49 := Lib.hid (Gs.bySm HG47.out Fz748.out (keep_row hwA))
            have HR49 : Hid (Below w.heap.size w y49) := Lib.hid (by rw [← hwA]; exact below_setRow8 FB48.out _ _ HGB7.out)
            clear hwA
            refine hK.out _ _ ?_
            clear hK K
            (try simp only [Act.put, List.setIfInBounds_toArray, List.set_cons_zero, List.set_cons_succ])
            refine wpAny_ready (rs := [11]) (by kernel_rfl) (by simp) (all1 11 rfl (fun K hK => ?_) AllReady.nil)
            rw [if_pos (by rfl)]
            refine wp_store_row 39 _ _ rfl G8 _ rfl rfl 39 _ HO49.out size6 rfl scanC_one ?_
            generalize hwA : World.setRow _ _ _ = y50
            have HZ50 : Hid (Sm y50 G8 (.slice q2 m2 c2) s2 e2 sl2 a2 r2) := Lib.hid (by rw [← hwA]; exact HO49.out.row)
            have HO50 := Lib.hid (Sm.keep HZ49.out (keep_row hwA _ HNE.out))
            have HP50 := Lib.hid (Gs.bySm HP49.out HO49.out (keep_row hwA))
            have HQ50 := Lib.hid (Gs.bySm HQ49.out HO49.out (keep_row hwA))
            have HR50 : Hid (Below w.heap.size w y50) := Lib.hid (by rw [← hwA]; exact below_setRow8 HR49.out _ _ HGB8.out)
            clear hwA
            refine hK.out _ _ ?_
            clear hK K
            (try simp only [Act.put, List.setIfInBounds_toArray, List.set_cons_zero, List.set_cons_succ])
            refine wpAny_done (by kernel_rfl) ?_ _
            go_wp2_with fail
            go_meet
            exact ⟨G7, G8, q1, m1, c1, L1, q2, m2, c2, L2, rfl, rfl, HO50, HZ50, HP50, HQ50, HL1, HL2, HK1, HK2, Lib.hid ⟨HM1.out.1, HM2.out.1, HM1.out.2, HM2.out.2⟩, HR50⟩
      case o14 =>
        go_simp
        first
          | refine hK.out _ _ ?_
          | (go_wp2_with fail; refine hK.out _ _ ?_)
        clear hK K
        (try simp only [Act.put, List.setIfInBounds_toArray, List.set_cons_zero, List.set_cons_succ])
        obtain ⟨y51, hy⟩ : ∃ X, y10.alloc (.cells #[.slice none 0 0, .int .u64 0, .int .i64 0, .bool false, .int .i64 0, .int .i64 0] 39) = X := ⟨_, rfl⟩
        rw [hy]
        obtain ⟨G8, hG⟩ : ∃ x, y10.heap.size = x := ⟨_, rfl⟩
        rw [hG]
        have HX51 : Hid (Below y10.heap.size y10 y51) := Lib.hid (by rw [← hy]; exact (Below.refl _ _).alloc (Nat.le_refl _) _)
        have HZ51 : Hid (Sm y51 G8 (.slice none 0 0) 0 0 false 0 0) := Lib.hid (by rw [← hG, ← hy]; exact heap_alloc_new _ _)
        have HGB8 : Hid (w.heap.size ≤ G8) := Lib.hid (by rw [← hG]; exact FB11.out.size)
        have Fs152 := Lib.hid (HG10.out.later HX51.out)
        have FB52 := Lib.hid (below_step FB11.out HX51.out)
        clear hy hG
        refine wpAny_ready (rs := [7, 8]) (by kernel_rfl) (by simp) (all1 7 rfl (fun K hK => ?o53) (all1 8 rfl (fun K hK => ?o54) AllReady.nil))
        case o53 =>
          go_simp
          refine (HS2.out _ FB52.out).mono ?_
          rintro ex y55 ⟨q2, m2, c2, L2, rfl, hg, hl, hk, hmc, _, _, hm, hb⟩
          have HX55 : Hid (Below y51.heap.size y51 y55) := Lib.hid hb
          have HG55 := Lib.hid hg
          have HL2 := Lib.hid hl
          have HK2 := Lib.hid hk
          have HM2 := Lib.hid (And.intro hmc hm)
          clear hg hl hk hmc hm hb
          (try dsimp only)
          first
            | refine hK.out _ _ ?_
            | (go_wp2_with fail; refine hK.out _ _ ?_)
          clear hK K
          (try simp only [Act.put, List.setIfInBounds_toArray, List.set_cons_zero, List.set_cons_succ])
          have Fs156 := Lib.hid (Fs152.out.later HX55.out)
          have Fz856 := Lib.hid (HZ51.out.later HX55.out)
          have FB56 := Lib.hid (below_step FB52.out HX55.out)
          refine wpAny_ready (rs := [8]) (by kernel_rfl) (by simp) (all1 8 rfl (fun K hK => ?o57) AllReady.nil)
          case o57 =>
            go_simp
            first
              | refine hK.out _ _ ?_
              | (go_wp2_with fail; refine hK.out _ _ ?_)
            clear hK K
            (try simp only [Act.put, List.setIfInBounds_toArray, List.set_cons_zero, List.set_cons_succ])
            obtain ⟨y58, hy⟩ : ∃ X, y55.alloc (.cells #[.slice none 0 0, .int .u64 0, .int .i64 0, .bool false, .int .i64 0, .int .i64 0] 39) = X := ⟨_, rfl⟩
            rw [hy]
            obtain ⟨G7, hG⟩ : ∃ x, y55.heap.size = x := ⟨_, rfl⟩
            rw [hG]
            have HX58 : Hid (Below y55.heap.size y55 y58) := Lib.hid (by rw [← hy]; exact (Below.refl _ _).alloc (Nat.le_refl _) _)
            have HZ58 : Hid (Sm y58 G7 (.slice none 0 0) 0 0 false 0 0) := Lib.hid (by rw [← hG, ← hy]; exact heap_alloc_new _ _)
            have HGB7 : Hid (w.heap.size ≤ G7) := Lib.hid (by rw [← hG]; exact FB56.out.size)
            have HNE : Hid (G7 ≠ G8) := Lib.hid (by rw [← hG]; exact Nat.ne_of_gt Fz856.out.lt)
            have Fs159 := Lib.hid (Fs156.out.later HX58.out)
            have Fs259 := Lib.hid (HG55.out.later HX58.out)
            have Fz859 := Lib.hid (Fz856.out.later HX58.out)
            have FB59 := Lib.hid (below_step FB56.out HX58.out)
            clear hy hG
            refine wpAny_ready (rs := [10]) (by kernel_rfl) (by simp) (all1 10 rfl (fun K hK => ?_) AllReady.nil)
            rw [if_pos (by rfl)]
            refine wp_store_row 39 _ _ rfl G7 _ rfl rfl 39 _ HZ58.out size6 rfl scanC_one ?_
            generalize hwA : World.setRow _ _ _ = y60
            have HZ60 : Hid (Sm y60 G7 (.slice q1 m1 c1) s1 e1 sl1 a1 r1) := Lib.hid (by rw [← hwA]; exact HZ58.out.row)
            have HO60 := Lib.hid (Sm.keep Fz859.out (keep_row hwA _ HNE.out.symm))
            have HP60 := Lib.hid (Gs.bySm Fs159.out HZ58.out (keep_row hwA))
            have HQ60 := Lib.hid (Gs.bySm Fs259.out HZ58.out (keep_row hwA))
            have HR60 : Hid (Below w.heap.size w y60) := Lib.hid (by rw [← hwA]; exact below_setRow8 FB59.out _ _ HGB7.out)
            clear hwA
            refine hK.out _ _ ?_
            clear hK K
            (try simp only [Act.put, List.setIfInBounds_toArray, List.set_cons_zero, List.set_cons_succ])
            refine wpAny_ready (rs := [11]) (by kernel_rfl) (by simp) (all1 11 rfl (fun K hK => ?_) AllReady.nil)
            rw [if_pos (by rfl)]
            refine wp_store_row 39 _ _ rfl G8 _ rfl rfl 39 _ HO60.out size6 rfl scanC_one ?_
            generalize hwA : World.setRow _ _ _ = y61
            have HZ61 : Hid (Sm y61 G8 (.slice q2 m2 c2) s2 e2 sl2 a2 r2) := Lib.hid (by rw [← hwA]; exact HO60.out.row)
            have HO61 := Lib.hid (Sm.keep HZ60.out (keep_row hwA _ HNE.out))
            have HP61 := Lib.hid (Gs.bySm HP60.out HO60.out (keep_row hwA))
            have HQ61 := Lib.hid (Gs.bySm HQ60.out HO60.out (keep_row hwA))
            have HR61 : Hid (Below w.heap.size w y61) := Lib.hid (by rw [← hwA]; exact below_setRow8 HR60.out _ _ HGB8.out)
            clear hwA
            refine hK.out _ _ ?_
            clear hK K
            (try simp only [Act.put, List.setIfInBounds_toArray, List.set_cons_zero, List.set_cons_succ])
            refine wpAny_done (by kernel_rfl) ?_ _
            go_wp2_with fail
            go_meet
            exact ⟨G7, G8, q1, m1, c1, L1, q2, m2, c2, L2, rfl, rfl, HO61, HZ61, HP61, HQ61, HL1, HL2, HK1, HK2, Lib.hid ⟨HM1.out.1, HM2.out.1, HM1.out.2, HM2.out.2⟩, HR61⟩
        case o54 =>
          go_simp
          first
            | refine hK.out _ _ ?_
            | (go_wp2_with fail; refine hK.out _ _ ?_)
          clear hK K
          (try simp only [Act.put, List.setIfInBounds_toArray, List.set_cons_zero, List.set_cons_succ])
          obtain ⟨y62, hy⟩ : ∃ X, y51.alloc (.cells #[.slice none 0 0, .int .u64 0, .int .i64 0, .bool false, .int .i64 0, .int .i64 0] 39) = X := ⟨_, rfl⟩
          rw [hy]
          obtain ⟨G7, hG⟩ : ∃ x, y51.heap.size = x := ⟨_, rfl⟩
          rw [hG]
          have HX62 : Hid (Below y51.heap.size y51 y62) := Lib.hid (by rw [← hy]; exact (Below.refl _ _).alloc (Nat.le_refl _) _)
          have HZ62 : Hid (Sm y62 G7 (.slice none 0 0) 0 0 false 0 0) := Lib.hid (by rw [← hG, ← hy]; exact heap_alloc_new _ _)
          have HGB7 : Hid (w.heap.size ≤ G7) := Lib.hid (by rw [← hG]; exact FB52.out.size)
          have HNE : Hid (G7 ≠ G8) := Lib.hid (by rw [← hG]; exact Nat.ne_of_gt HZ51.out.lt)
          have Fs163 := Lib.hid (Fs152.out.later HX62.out)
          have Fz863 := Lib.hid (HZ51.out.later HX62.out)
          have FB63 := Lib.hid (below_step FB52.out HX62.out)
          clear hy hG
          refine wpAny_ready (rs := [7]) (by kernel_rfl) (by simp) (all1 7 rfl (fun K hK => ?o64) AllReady.nil)
          case o64 =>
            go_simp
            refine (HS2.out _ FB63.out).mono ?_
            rintro ex y65 ⟨q2, m2, c2, L2, rfl, hg, hl, hk, hmc, _, _, hm, hb⟩
            have HX65 : Hid (Below y62.heap.size y62 y65) := Lib.hid hb
            have HG65 := Lib.hid hg
            have HL2 := Lib.hid hl
            have HK2 := Lib.hid hk
            have HM2 := Lib.hid (And.intro hmc hm)
            clear hg hl hk hmc hm hb
            (try dsimp only)
            first
              | refine hK.out _ _ ?_
              | (go_wp2_with fail; refine hK.out _ _ ?_)
            clear hK K
            (try simp only [Act.put, List.setIfInBounds_toArray, List.set_cons_zero, List.set_cons_succ])
            have Fs166 := Lib.hid (Fs163.out.later HX65.out)
            have Fz766 := Lib.hid (HZ62.out.later HX65.out)
            have Fz866 := Lib.hid (Fz863.out.later HX65.out)
            have FB66 := Lib.hid (below_step FB63.out HX65.out)
            refine wpAny_ready (rs := [10]) (by kernel_rfl) (by simp) (all1 10 rfl (fun K hK => ?_) AllReady.nil)
            rw [if_pos (by rfl)]
            refine wp_store_row 39 _ _ rfl G7 _ rfl rfl 39 _ Fz766.out size6 rfl scanC_one ?_
            generalize hwA : World.setRow _ _ _ = y67
            have HZ67 : Hid (Sm y67 G7 (.slice q1 m1 c1) s1 e1 sl1 a1 r1) := Lib.hid (by rw [← hwA]; exact Fz766.out.row)
            have HO67 := Lib.hid (Sm.keep Fz866.out (keep_row hwA _ HNE.out.symm))
            have HP67 := Lib.hid (Gs.bySm Fs166.out Fz766.out (keep_row hwA))
            have HQ67 := Lib.hid (Gs.bySm HG65.out Fz766.out (keep_row hwA))
            have HR67 : Hid (Below w.heap.size w y67) := Lib.hid (by rw [← hwA]; exact below_setRow8 FB66.out _ _ HGB7.out)
            clear hwA
            refine hK.out _ _ ?_
            clear hK K
            (try simp only [Act.put, List.setIfInBounds_toArray, List.set_cons_zero, List.set_cons_succ])
            refine wpAny_ready (rs := [11]) (by kernel_rfl) (by simp) (all1 11 rfl (fun K hK => ?_) AllReady.nil)
            rw [if_pos (by rfl)]
            refine wp_store_row 39 _ _ rfl G8 _ rfl rfl 39 _ HO67.out size6 rfl scanC_one ?_
            generalize hwA : World.setRow _ _ _ = y68
            have HZ68 : Hid (Sm y68 G8 (.slice q2 m2 c2) s2 e2 sl2 a2 r2) := Lib.hid (by rw [← hwA]; exact HO67.out.row)
            have HO68 := Lib.hid (Sm.keep HZ67.out (keep_row hwA _ HNE.out))
            have HP68 := Lib.hid (Gs.bySm HP67.out HO67.out (keep_row hwA))
            have HQ68 := Lib.hid (Gs.bySm HQ67.out HO67.out (keep_row hwA))
            have HR68 : Hid (Below w.heap.size w y68) := Lib.hid (by rw [← hwA]; exact below_setRow8 HR67.out _ _ HGB8.out)
            clear hwA
            refine hK.out _ _ ?_
            clear hK K
            (try simp only [Act.put, List.setIfInBounds_toArray, List.set_cons_zero, List.set_cons_succ])
            refine wpAny_done (by kernel_rfl) ?_ _
            go_wp2_with fail
            go_meet
            exact ⟨G7, G8, q1, m1, c1, L1, q2, m2, c2, L2, rfl, rfl, HO68, HZ68, HP68, HQ68, HL1, HL2, HK1, HK2, Lib.hid ⟨HM1.out.1, HM2.out.1, HM1.out.2, HM2.out.2⟩, HR68⟩
    case o8 =>
      go_simp
      first
        | refine hK.out _ _ ?_
        | (go_wp2_with fail; refine hK.out _ _ ?_)
      clear hK K
      (try simp only [Act.put, List.setIfInBounds_toArray, List.set_cons_zero, List.set_cons_succ])
      obtain ⟨y69, hy⟩ : ∃ X, y0.alloc (.cells #[.slice none 0 0, .int .u64 0, .int .i64 0, .bool false, .int .i64 0, .int .i64 0] 39) = X := ⟨_, rfl⟩
      rw [hy]
      obtain ⟨G7, hG⟩ : ∃ x, y0.heap.size = x := ⟨_, rfl⟩
      rw [hG]
      have HX69 : Hid (Below y0.heap.size y0 y69) := Lib.hid (by rw [← hy]; exact (Below.refl _ _).alloc (Nat.le_refl _) _)
      have HZ69 : Hid (Sm y69 G7 (.slice none 0 0) 0 0 false 0 0) := Lib.hid (by rw [← hG, ← hy]; exact heap_alloc_new _ _)
      have HGB7 : Hid (w.heap.size ≤ G7) := Lib.hid (by rw [← hG]; exact HB0.out.size)
      have FB70 := Lib.hid (below_step HB0.out HX69.out)
      clear hy hG
      refine wpAny_ready (rs := [2, 9]) (by kernel_rfl) (by simp) (all1 2 rfl (fun K hK => ?o71) (all1 9 rfl (fun K hK => ?o72) AllReady.nil))
      case o71 =>
        go_simp
        refine (HS1.out _ FB70.out).mono ?_
        rintro ex y73 ⟨q1, m1, c1, L1, rfl, hg, hl, hk, hmc, _, _, hm, hb⟩
        have HX73 : Hid (Below y69.heap.size y69 y73) := Lib.hid hb
        have HG73 := Lib.hid hg
        have HL1 := Lib.hid hl
        have HK1 := Lib.hid hk
        have HM1 := Lib.hid (And.intro hmc hm)
        clear hg hl hk hmc hm hb
        (try dsimp only)
        first
          | refine hK.out _ _ ?_
          | (go_wp2_with fail; refine hK.out _ _ ?_)
        clear hK K
        (try simp only [Act.put, List.setIfInBounds_toArray, List.set_cons_zero, List.set_cons_succ])
        have Fz774 := Lib.hid (HZ69.out.later HX73.out)
        have FB74 := Lib.hid (below_step FB70.out HX73.out)
        refine wpAny_ready (rs := [7, 9]) (by kernel_rfl) (by simp) (all1 7 rfl (fun K hK => ?o75) (all1 9 rfl (fun K hK => ?o76) AllReady.nil))
        case o75 =>
          go_simp
          refine (HS2.out _ FB74.out).mono ?_
          rintro ex y77 ⟨q2, m2, c2, L2, rfl, hg, hl, hk, hmc, _, _, hm, hb⟩
          have HX77 : Hid (Below y73.heap.size y73 y77) := Lib.hid hb
          have HG77 := Lib.hid hg
          have HL2 := Lib.hid hl
          have HK2 := Lib.hid hk
          have HM2 := Lib.hid (And.intro hmc hm)
          clear hg hl hk hmc hm hb
          (try dsimp only)
          first
            | refine hK.out _ _ ?_
            | (go_wp2_with fail; refine hK.out _ _ ?_)
          clear hK K
          (try simp only [Act.put, List.setIfInBounds_toArray, List.set_cons_zero, List.set_cons_succ])
          have Fs178 := Lib.hid (HG73.out.later HX77.out)
          have Fz778 := Lib.hid (Fz774.out.later HX77.out)
          have FB78 := Lib.hid (below_step FB74.out HX77.out)
          refine wpAny_ready (rs := [9]) (by kernel_rfl) (by simp) (all1 9 rfl (fun K hK => ?o79) AllReady.nil)
          case o79 =>
            go_simp
            first
              | refine hK.out _ _ ?_
              | (go_wp2_with fail; refine hK.out _ _ ?_)
            clear hK K
            (try simp only [Act.put, List.setIfInBounds_toArray, List.set_cons_zero, List.set_cons_succ])
            obtain ⟨y80, hy⟩ : ∃ X, y77.alloc (.cells #[.slice none 0 0, .int .u64 0, .int .i64 0, .bool false, .int .i64 0, .int .i64 0] 39) = X := ⟨_, rfl⟩
            rw [hy]
            obtain ⟨G8, hG⟩ : ∃ x, y77.heap.size = x := ⟨_, rfl⟩
            rw [hG]
            have HX80 : Hid (Below y77.heap.size y77 y80) := Lib.hid (by rw [← hy]; exact (Below.refl _ _).alloc (Nat.le_refl _) _)
            have HZ80 : Hid (Sm y80 G8 (.slice none 0 0) 0 0 false 0 0) := Lib.hid (by rw [← hG, ← hy]; exact heap_alloc_new _ _)
            have HGB8 : Hid (w.heap.size ≤ G8) := Lib.hid (by rw [← hG]; exact FB78.out.size)
            have HNE : Hid (G7 ≠ G8) := Lib.hid (by rw [← hG]; exact Nat.ne_of_lt Fz778.out.lt)
            have Fs181 := Lib.hid (Fs178.out.later HX80.out)
            have Fs281 := Lib.hid (HG77.out.later HX80.out)
            have Fz781 := Lib.hid (Fz778.out.later HX80.out)
            have FB81 := Lib.hid (below_step FB78.out HX80.out)
            clear hy hG
            refine wpAny_ready (rs := [10]) (by kernel_rfl) (by simp) (all1 10 rfl (fun K hK => ?_) AllReady.nil)
            rw [if_pos (by rfl)]
            refine wp_store_row 39 _ _ rfl G7 _ rfl rfl 39 _ Fz781.out size6 rfl scanC_one ?_
            generalize hwA : World.setRow _ _ _ = y82
            have HZ82 : Hid (Sm y82 G7 (.slice q1 m1 c1) s1 e1 sl1 a1 r1) := Lib.hid (by rw [← hwA]; exact Fz781.out.row)
            have HO82 := Lib.hid (Sm.keep HZ80.out (keep_row hwA _ HNE.out.symm))
            have HP82 := Lib.hid (Gs.bySm Fs181.out Fz781.out (keep_row hwA))
            have HQ82 := Lib.hid (Gs.bySm Fs281.out Fz781.out (keep_row hwA))
            have HR82 : Hid (Below w.heap.size w y82) := Lib.hid (by rw [← hwA]; exact below_setRow8 FB81.out _ _ HGB7.out)
            clear hwA
            refine hK.out _ _ ?_
            clear hK K
            (try simp only [Act.put, List.setIfInBounds_toArray, List.set_cons_zero, List.set_cons_succ])
            refine wpAny_ready (rs := [11]) (by kernel_rfl) (by simp) (all1 11 rfl (fun K hK => ?_) AllReady.nil)
            rw [if_pos (by rfl)]
            refine wp_store_row 39 _ _ rfl G8 _ rfl rfl 39 _ HO82.out size6 rfl scanC_one ?_
            generalize hwA : World.setRow _ _ _ = y83
            have HZ83 : Hid (Sm y83 G8 (.slice q2 m2 c2) s2 e2 sl2 a2 r2) := Lib.hid (by rw [← hwA]; exact HO82.out.row)
            have HO83 := Lib.hid (Sm.keep HZ82.out (keep_row hwA _ HNE.out))
            have HP83 := Lib.hid (Gs.bySm HP82.out HO82.out (keep_row hwA))
            have HQ83 := Lib.hid (Gs.bySm HQ82.out HO82.out (keep_row hwA))
            have HR83 : Hid (Below w.heap.size w y83) := Lib.hid (by rw [← hwA]; exact below_setRow8 HR82.out _ _ HGB8.out)
            clear hwA
            refine hK.out _ _ ?_
            clear hK K
            (try simp only [Act.put, List.setIfInBounds_toArray, List.set_cons_zero, List.set_cons_succ])
            refine wpAny_done (by kernel_rfl) ?_ _
            go_wp2_with fail
            go_meet
            exact ⟨G7, G8, q1, m1, c1, L1, q2, m2, c2, L2, rfl, rfl, HO83, HZ83, HP83, HQ83, HL1, HL2, HK1, HK2, Lib.hid ⟨HM1.out.1, HM2.out.1, HM1.out.2, HM2.out.2⟩, HR83⟩
        case o76 =>
          go_simp
          first
            | refine hK.out _ _ ?_
            | (go_wp2_with fail; refine hK.out _ _ ?_)
          clear hK K
          (try simp only [Act.put, List.setIfInBounds_toArray, List.set_cons_zero, List.set_cons_succ])
          obtain ⟨y84, hy⟩ : ∃ X, y73.alloc (.cells #[.slice none 0 0, .int .u64 0, .int .i64 0, .bool false, .int .i64 0, .int .i64 0] 39) = X := ⟨_, rfl⟩
          rw [hy]
          obtain ⟨G8, hG⟩ : ∃ x, y73.heap.size = x := ⟨_, rfl⟩
          rw [hG]
          have HX84 : Hid (Below y73.heap.size y73 y84) := Lib.hid (by rw [← hy]; exact (Below.refl _ _).alloc (Nat.le_refl _) _)
          have HZ84 : Hid (Sm y84 G8 (.slice none 0 0) 0 0 false 0 0) := Lib.hid (by rw [← hG, ← hy]; exact heap_alloc_new _ _)
          have HGB8 : Hid (w.heap.size ≤ G8) := Lib.hid (by rw [← hG]; exact FB74.out.size)
          have HNE : Hid (G7 ≠ G8) := Lib.hid (by rw [← hG]; exact Nat.ne_of_lt Fz774.out.lt)
          have Fs185 := Lib.hid (HG73.out.later HX84.out)
          have Fz785 := Lib.hid (Fz774.out.later HX84.out)
          have FB85 := Lib.hid (below_step FB74.out HX84.out)
          clear hy hG
          refine wpAny_ready (rs := [7]) (by kernel_rfl) (by simp) (all1 7 rfl (fun K hK => ?o86) AllReady.nil)
          case o86 =>
            go_simp
            refine (HS2.out _ FB85.out).mono ?_
            rintro ex y87 ⟨q2, m2, c2, L2, rfl, hg, hl, hk, hmc, _, _, hm, hb⟩
            have HX87 : Hid (Below y84.heap.size y84 y87) := Lib.hid hb
            have HG87 := Lib.hid hg
            have HL2 := Lib.hid hl
            have HK2 := Lib.hid hk
            have HM2 := Lib.hid (And.intro hmc hm)
            clear hg hl hk hmc hm hb
            (try dsimp only)
            first
              | refine hK.out _ _ ?_
              | (go_wp2_with fail; refine hK.out _ _ ?_)
            clear hK K
            (try simp only [Act.put, List.setIfInBounds_toArray, List.set_cons_zero, List.set_cons_succ])
            have Fs188 := Lib.hid (Fs185.out.later HX87.out)
            have Fz788 := Lib.hid (Fz785.out.later HX87.out)
            have Fz888 := Lib.hid (HZ84.out.later HX87.out)
            have FB88 := Lib.hid (below_step FB85.out HX87.out)
            refine wpAny_ready (rs := [10]) (by kernel_rfl) (by simp) (all1 10 rfl (fun K hK => ?_) AllReady.nil)
            rw [if_pos (by rfl)]
            refine wp_store_row 39 _ _ rfl G7 _ rfl rfl 39 _ Fz788.out size6 rfl scanC_one ?_
            generalize hwA : World.setRow _ _ _ = y89
            have HZ89 : Hid (Sm y89 G7 (.slice q1 m1 c1) s1 e1 sl1 a1 r1) := Lib.hid (by rw [← hwA]; exact Fz788.out.row)
            have HO89 := Lib.hid (Sm.keep Fz888.out (keep_row hwA _ HNE.out.symm))
            have HP89 := Lib.hid (Gs.bySm Fs188.out Fz788.out (keep_row hwA))
            have HQ89 := Lib.hid (Gs.bySm HG87.out Fz788.out (keep_row hwA))
            have HR89 : Hid (Below w.heap.size w y89) := Lib.hid (by rw [← hwA]; exact below_setRow8 FB88.out _ _ HGB7.out)
            clear hwA
            refine hK.out _ _ ?_
            clear hK K
            (try simp only [Act.put, List.setIfInBounds_toArray, List.set_cons_zero, List.set_cons_succ])
            refine wpAny_ready (rs := [11]) (by kernel_rfl) (by simp) (all1 11 rfl (fun K hK => ?_) AllReady.nil)
            rw [if_pos (by rfl)]
            refine wp_store_row 39 _ _ rfl G8 _ rfl rfl 39 _ HO89.out size6 rfl scanC_one ?_
            generalize hwA : World.setRow _ _ _ = y90
            have HZ90 : Hid (Sm y90 G8 (.slice q2 m2 c2) s2 e2 sl2 a2 r2) := Lib.hid (by rw [← hwA]; exact HO89.out.row)
            have HO90 := Lib.hid (Sm.keep HZ89.out (keep_row hwA _ HNE.out))
            have HP90 := Lib.hid (Gs.bySm HP89.out HO89.out (keep_row hwA))
            have HQ90 := Lib.hid (Gs.bySm HQ89.out HO89.out (keep_row hwA))
            have HR90 : Hid (Below w.heap.size w y90) := Lib.hid (by rw [← hwA]; exact below_setRow8 HR89.out _ _ HGB8.out)
            clear hwA
            refine hK.out _ _ ?_
            clear hK K
            (try simp only [Act.put, List.setIfInBounds_toArray, List.set_cons_zero, List.set_cons_succ])
            refine wpAny_done (by kernel_rfl) ?_ _
            go_wp2_with fail
            go_meet
            exact ⟨G7, G8, q1, m1, c1, L1, q2, m2, c2, L2, rfl, rfl, HO90, HZ90, HP90, HQ90, HL1, HL2, HK1, HK2, Lib.hid ⟨HM1.out.1, HM2.out.1, HM1.out.2, HM2.out.2⟩, HR90⟩
      case o72 =>
        go_simp
        first
          | refine hK.out _ _ ?_
          | (go_wp2_with fail; refine hK.out _ _ ?_)
        clear hK K
        (try simp only [Act.put, List.setIfInBounds_toArray, List.set_cons_zero, List.set_cons_succ])
        obtain ⟨y91, hy⟩ : ∃ X, y69.alloc (.cells #[.slice none 0 0, .int .u64 0, .int .i64 0, .bool false, .int .i64 0, .int .i64 0] 39) = X := ⟨_, rfl⟩
        rw [hy]
        obtain ⟨G8, hG⟩ : ∃ x, y69.heap.size = x := ⟨_, rfl⟩
        rw [hG]
        have HX91 : Hid (Below y69.heap.size y69 y91) := Lib.hid (by rw [← hy]; exact (Below.refl _ _).alloc (Nat.le_refl _) _)
        have HZ91 : Hid (Sm y91 G8 (.slice none 0 0) 0 0 false 0 0) := Lib.hid (by rw [← hG, ← hy]; exact heap_alloc_new _ _)
        have HGB8 : Hid (w.heap.size ≤ G8) := Lib.hid (by rw [← hG]; exact FB70.out.size)
        have HNE : Hid (G7 ≠ G8) := Lib.hid (by rw [← hG]; exact Nat.ne_of_lt HZ69.out.lt)
        have Fz792 := Lib.hid (HZ69.out.later HX91.out)
        have FB92 := Lib.hid (below_step FB70.out HX91.out)
        clear hy hG
        refine wpAny_ready (rs := [2]) (by kernel_rfl) (by simp) (all1 2 rfl (fun K hK => ?o93) AllReady.nil)
        case o93 =>
          go_simp
          refine (HS1.out _ FB92.out).mono ?_
          rintro ex y94 ⟨q1, m1, c1, L1, rfl, hg, hl, hk, hmc, _, _, hm, hb⟩
          have HX94 : Hid (Below y91.heap.size y91 y94) := Lib.hid hb
          have HG94 := Lib.hid hg
          have HL1 := Lib.hid hl
          have HK1 := Lib.hid hk
          have HM1 := Lib.hid (And.intro hmc hm)
          clear hg hl hk hmc hm hb
          (try dsimp only)
          first
            | refine hK.out _ _ ?_
            | (go_wp2_with fail; refine hK.out _ _ ?_)
          clear hK K
          (try simp only [Act.put, List.setIfInBounds_toArray, List.set_cons_zero, List.set_cons_succ])
          have Fz795 := Lib.hid (Fz792.out.later HX94.out)
          have Fz895 := Lib.hid (HZ91.out.later HX94.out)
          have FB95 := Lib.hid (below_step FB92.out HX94.out)
          refine wpAny_ready (rs := [7]) (by kernel_rfl) (by simp) (all1 7 rfl (fun K hK => ?o96) AllReady.nil)
          case o96 =>
            go_simp
            refine (HS2.out _ FB95.out).mono ?_
            rintro ex y97 ⟨q2, m2, c2, L2, rfl, hg, hl, hk, hmc, _, _, hm, hb⟩
            have HX97 : Hid (Below y94.heap.size y94 y97) := Lib.hid hb
            have HG97 := Lib.hid hg
            have HL2 := Lib.hid hl
            have HK2 := Lib.hid hk
            have HM2 := Lib.hid (And.intro hmc hm)
            clear hg hl hk hmc hm hb
            (try dsimp only)
            first
              | refine hK.out _ _ ?_
              | (go_wp2_with fail; refine hK.out _ _ ?_)
            clear hK K
            (try simp only [Act.put, List.setIfInBounds_toArray, List.set_cons_zero, List.set_cons_succ])
            have Fs198 := Lib.hid (HG94.out.later HX97.out)
            have Fz798 := Lib.hid (Fz795.out.later HX97.out)
            have Fz898 := Lib.hid (Fz895.out.later HX97.out)
            have FB98 := Lib.hid (below_step FB95.out HX97.out)
            refine wpAny_ready (rs := [10]) (by kernel_rfl) (by simp) (all1 10 rfl (fun K hK => ?_) AllReady.nil)
            rw [if_pos (by rfl)]
            refine wp_store_row 39 _ _ rfl G7 _ rfl rfl 39 _ Fz798.out size6 rfl scanC_one ?_
            generalize hwA : World.setRow _ _ _ = y99
            have HZ99 : Hid (Sm y99 G7 (.slice q1 m1 c1) s1 e1 sl1 a1 r1) := Lib.hid (by rw [← hwA]; exact Fz798.out.row)
            have HO99 := Lib.hid (Sm.keep Fz898.out (keep_row hwA _ HNE.out.symm))
            have HP99 := Lib.hid (Gs.bySm Fs198.out Fz798.out (keep_row hwA))
            have HQ99 := Lib.hid (Gs.bySm HG97.out Fz798.out (keep_row hwA))
            have HR99 : Hid (Below w.heap.size w y99) := Lib.hid (by rw [← hwA]; exact below_setRow8 FB98.out _ _ HGB7.out)
            clear hwA
            refine hK.out _ _ ?_
            clear hK K
            (try simp only [Act.put, List.setIfInBounds_toArray, List.set_cons_zero, List.set_cons_succ])
            refine wpAny_ready (rs := [11]) (by kernel_rfl) (by simp) (all1 11 rfl (fun K hK => ?_) AllReady.nil)
            rw [if_pos (by rfl)]
            refine wp_store_row 39 _ _ rfl G8 _ rfl rfl 39 _ HO99.out size6 rfl scanC_one ?_
            generalize hwA : World.setRow _ _ _ = y100
            have HZ100 : Hid (Sm y100 G8 (.slice q2 m2 c2) s2 e2 sl2 a2 r2) := Lib.hid (by rw [← hwA]; exact HO99.out.row)
            have HO100 := Lib.hid (Sm.keep HZ99.out (keep_row hwA _ HNE.out))
            have HP100 := Lib.hid (Gs.bySm HP99.out HO99.out (keep_row hwA))
            have HQ100 := Lib.hid (Gs.bySm HQ99.out HO99.out (keep_row hwA))
            have HR100 : Hid (Below w.heap.size w y100) := Lib.hid (by rw [← hwA]; exact below_setRow8 HR99.out _ _ HGB8.out)
            clear hwA
            refine hK.out _ _ ?_
            clear hK K
            (try simp only [Act.put, List.setIfInBounds_toArray, List.set_cons_zero, List.set_cons_succ])
            refine wpAny_done (by kernel_rfl) ?_ _
            go_wp2_with fail
            go_meet
            exact ⟨G7, G8, q1, m1, c1, L1, q2, m2, c2, L2, rfl, rfl, HO100, HZ100, HP100, HQ100, HL1, HL2, HK1, HK2, Lib.hid ⟨HM1.out.1, HM2.out.1, HM1.out.2, HM2.out.2⟩, HR100⟩
    case o9 =>
      go_simp
      first
        | refine hK.out _ _ ?_
        | (go_wp2_with fail; refine hK.out _ _ ?_)
      clear hK K
      (try simp only [Act.put, List.setIfInBounds_toArray, List.set_cons_zero, List.set_cons_succ])
      obtain ⟨y101, hy⟩ : ∃ X, y0.alloc (.cells #[.slice none 0 0, .int .u64 0, .int .i64 0, .bool false, .int .i64 0, .int .i64 0] 39) = X := ⟨_, rfl⟩
      rw [hy]
      obtain ⟨G8, hG⟩ : ∃ x, y0.heap.size = x := ⟨_, rfl⟩
      rw [hG]
      have HX101 : Hid (Below y0.heap.size y0 y101) := Lib.hid (by rw [← hy]; exact (Below.refl _ _).alloc (Nat.le_refl _) _)
      have HZ101 : Hid (Sm y101 G8 (.slice none 0 0) 0 0 false 0 0) := Lib.hid (by rw [← hG, ← hy]; exact heap_alloc_new _ _)
      have HGB8 : Hid (w.heap.size ≤ G8) := Lib.hid (by rw [← hG]; exact HB0.out.size)
      have FB102 := Lib.hid (below_step HB0.out HX101.out)
      clear hy hG
      refine wpAny_ready (rs := [2, 8]) (by kernel_rfl) (by simp) (all1 2 rfl (fun K hK => ?o103) (all1 8 rfl (fun K hK => ?o104) AllReady.nil))
      case o103 =>
        go_simp
        refine (HS1.out _ FB102.out).mono ?_
        rintro ex y105 ⟨q1, m1, c1, L1, rfl, hg, hl, hk, hmc, _, _, hm, hb⟩
        have HX105 : Hid (Below y101.heap.size y101 y105) := Lib.hid hb
        have HG105 := Lib.hid hg
        have HL1 := Lib.hid hl
        have HK1 := Lib.hid hk
        have HM1 := Lib.hid (And.intro hmc hm)
        clear hg hl hk hmc hm hb
        (try dsimp only)
        first
          | refine hK.out _ _ ?_
          | (go_wp2_with fail; refine hK.out _ _ ?_)
        clear hK K
        (try simp only [Act.put, List.setIfInBounds_toArray, List.set_cons_zero, List.set_cons_succ])
        have Fz8106 := Lib.hid (HZ101.out.later HX105.out)
        have FB106 := Lib.hid (below_step FB102.out HX105.out)
        refine wpAny_ready (rs := [7, 8]) (by kernel_rfl) (by simp) (all1 7 rfl (fun K hK => ?o107) (all1 8 rfl (fun K hK => ?o108) AllReady.nil))
        case o107 =>
          go_simp
          refine (HS2.out _ FB106.out).mono ?_
          rintro ex y109 ⟨q2, m2, c2, L2, rfl, hg, hl, hk, hmc, _, _, hm, hb⟩
          have HX109 : Hid (Below y105.heap.size y105 y109) := Lib.hid hb
          have HG109 := Lib.hid hg
          have HL2 := Lib.hid hl
          have HK2 := Lib.hid hk
          have HM2 := Lib.hid (And.intro hmc hm)
          clear hg hl hk hmc hm hb
          (try dsimp only)
          first
            | refine hK.out _ _ ?_
            | (go_wp2_with fail; refine hK.out _ _ ?_)
          clear hK K
          (try simp only [Act.put, List.setIfInBounds_toArray, List.set_cons_zero, List.set_cons_succ])
          have Fs1110 := Lib.hid (HG105.out.later HX109.out)
          have Fz8110 := Lib.hid (Fz8106.out.later HX109.out)
          have FB110 := Lib.hid (below_step FB106.out HX109.out)
          refine wpAny_ready (rs := [8]) (by kernel_rfl) (by simp) (all1 8 rfl (fun K hK => ?o111) AllReady.nil)
          case o111 =>
            go_simp
            first
              | refine hK.out _ _ ?_
              | (go_wp2_with fail; refine hK.out _ _ ?_)
            clear hK K
            (try simp only [Act.put, List.setIfInBounds_toArray, List.set_cons_zero, List.set_cons_succ])
            obtain ⟨y112, hy⟩ : ∃ X, y109.alloc (.cells #[.slice none 0 0, .int .u64 0, .int .i64 0, .bool false, .int .i64 0, .int .i64 0] 39) = X := ⟨_, rfl⟩
            rw [hy]
            obtain ⟨G7, hG⟩ : ∃ x, y109.heap.size = x := ⟨_, rfl⟩
            rw [hG]
            have HX112 : Hid (Below y109.heap.size y109 y112) := Lib.hid (by rw [← hy]; exact (Below.refl _ _).alloc (Nat.le_refl _) _)
            have HZ112 : Hid (Sm y112 G7 (.slice none 0 0) 0 0 false 0 0) := Lib.hid (by rw [← hG, ← hy]; exact heap_alloc_new _ _)
            have HGB7 : Hid (w.heap.size ≤ G7) := Lib.hid (by rw [← hG]; exact FB110.out.size)
            have HNE : Hid (G7 ≠ G8) := Lib.hid (by rw [← hG]; exact Nat.ne_of_gt Fz8110.out.lt)
            have Fs1113 := Lib.hid (Fs1110.out.later HX112.out)
            have Fs2113 := Lib.hid (HG109.out.later HX112.out)
            have Fz8113 := Lib.hid (Fz8110.out.later HX112.out)
            have FB113 := Lib.hid (below_step FB110.out HX112.out)
            clear hy hG
            refine wpAny_ready (rs := [10]) (by kernel_rfl) (by simp) (all1 10 rfl (fun K hK => ?_) AllReady.nil)
            rw [if_pos (by rfl)]
            refine wp_store_row 39 _ _ rfl G7 _ rfl rfl 39 _ HZ112.out size6 rfl scanC_one ?_
            generalize hwA : World.setRow _ _ _ = y114
            have HZ114 : Hid (Sm y114 G7 (.slice q1 m1 c1) s1 e1 sl1 a1 r1) := Lib.hid (by rw [← hwA]; exact HZ112.out.row)
            have HO114 := Lib.hid (Sm.keep Fz8113.out (keep_row hwA _ HNE.out.symm))
            have HP114 := Lib.hid (Gs.bySm Fs1113.out HZ112.out (keep_row hwA))
            have HQ114 := Lib.hid (Gs.bySm Fs2113.out HZ112.out (keep_row hwA))
            have HR114 : Hid (Below w.heap.size w y114) := Lib.hid (by rw [← hwA]; exact below_setRow8 FB113.out _ _ HGB7.out)
            clear hwA
            refine hK.out _ _ ?_
            clear hK K
            (try simp only [Act.put, List.setIfInBounds_toArray, List.set_cons_zero, List.set_cons_succ])
            refine wpAny_ready (rs := [11]) (by kernel_rfl) (by simp) (all1 11 rfl (fun K hK => ?_) AllReady.nil)
            rw [if_pos (by rfl)]
            refine wp_store_row 39 _ _ rfl G8 _ rfl rfl 39 _ HO114.out size6 rfl scanC_one ?_
            generalize hwA : World.setRow _ _ _ = y115
            have HZ115 : Hid (Sm y115 G8 (.slice q2 m2 c2) s2 e2 sl2 a2 r2) := Lib.hid (by rw [← hwA]; exact HO114.out.row)
            have HO115 := Lib.hid (Sm.keep HZ114.out (keep_row hwA _ HNE.out))
            have HP115 := Lib.hid (Gs.bySm HP114.out HO114.out (keep_row hwA))
            have HQ115 := Lib.hid (Gs.bySm HQ114.out HO114.out (keep_row hwA))
            have HR115 : Hid (Below w.heap.size w y115) := Lib.hid (by rw [← hwA]; exact below_setRow8 HR114.out _ _ HGB8.out)
            clear hwA
            refine hK.out _ _ ?_
            clear hK K
            (try simp only [Act.put, List.setIfInBounds_toArray, List.set_cons_zero, List.set_cons_succ])
            refine wpAny_done (by kernel_rfl) ?_ _
            go_wp2_with fail
            go_meet
            exact ⟨G7, G8, q1, m1, c1, L1, q2, m2, c2, L2, rfl, rfl, HO115, HZ115, HP115, HQ115, HL1, HL2, HK1, HK2, Lib.hid ⟨HM1.out.1, HM2.out.1, HM1.out.2, HM2.out.2⟩, HR115⟩
        case o108 =>
          go_simp
          first
            | refine hK.out _ _ ?_
            | (go_wp2_with fail; refine hK.out _ _ ?_)
          clear hK K
          (try simp only [Act.put, List.setIfInBounds_toArray, List.set_cons_zero, List.set_cons_succ])
          obtain ⟨y116, hy⟩ : ∃ X, y105.alloc (.cells #[.slice none 0 0, .int .u64 0, .int .i64 0, .bool false, .int .i64 0, .int .i64 0] 39) = X := ⟨_, rfl⟩
          rw [hy]
          obtain ⟨G7, hG⟩ : ∃ x, y105.heap.size = x := ⟨_, rfl⟩
          rw [hG]
          have HX116 : Hid (Below y105.heap.size y105 y116) := Lib.hid (by rw [← hy]; exact (Below.refl _ _).alloc (Nat.le_refl _) _)
          have HZ116 : Hid (Sm y116 G7 (.slice none 0 0) 0 0 false 0 0) := Lib.hid (by rw [← hG, ← hy]; exact heap_alloc_new _ _)
          have HGB7 : Hid (w.heap.size ≤ G7) := Lib.hid (by rw [← hG]; exact FB106.out.size)
          have HNE : Hid (G7 ≠ G8) := Lib.hid (by rw [← hG]; exact Nat.ne_of_gt Fz8106.out.lt)
          have Fs1117 := Lib.hid (HG105.out.later HX116.out)
          have Fz8117 := Lib.hid (Fz8106.out.later HX116.out)
          have FB117 := Lib.hid (below_step FB106.out HX116.out)
          clear hy hG
          refine wpAny_ready (rs := [7]) (by kernel_rfl) (by simp) (all1 7 rfl (fun K hK => ?o118) AllReady.nil)
          case o118 =>
            go_simp
            refine (HS2.out _ FB117.out).mono ?_
            rintro ex y119 ⟨q2, m2, c2, L2, rfl, hg, hl, hk, hmc, _, _, hm, hb⟩
            have HX119 : Hid (Below y116.heap.size y116 y119) := Lib.hid hb
            have HG119 := Lib.hid hg
            have HL2 := Lib.hid hl
            have HK2 := Lib.hid hk
            have HM2 := Lib.hid (And.intro hmc hm)
            clear hg hl hk hmc hm hb
            (try dsimp only)
            first
              | refine hK.out _ _ ?_
              | (go_wp2_with fail; refine hK.out _ _ ?_)
            clear hK K
            (try simp only [Act.put, List.setIfInBounds_toArray, List.set_cons_zero, List.set_cons_succ])
            have Fs1120 := Lib.hid (Fs1117.out.later HX119.out)
            have Fz7120 := Lib.hid (HZ116.out.later HX119.out)
            have Fz8120 := Lib.hid (Fz8117.out.later HX119.out)
            have FB120 := Lib.hid (below_step FB117.out HX119.out)
            refine wpAny_ready (rs := [10]) (by kernel_rfl) (by simp) (all1 10 rfl (fun K hK => ?_) AllReady.nil)
            rw [if_pos (by rfl)]
            refine wp_store_row 39 _ _ rfl G7 _ rfl rfl 39 _ Fz7120.out size6 rfl scanC_one ?_
            generalize hwA : World.setRow _ _ _ = y121
            have HZ121 : Hid (Sm y121 G7 (.slice q1 m1 c1) s1 e1 sl1 a1 r1) := Lib.hid (by rw [← hwA]; exact Fz7120.out.row)
            have HO121 := Lib.hid (Sm.keep Fz8120.out (keep_row hwA _ HNE.out.symm))
            have HP121 := Lib.hid (Gs.bySm Fs1120.out Fz7120.out (keep_row hwA))
            have HQ121 := Lib.hid (Gs.bySm HG119.out Fz7120.out (keep_row hwA))
            have HR121 : Hid (Below w.heap.size w y121) := Lib.hid (by rw [← hwA]; exact below_setRow8 FB120.out _ _ HGB7.out)
            clear hwA
            refine hK.out _ _ ?_
            clear hK K
            (try simp only [Act.put, List.setIfInBounds_toArray, List.set_cons_zero, List.set_cons_succ])
            refine wpAny_ready (rs := [11]) (by kernel_rfl) (by simp) (all1 11 rfl (fun K hK => ?_) AllReady.nil)
            rw [if_pos (by rfl)]
            refine wp_store_row 39 _ _ rfl G8 _ rfl rfl 39 _ HO121.out size6 rfl scanC_one ?_
            generalize hwA : World.setRow _ _ _ = y122
            have HZ122 : Hid (Sm y122 G8 (.slice q2 m2 c2) s2 e2 sl2 a2 r2) := Lib.hid (by rw [← hwA]; exact HO121.out.row)
            have HO122 := Lib.hid (Sm.keep HZ121.out (keep_row hwA _ HNE.out))
            have HP122 := Lib.hid (Gs.bySm HP121.out HO121.out (keep_row hwA))
            have HQ122 := Lib.hid (Gs.bySm HQ121.out HO121.out (keep_row hwA))
            have HR122 : Hid (Below w.heap.size w y122) := Lib.hid (by rw [← hwA]; exact below_setRow8 HR121.out _ _ HGB8.out)
            clear hwA
            refine hK.out _ _ ?_
            clear hK K
            (try simp only [Act.put, List.setIfInBounds_toArray, List.set_cons_zero, List.set_cons_succ])
            refine wpAny_done (by kernel_rfl) ?_ _
            go_wp2_with fail
            go_meet
            exact ⟨G7, G8, q1, m1, c1, L1, q2, m2, c2, L2, rfl, rfl, HO122, HZ122, HP122, HQ122, HL1, HL2, HK1, HK2, Lib.hid ⟨HM1.out.1, HM2.out.1, HM1.out.2, HM2.out.2⟩, HR122⟩
      case o104 =>
        go_simp
        first
          | refine hK.out _ _ ?_
          | (go_wp2_with fail; refine hK.out _ _ ?_)
        clear hK K
        (try simp only [Act.put, List.setIfInBounds_toArray, List.set_cons_zero, List.set_cons_succ])
        obtain ⟨y123, hy⟩ : ∃ X, y101.alloc (.cells #[.slice none 0 0, .int .u64 0, .int .i64 0, .bool false, .int .i64 0, .int .i64 0] 39) = X := ⟨_, rfl⟩
        rw [hy]
        obtain ⟨G7, hG⟩ : ∃ x, y101.heap.size = x := ⟨_, rfl⟩
        rw [hG]
        have HX123 : Hid (Below y101.heap.size y101 y123) := Lib.hid (by rw [← hy]; exact (Below.refl _ _).alloc (Nat.le_refl _) _)
        have HZ123 : Hid (Sm y123 G7 (.slice none 0 0) 0 0 false 0 0) := Lib.hid (by rw [← hG, ← hy]; exact heap_alloc_new _ _)
        have HGB7 : Hid (w.heap.size ≤ G7) := Lib.hid (by rw [← hG]; exact FB102.out.size)
        have HNE : Hid (G7 ≠ G8) := Lib.hid (by rw [← hG]; exact Nat.ne_of_gt HZ101.out.lt)
        have Fz8124 := Lib.hid (HZ101.out.later HX123.out)
        have FB124 := Lib.hid (below_step FB102.out HX123.out)
        clear hy hG
        refine wpAny_ready (rs := [2]) (by kernel_rfl) (by simp) (all1 2 rfl (fun K hK => ?o125) AllReady.nil)
        case o125 =>
          go_simp
          refine (HS1.out _ FB124.out).mono ?_
          rintro ex y126 ⟨q1, m1, c1, L1, rfl, hg, hl, hk, hmc, _, _, hm, hb⟩
          have HX126 : Hid (Below y123.heap.size y123 y126) := Lib.hid hb
          have HG126 := Lib.hid hg
          have HL1 := Lib.hid hl
          have HK1 := Lib.hid hk
          have HM1 := Lib.hid (And.intro hmc hm)
          clear hg hl hk hmc hm hb
          (try dsimp only)
          first
            | refine hK.out _ _ ?_
            | (go_wp2_with fail; refine hK.out _ _ ?_)
          clear hK K
          (try simp only [Act.put, List.setIfInBounds_toArray, List.set_cons_zero, List.set_cons_succ])
          have Fz7127 := Lib.hid (HZ123.out.later HX126.out)
          have Fz8127 := Lib.hid (Fz8124.out.later HX126.out)
          have FB127 := Lib.hid (below_step FB124.out HX126.out)
          refine wpAny_ready (rs := [7]) (by kernel_rfl) (by simp) (all1 7 rfl (fun K hK => ?o128) AllReady.nil)
          case o128 =>
            go_simp
            refine (HS2.out _ FB127.out).mono ?_
            rintro ex y129 ⟨q2, m2, c2, L2, rfl, hg, hl, hk, hmc, _, _, hm, hb⟩
            have HX129 : Hid (Below y126.heap.size y126 y129) := Lib.hid hb
            have HG129 := Lib.hid hg
            have HL2 := Lib.hid hl
            have HK2 := Lib.hid hk
            have HM2 := Lib.hid (And.intro hmc hm)
            clear hg hl hk hmc hm hb
            (try dsimp only)
            first
              | refine hK.out _ _ ?_
              | (go_wp2_with fail; refine hK.out _ _ ?_)
            clear hK K
            (try simp only [Act.put, List.setIfInBounds_toArray, List.set_cons_zero, List.set_cons_succ])
            have Fs1130 := Lib.hid (HG126.out.later HX129.out)
            have Fz7130 := Lib.hid (Fz7127.out.later HX129.out)
            have Fz8130 := Lib.hid (Fz8127.out.later HX129.out)
            have FB130 := Lib.hid (below_step FB127.out HX129.out)
            refine wpAny_ready (rs := [10]) (by kernel_rfl) (by simp) (all1 10 rfl (fun K hK => ?_) AllReady.nil)
            rw [if_pos (by rfl)]
            refine wp_store_row 39 _ _ rfl G7 _ rfl rfl 39 _ Fz7130.out size6 rfl scanC_one ?_
            generalize hwA : World.setRow _ _ _ = y131
            have HZ131 : Hid (Sm y131 G7 (.slice q1 m1 c1) s1 e1 sl1 a1 r1) := Lib.hid (by rw [← hwA]; exact Fz7130.out.row)
            have HO131 := Lib.hid (Sm.keep Fz8130.out (keep_row hwA _ HNE.out.symm))
            have HP131 := Lib.hid (Gs.bySm Fs1130.out Fz7130.out (keep_row hwA))
            have HQ131 := Lib.hid (Gs.bySm HG129.out Fz7130.out (keep_row hwA))
            have HR131 : Hid (Below w.heap.size w y131) := Lib.hid (by rw [← hwA]; exact below_setRow8 FB130.out _ _ HGB7.out)
            clear hwA
            refine hK.out _ _ ?_
            clear hK K
            (try simp only [Act.put, List.setIfInBounds_toArray, List.set_cons_zero, List.set_cons_succ])
            refine wpAny_ready (rs := [11]) (by kernel_rfl) (by simp) (all1 11 rfl (fun K hK => ?_) AllReady.nil)
            rw [if_pos (by rfl)]
            refine wp_store_row 39 _ _ rfl G8 _ rfl rfl 39 _ HO131.out size6 rfl scanC_one ?_
            generalize hwA : World.setRow _ _ _ = y132
            have HZ132 : Hid (Sm y132 G8 (.slice q2 m2 c2) s2 e2 sl2 a2 r2) := Lib.hid (by rw [← hwA]; exact HO131.out.row)
            have HO132 := Lib.hid (Sm.keep HZ131.out (keep_row hwA _ HNE.out))
            have HP132 := Lib.hid (Gs.bySm HP131.out HO131.out (keep_row hwA))
            have HQ132 := Lib.hid (Gs.bySm HQ131.out HO131.out (keep_row hwA))
            have HR132 : Hid (Below w.heap.size w y132) := Lib.hid (by rw [← hwA]; exact below_setRow8 HR131.out _ _ HGB8.out)
            clear hwA
            refine hK.out _ _ ?_
            clear hK K
            (try simp only [Act.put, List.setIfInBounds_toArray, List.set_cons_zero, List.set_cons_succ])
            refine wpAny_done (by kernel_rfl) ?_ _
            go_wp2_with fail
            go_meet
            exact ⟨G7, G8, q1, m1, c1, L1, q2, m2, c2, L2, rfl, rfl, HO132, HZ132, HP132, HQ132, HL1, HL2, HK1, HK2, Lib.hid ⟨HM1.out.1, HM2.out.1, HM1.out.2, HM2.out.2⟩, HR132⟩
  case rest =>
    obtain ⟨G7, G8, q1, m1, c1, L1, q2, m2, c2, L2, rfl, rfl, H7, H8, HG1, HG2, HL1, HL2, HK1, HK2, HM, HB⟩ := hcut
    obtain ⟨more, hmore⟩ := HP.out.1
    obtain ⟨_, he20, he2k⟩ := HP.out
    have hM1 : ws1.length = m1 := by rw [← HL1.out, wdL_length, HG1.out.len]
    have hM2 : ws2.length = m2 := by rw [← HL2.out, wdL_length, HG2.out.len]
    have hm21 : m2 ≤ m1 := by rw [← hM1, ← hM2, hmore, List.length_append]; omega
    obtain ⟨hcut1, hgt⟩ := HG1.out.cut_to 36 Try.underlying36 (fun _ => by kernel_rfl) c1 m2 HM.out.1 hm21
    have HGT : Hid (∀ W, Below wc.heap.size wc W → Gs encWd W q1 m2 (L1.take m2)) := Lib.hid fun W hW => hgt.later hW
    have HWE : Hid (wdL L2 = wdL (L1.take m2)) := Lib.hid (by rw [wdL_take, HL1.out, HL2.out, hmore, ← hM2, List.take_left])
    have HWD := Lib.hid fun W (hW : Below wc.heap.size wc W) => rwords_any q2 q1 m2 c2 c1 L2 (L1.take m2) W (HG2.out.later hW) (HGT.out W hW) HWE.out HK2.out HM.out.2.2.2
    obtain ⟨j, rfl⟩ : ∃ j : Nat, e2 = (j : Int) := ⟨e2.toNat, by omega⟩
    have hjk : j ≤ k := by omega
    obtain ⟨pj, hsj, HCJ⟩ := HC.out j hjk
    have HCJ' := Lib.hid HCJ
    have HAJ := Lib.hid (HA.out j hjk)
    have he1 := HE1.out
    have HSS := Lib.hid fun W (hW : Below wc.heap.size wc W) => (show W.cell? ⟨G7, 0, none⟩ = some (.slice q1 m1 c1) ∧ W.cell? ⟨G7, 2, none⟩ = some (.int .i64 e1) ∧ W.cell? ⟨G8, 0, none⟩ = some (.slice q2 m2 c2) ∧ W.cell? ⟨G8, 1, none⟩ = some (.int .u64 s2) ∧ W.cell? ⟨G8, 2, none⟩ = some (.int .i64 (j : Int)) from by
      obtain ⟨x0, _, x2, _⟩ := (H7.out.later hW).cells
      obtain ⟨z0, z1, z2, _⟩ := (H8.out.later hW).cells
      exact ⟨x0, x2, z0, z1, z2⟩)
    have HD0 : Hid (Below wc.heap.size wc wc.drew) := Lib.hid (Below.refl _ _).drew
    have hgk : ¬ (e1 > (len : Int)) := by omega
    have hgj : ¬ ((j : Int) > (k : Int)) := by omega
    have hgm : ¬ ((m2 : Int) > (m1 : Int)) := by omega
    have hm2c : (m2 : Int) ≤ (c1 : Int) := by have := HM.out.1; omega
    clear HCJ hgt hmore hM1 hM2 HP HC HA
    have HX0 := HD0
    go_upto_region 4 with fail
    have k0 := Lib.hid (HSS.out _ HX0.out)
    go_region_held3 (fun W => W.cell? ⟨G7, 0, none⟩ = some (.slice q1 m1 c1) ∧ W.cell? ⟨G7, 2, none⟩ = some (.int .i64 e1) ∧ W.cell? ⟨G8, 0, none⟩ = some (.slice q2 m2 c2) ∧ W.cell? ⟨G8, 1, none⟩ = some (.int .u64 s2) ∧ W.cell? ⟨G8, 2, none⟩ = some (.int .i64 (j : Int))) (first | with_reducible exact k0.out | with_reducible exact k5.out | fail) (first
      | (go_at_call 19; refine (HWD.out _ HX0.out).mono ?_; rintro ex w5 ⟨rfl, hb5⟩; have HX5 : Hid (Below wc.heap.size wc w5) := Lib.hid (below_step HX0.out hb5); have k5 := Lib.hid (HSS.out _ HX5.out); clear hb5))
    have HB5 := Lib.hid (below_step HB.out HX5.out)
    obtain ⟨x0, x2, z0, z1, z2⟩ := k5.out
    generalize scF (zs.take j) n = F3 at *
    obtain ⟨ws3, s3, e3, sl3, a3, r3⟩ := F3
    dsimp only at HCJ' HAJ
    by_cases hj0 : j = 0
    · have hj1 : ((j : Int) == 0) = true := by simpa using hj0
      clear hj0 HAJ
      go_wp2_with (first
        | (go_at_call 13; refine (HCJ'.out _ HB5.out).mono ?_; rintro ex w6 ⟨q3, m3, c3, L3, rfl, hg3, hl3, hk3, _, _, _, hm3, hb6⟩; have HB6 := Lib.hid (below_step HB5.out hb6); have HX6 := Lib.hid (below_step HX5.out hb6); (try dsimp only); have hbx : Below w6.heap.size w6 (w6.alloc (.cells #[.slice q3 m3 c3, .int .u64 s3, .int .i64 e3, .bool sl3, .int .i64 a3, .int .i64 r3] 39)) := (Below.refl _ _).alloc (Nat.le_refl _) _; have HBA := Lib.hid (below_step HB6.out hbx); have HXA := Lib.hid (below_step HX6.out hbx); obtain ⟨_, _, z0, z1, z2⟩ := HSS.out _ HXA.out; clear hb6 hbx)
        | (go_at_call 11; refine (HLV.out _).mono ?_; rintro ex w8 ⟨rfl, hb8⟩; have HB8 := Lib.hid (below_step HBA.out hb8); clear hb8))
      go_ret
      exact ⟨rfl, HB8.out⟩
    · have hj1 : ((j : Int) == 0) = false := by simpa using hj0
      obtain ⟨hr3, hE3, hw3, hs3⟩ := HAJ.out hj0 (by first | rfl | trivial)
      have hw3' := hw3.symm
      have hs3' := hs3.symm
      clear hw3 hs3
      subst hr3 hE3
      subst hw3'
      subst hs3'
      have HW3 := Lib.hid fun (q3 : Option Addr) (c3 : Nat) (L3 : List Wx) W (hg : Gs encWd W q3 m2 L3) (hl : wdL L3 = ws2) (hk : ∀ x ∈ L3, x.1.Ok) (hW : Below wc.heap.size wc W) => rwords_any q3 q2 m2 c3 c2 L3 L2 W hg (HG2.out.later hW) (by rw [hl, HL2.out]) hk HM.out.2.2.2
      go_wp2_with (first
        | (go_at_call 13; refine (HCJ'.out _ HB5.out).mono ?_; rintro ex w6 ⟨q3, m3, c3, L3, rfl, hg3, hl3, hk3, _, _, _, hm3, hb6⟩; have heq : m2 = m3 := (by rw [← hg3.len, ← HG2.out.len, ← wdL_length L3, ← wdL_length L2, hl3, HL2.out]); subst heq; have HB6 := Lib.hid (below_step HB5.out hb6); have HX6 := Lib.hid (below_step HX5.out hb6); (try dsimp only); have hbx : Below w6.heap.size w6 (w6.alloc (.cells #[.slice q3 m2 c3, .int .u64 s2, .int .i64 (j : Int), .bool sl3, .int .i64 a3, .int .i64 0] 39)) := (Below.refl _ _).alloc (Nat.le_refl _) _; have HBA := Lib.hid (below_step HB6.out hbx); have HXA := Lib.hid (below_step HX6.out hbx); obtain ⟨_, _, z0, z1, z2⟩ := HSS.out _ HXA.out; have HSA : Hid (Sm (w6.alloc (.cells #[.slice q3 m2 c3, .int .u64 s2, .int .i64 (j : Int), .bool sl3, .int .i64 a3, .int .i64 0] 39)) w6.heap.size (.slice q3 m2 c3) s2 (j : Int) sl3 a3 0) := Lib.hid (heap_alloc_new _ _); have HG3 : Hid (Gs encWd (w6.alloc (.cells #[.slice q3 m2 c3, .int .u64 s2, .int .i64 (j : Int), .bool sl3, .int .i64 a3, .int .i64 0] 39)) q3 m2 L3) := Lib.hid (hg3.later hbx); have HL3 := Lib.hid hl3; have HK3 := Lib.hid hk3; clear hb6 hbx)
        | (go_at_call 19; refine (HW3.out _ _ _ _ HG3.out HL3.out HK3.out HXA.out).mono ?_; rintro ex w7 ⟨rfl, hb7⟩; have HB7 := Lib.hid (below_step HBA.out hb7); obtain ⟨_, _, y0, y1, y2⟩ := HSS.out _ (below_step HXA.out hb7); obtain ⟨v0, v1, v2, v3, v4, v5⟩ := (HSA.out.later hb7).cells; clear hb7)
        | (go_at_call 11; refine (HLV.out _).mono ?_; rintro ex w8 ⟨rfl, hb8⟩; have HB8 := Lib.hid (below_step HB7.out hb8); clear hb8))
      go_ret
      exact ⟨rfl, HB8.out⟩
end Go.Proofs.Ytjdigncieoaglaa
