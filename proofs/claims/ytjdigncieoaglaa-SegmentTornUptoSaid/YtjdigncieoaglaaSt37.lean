/- Layer 16, the program: scanHeader; Layer 16, the program: scanFooter; Layer 15, the program: Parse; Layer 16, the program: scanMore; Layer 16, the program: Scan; Layer 16, the program: all of it; SegmentEnds, where what comes in is of bulk at most 1048576: Head and Foot answer what the reference's records make; SegmentScans, where what comes in is of bulk at most 1048576: Scan answers what the ref -/
import Derived.Test.YtjdigncieoaglaaSt11
import Derived.Test.YtjdigncieoaglaaSt12
import Derived.Test.YtjdigncieoaglaaSt16
import Derived.Test.YtjdigncieoaglaaSt29
import Derived.Test.YtjdigncieoaglaaSt30
import Derived.Test.YtjdigncieoaglaaSt33
import Derived.Test.YtjdigncieoaglaaSt36
set_option linter.unusedSimpArgs false
set_option linter.unusedVariables false
namespace Go.Proofs.Ytjdigncieoaglaa
set_option linter.unusedVariables false
open Go.RowKit Go.Lib

set_option maxRecDepth 100000 in
set_option maxHeartbeats 2000000 in
theorem scanHeader_any (p : Option Addr) (len cap : Nat) (zs : List Int) (n : Int) (w : World) (h : Bs w p len zs) (hpc : p = none → cap = 0) (hlc : len ≤ cap) (hcm : cap ≤ maxLen) (hlen : len ≤ 2097216) :
    Calls Try.prog 24 #[.slice p len cap, .int .i64 n] w fun e1 w' => e1 = .returned (.agg (scanC (.slice none 0 0) (headF zs n).s (headF zs n).e (headF zs n).sealed_ 0 (headF zs n).err)) ∧ Below w.heap.size w w' := by
  obtain ⟨wA, hA⟩ : ∃ W, w.alloc (.cells (scanC (.slice none 0 0) 0 0 false 0 0) 39) = W := ⟨_, rfl⟩
  have H4 := Lib.hid (Sm.zero hA)
  have HBA : Hid (Below w.heap.size w wA) := Lib.hid (by rw [← hA]; exact (Below.refl _ _).alloc (Nat.le_refl _) _)
  have HRP := Lib.hid (cparse_ok p len cap zs 0 wA (h.later HBA.out) hpc hlc hcm hlen (by omega))
  unfold RpQ at HRP
  obtain ⟨F, hF⟩ : ∃ F, headF zs n = F := ⟨_, rfl⟩
  rw [hF]
  unfold headF at hF
  obtain ⟨E0, hE0⟩ : ∃ E, rpE zs 0 = E := ⟨_, rfl⟩
  obtain ⟨N0, hN0⟩ : ∃ N, rpN zs 0 = N := ⟨_, rfl⟩
  obtain ⟨R0, hR0⟩ : ∃ r, rpR zs 0 = r := ⟨_, rfl⟩
  rw [hE0, hN0, hR0] at hF HRP
  have HF := Lib.hid hF
  unfold scanC at hA
  clear h hpc hlc hcm hF hE0 hN0 hR0
  go_enter Try.func24, Try.ntmps24
  go_upto_region 2 with (first
    | (go_at_call 37; refine HRP.out.mono ?_; rintro e1 w1 ⟨x, rfl, hf1, hr1, hb1⟩; have HF1 := Lib.hid hf1; have HR1 := Lib.hid hr1; have HB1 := Lib.hid hb1; clear hf1 hr1 hb1)
    | (refine wpList_store_row rfl 29 _ _ rfl w1.heap.size _ rfl rfl 29 _ (heap_alloc_new _ _) (Rq.sizeOf x HF1.out.dg.1) (Rq.sizes rq0 x rfl HF1.out.dg.1) x.one ?_; generalize hw2 : World.setRow _ _ _ = w2))
  have HB12 : Hid (Below w1.heap.size w1 w2) := Lib.hid (by rw [← hw2]; exact below_setRow8 ((Below.refl _ _).alloc (Nat.le_refl _) _) _ _ (Nat.le_refl _))
  have HR2 : Hid (Rm w2 w1.heap.size x) := Lib.hid (by rw [← hw2]; exact Mx.row (show Rm (w1.alloc (.cells (mixC rq0.a rq0.dg rq0.z) 29)) w1.heap.size rq0 from heap_alloc_new _ _))
  have HB02 := Lib.hid (below_step HB1.out HB12.out)
  have HW2 := Lib.hid (below_step HBA.out HB02.out)
  have H42 := Lib.hid (H4.out.later HB02.out)
  have HXD := Lib.hid HF1.out.dg.1
  have hks : R0.k = x.k ∧ R0.s = x.s ∧ R0.n = x.N := by rw [← HR1.out]; exact ⟨rfl, rfl, rfl⟩
  obtain ⟨hk', hs', hn'⟩ := hks
  rw [hk', hs', hn'] at HF
  clear hw2 hA hk' hs' hn'
  obtain ⟨e0, e1, _, _, e36, e37⟩ := HR2.out.cells HXD.out
  by_cases hz : E0 = 0
  · have hne : (E0 != 0) = false := by simpa using hz
    rw [if_neg (by simpa using hz)] at HF
    clear hz
    by_cases h7 : x.k = 7
    · have hk7 : (x.k != 7) = false := by simpa using h7
      by_cases hN : x.N = n
      · have hkN : (x.N != n) = false := by simpa using hN
        rw [if_neg (by rintro (h1 | h1); exact h1 h7; exact h1 hN)] at HF
        clear h7 hN
        go_wp2_with (first
          | (refine wpList_build_is rfl 39 _ rfl (scanC (.slice none 0 0) x.s N0 false 0 0) ?_ ?_; focus kernel_rfl)
          | (refine wpList_store_row rfl 39 _ _ rfl w.heap.size _ rfl rfl 39 _ H42.out size6 rfl scanC_one ?_; generalize hwZ : World.setRow _ _ _ = wZ))
        have HZ4 := Lib.hid (show Sm wZ w.heap.size (.slice none 0 0) x.s N0 false 0 0 from by rw [← hwZ]; exact H42.out.row)
        have HZB : Hid (Below w.heap.size w wZ) := Lib.hid (by rw [← hwZ]; exact below_setRow8 HW2.out _ _ (Nat.le_refl _))
        clear hwZ
        (try simp only [Exit.inBlock, Exit.then])
        (try rw [Exit.noGoto_ret])
        refine bodyPost_ret (HZ4.out.res1 rfl _ rfl) rfl ?_
        exact ⟨by rw [← HF.out], HZB.out⟩
      · have hkN : (x.N != n) = true := by simpa using hN
        rw [if_pos (Or.inr hN)] at HF
        clear h7 hN
        go_wp2_with (first
          | (refine wpList_build_is rfl 39 _ rfl (scanC (.slice none 0 0) 0 0 false 0 3) ?_ ?_; focus kernel_rfl)
          | (refine wpList_store_row rfl 39 _ _ rfl w.heap.size _ rfl rfl 39 _ H42.out size6 rfl scanC_one ?_; generalize hwZ : World.setRow _ _ _ = wZ))
        have HZ4 := Lib.hid (show Sm wZ w.heap.size (.slice none 0 0) 0 0 false 0 3 from by rw [← hwZ]; exact H42.out.row)
        have HZB : Hid (Below w.heap.size w wZ) := Lib.hid (by rw [← hwZ]; exact below_setRow8 HW2.out _ _ (Nat.le_refl _))
        clear hwZ
        (try simp only [Exit.inBlock, Exit.then])
        (try rw [Exit.noGoto_ret])
        refine bodyPost_ret (HZ4.out.res1 rfl _ rfl) rfl ?_
        exact ⟨by rw [← HF.out], HZB.out⟩
    · have hk7 : (x.k != 7) = true := by simpa using h7
      rw [if_pos (Or.inl h7)] at HF
      clear h7
      go_wp2_with (first
        | (refine wpList_build_is rfl 39 _ rfl (scanC (.slice none 0 0) 0 0 false 0 3) ?_ ?_; focus kernel_rfl)
        | (refine wpList_store_row rfl 39 _ _ rfl w.heap.size _ rfl rfl 39 _ H42.out size6 rfl scanC_one ?_; generalize hwZ : World.setRow _ _ _ = wZ))
      have HZ4 := Lib.hid (show Sm wZ w.heap.size (.slice none 0 0) 0 0 false 0 3 from by rw [← hwZ]; exact H42.out.row)
      have HZB : Hid (Below w.heap.size w wZ) := Lib.hid (by rw [← hwZ]; exact below_setRow8 HW2.out _ _ (Nat.le_refl _))
      clear hwZ
      (try simp only [Exit.inBlock, Exit.then])
      (try rw [Exit.noGoto_ret])
      refine bodyPost_ret (HZ4.out.res1 rfl _ rfl) rfl ?_
      exact ⟨by rw [← HF.out], HZB.out⟩
  · have hne : (E0 != 0) = true := by simpa using hz
    rw [if_pos hz] at HF
    clear hz
    go_wp2_with (first
      | (refine wpList_build_is rfl 39 _ rfl (scanC (.slice none 0 0) 0 0 false 0 E0) ?_ ?_; focus kernel_rfl)
      | (refine wpList_store_row rfl 39 _ _ rfl w.heap.size _ rfl rfl 39 _ H42.out size6 rfl scanC_one ?_; generalize hwZ : World.setRow _ _ _ = wZ))
    have HZ4 := Lib.hid (show Sm wZ w.heap.size (.slice none 0 0) 0 0 false 0 E0 from by rw [← hwZ]; exact H42.out.row)
    have HZB : Hid (Below w.heap.size w wZ) := Lib.hid (by rw [← hwZ]; exact below_setRow8 HW2.out _ _ (Nat.le_refl _))
    clear hwZ
    (try simp only [Exit.inBlock, Exit.then])
    (try rw [Exit.noGoto_ret])
    refine bodyPost_ret (HZ4.out.res1 rfl _ rfl) rfl ?_
    exact ⟨by rw [← HF.out], HZB.out⟩
end Go.Proofs.Ytjdigncieoaglaa

namespace Go.Proofs.Ytjdigncieoaglaa
set_option linter.unusedVariables false
open Go.RowKit Go.Lib

set_option maxRecDepth 100000 in
set_option maxHeartbeats 2000000 in
theorem scanFooter_any (p : Option Addr) (len cap : Nat) (zs : List Int) (q : Option Addr) (m c : Nat) (ws : List Wd) (s e er : Int) (w : World) (h : Bs w p len zs) (hpc : p = none → cap = 0) (hlc : len ≤ cap) (hcm : cap ≤ maxLen) (hlen : len ≤ 2097216) (hm : ws.length = m) (he : 0 ≤ e ∧ e ≤ len) :
    Calls Try.prog 39 #[.agg (scanC (.slice q m c) s e false 0 0), .slice p len cap, .int .i64 er] w fun e1 w' => e1 = .returned (.agg (scanC (.slice q m c) (footF zs ws s e er).s (footF zs ws s e er).e (footF zs ws s e er).sealed_ 0 (footF zs ws s e er).err)) ∧ Below w.heap.size w w' := by
  obtain ⟨wA, hA, hsA, hbA⟩ := box_scan w (.slice q m c) s e false 0 0
  obtain ⟨g6, hg6⟩ : ∃ g, wA.heap.size = g := ⟨_, rfl⟩
  obtain ⟨wB, hB⟩ : ∃ W, wA.alloc (.cells (scanC (.slice none 0 0) 0 0 false 0 0) 39) = W := ⟨_, rfl⟩
  have HLT : Hid (w.heap.size < g6) := Lib.hid (by rw [← hg6]; exact hsA.lt)
  have hbB : Below wA.heap.size wA wB := by rw [← hB]; exact (Below.refl _ _).alloc (Nat.le_refl _) _
  have H3 := Lib.hid (hsA.later hbB)
  have H6 : Hid (Sm wB g6 (.slice none 0 0) 0 0 false 0 0) := Lib.hid (by rw [← hg6]; exact Sm.zero hB)
  have HBB := Lib.hid (below_step hbA hbB)
  have HRP := Lib.hid (cparse_ok p len cap zs e wB (h.later HBB.out) hpc hlc hcm hlen (by omega))
  unfold RpQ at HRP
  obtain ⟨F, hF⟩ : ∃ F, footF zs ws s e er = F := ⟨_, rfl⟩
  rw [hF]
  unfold footF at hF
  rw [h.len, hm] at hF
  obtain ⟨E0, hE0⟩ : ∃ E, rpE zs e = E := ⟨_, rfl⟩
  obtain ⟨N0, hN0⟩ : ∃ N, rpN zs e = N := ⟨_, rfl⟩
  obtain ⟨R0, hR0⟩ : ∃ r, rpR zs e = r := ⟨_, rfl⟩
  rw [hN0, hR0] at hF
  rw [hE0, hN0, hR0] at HRP
  have HF := Lib.hid hF
  have HN0 : Hid (-9223372036854775808 ≤ N0 ∧ N0 ≤ 9223372036854775807) := Lib.hid (by
    rw [← hN0]
    by_cases h0 : rpE zs e = 0
    · have h1 := rp_next h.byte h0
      rw [h.len] at h1
      omega
    · unfold rpN
      rw [if_neg h0]
      omega)
  unfold scanC at hB
  generalize hM2 : scanC (.slice q m c) s e false 0 0 = M2 at hA ⊢
  clear hM2 h hpc hlc hcm hF hE0 hN0 hR0 hsA hbA hbB
  obtain ⟨k0, k1, k2, k3, k4, k5⟩ := H3.out.cells
  go_enter Try.func39, Try.ntmps39
  go_upto_region 2 with (first
    | (go_at_call 37; refine HRP.out.mono ?_; rintro e1 w1 ⟨x, rfl, hf1, hr1, hb1⟩; have HF1 := Lib.hid hf1; have HR1 := Lib.hid hr1; have HB1 := Lib.hid hb1; clear hf1 hr1 hb1)
    | (refine wpList_store_row rfl 29 _ _ rfl w1.heap.size _ rfl rfl 29 _ (heap_alloc_new _ _) (Rq.sizeOf x HF1.out.dg.1) (Rq.sizes rq0 x rfl HF1.out.dg.1) x.one ?_; generalize hw2 : World.setRow _ _ _ = w2))
  have HB12 : Hid (Below w1.heap.size w1 w2) := Lib.hid (by rw [← hw2]; exact below_setRow8 ((Below.refl _ _).alloc (Nat.le_refl _) _) _ _ (Nat.le_refl _))
  have HR2 : Hid (Rm w2 w1.heap.size x) := Lib.hid (by rw [← hw2]; exact Mx.row (show Rm (w1.alloc (.cells (mixC rq0.a rq0.dg rq0.z) 29)) w1.heap.size rq0 from heap_alloc_new _ _))
  have HB02 := Lib.hid (below_step HB1.out HB12.out)
  have HW2 := Lib.hid (below_step HBB.out HB02.out)
  have H32 := Lib.hid (H3.out.later HB02.out)
  have H62 := Lib.hid (H6.out.later HB02.out)
  have HG1 : Hid (w.heap.size < w1.heap.size) := Lib.hid (by have h1 := H3.out.lt; have h2 := HB1.out.size; omega)
  have HXD := Lib.hid HF1.out.dg.1
  have hks : R0.k = x.k ∧ R0.s = x.s ∧ R0.n = x.N ∧ R0.z = x.Z := by rw [← HR1.out]; exact ⟨rfl, rfl, rfl, rfl⟩
  obtain ⟨hk', hs', hn', hz'⟩ := hks
  rw [hk', hs', hn', hz'] at HF
  clear hw2 hA hB hg6 hk' hs' hn' hz' k0 k1 k2 k3 k4 k5
  obtain ⟨b, hb⟩ : ∃ b, ftB x.k x.s x.N x.Z s m e = b := ⟨_, rfl⟩
  have HIF := Lib.hid fun W => isFooter_any x q m c s e false 0 0 W HXD.out
  rw [hb] at HIF HF
  clear hb
  by_cases hN : N0 = (len : Int)
  · have d1 : (N0 != (len : Int)) = false := by simpa using hN
    cases b
    · rw [if_neg (fun h => by simpa using h.2)] at HF
      clear hN
      go_upto_region 3 with (first
        | (refine wpList_wanted (by rfl) fun K hK => wp_ld 29 _ rfl _ rfl _ (HR2.out.load HXD.out) (hK _ _ ?_); clear hK K)
        | (refine wpList_wanted (by rfl) fun K hK => wp_ld 39 _ rfl _ rfl _ H32.out.load (hK _ _ ?_); clear hK K)
        | (go_at_call 58; refine (HIF.out _).mono ?_; rintro e3 w3 ⟨rfl, hb3⟩; have HB3 := Lib.hid hb3; clear hb3))
      have HB23 := Lib.hid (below_step HW2.out HB3.out)
      have H33 := Lib.hid (H32.out.later HB3.out)
      have H63 := Lib.hid (H62.out.later HB3.out)
      obtain ⟨v1, hv1⟩ : ∃ W, w3.setCell ⟨w.heap.size, 5, none⟩ (.int .i64 er) = W := ⟨_, rfl⟩
      obtain ⟨c10, c11, c12, c13, c14, c15⟩ := H33.out.cells
      have f1 := H33.out.frozen 5
      have HS1 : Hid (Sm v1 w.heap.size (.slice q m c) s e false 0 er) := Lib.hid (by rw [← hv1]; exact H33.out.setR _)
      have HF1 : Hid (Sm v1 g6 (.slice none 0 0) 0 0 false 0 0) := Lib.hid (by rw [← hv1]; exact H63.out.other _ _ (Nat.ne_of_gt HLT.out))
      have HQ1 : Hid (Below w.heap.size w v1) := Lib.hid (by rw [← hv1]; exact HB23.out.setCell (p := ⟨w.heap.size, 5, none⟩) (Nat.le_refl _) _)
      go_wp2_with (first
        | (refine wpList_ld rfl _ _ rfl _ rfl _ HS1.out.load ?_)
        | (refine wpList_store_row rfl 39 _ _ rfl g6 _ rfl rfl 39 _ HF1.out size6 rfl scanC_one ?_; generalize hwZ : World.setRow _ _ _ = wZ))
      have HZ4 := Lib.hid (show Sm wZ g6 (.slice q m c) s e false 0 er from by rw [← hwZ]; exact HF1.out.row)
      have HZB : Hid (Below w.heap.size w wZ) := Lib.hid (by rw [← hwZ]; exact below_setRow8 HQ1.out _ _ (Nat.le_of_lt HLT.out))
      clear hwZ
      (try simp only [Exit.inBlock, Exit.then])
      (try rw [Exit.noGoto_ret])
      refine bodyPost_ret (HZ4.out.res1 rfl _ rfl) rfl ?_
      exact ⟨by rw [← HF.out], HZB.out⟩
    · rw [if_pos ⟨hN, rfl⟩] at HF
      clear hN
      go_upto_region 5 with (first
        | (refine wpList_wanted (by rfl) fun K hK => wp_ld 29 _ rfl _ rfl _ (HR2.out.load HXD.out) (hK _ _ ?_); clear hK K)
        | (refine wpList_wanted (by rfl) fun K hK => wp_ld 39 _ rfl _ rfl _ H32.out.load (hK _ _ ?_); clear hK K)
        | (go_at_call 58; refine (HIF.out _).mono ?_; rintro e3 w3 ⟨rfl, hb3⟩; have HB3 := Lib.hid hb3; clear hb3))
      have HB23 := Lib.hid (below_step HW2.out HB3.out)
      have H33 := Lib.hid (H32.out.later HB3.out)
      have H63 := Lib.hid (H62.out.later HB3.out)
      obtain ⟨v3, hv3⟩ : ∃ W, w3.setCell ⟨w.heap.size, 3, none⟩ (.bool true) = W := ⟨_, rfl⟩
      obtain ⟨c30, c31, c32, c33, c34, c35⟩ := H33.out.cells
      have f3 := H33.out.frozen 3
      have HS3 : Hid (Sm v3 w.heap.size (.slice q m c) s e true 0 0) := Lib.hid (by rw [← hv3]; exact H33.out.setL _)
      have HF3 : Hid (Sm v3 g6 (.slice none 0 0) 0 0 false 0 0) := Lib.hid (by rw [← hv3]; exact H63.out.other _ _ (Nat.ne_of_gt HLT.out))
      have HQ3 : Hid (Below w.heap.size w v3) := Lib.hid (by rw [← hv3]; exact HB23.out.setCell (p := ⟨w.heap.size, 3, none⟩) (Nat.le_refl _) _)
      obtain ⟨v4, hv4⟩ : ∃ W, v3.setCell ⟨w.heap.size, 1, none⟩ (.int .u64 x.s) = W := ⟨_, rfl⟩
      obtain ⟨c40, c41, c42, c43, c44, c45⟩ := HS3.out.cells
      have f4 := HS3.out.frozen 1
      have HS4 : Hid (Sm v4 w.heap.size (.slice q m c) x.s e true 0 0) := Lib.hid (by rw [← hv4]; exact HS3.out.setS _)
      have HF4 : Hid (Sm v4 g6 (.slice none 0 0) 0 0 false 0 0) := Lib.hid (by rw [← hv4]; exact HF3.out.other _ _ (Nat.ne_of_gt HLT.out))
      have HQ4 : Hid (Below w.heap.size w v4) := Lib.hid (by rw [← hv4]; exact HQ3.out.setCell (p := ⟨w.heap.size, 1, none⟩) (Nat.le_refl _) _)
      obtain ⟨v5, hv5⟩ : ∃ W, v4.setCell ⟨w.heap.size, 2, none⟩ (.int .i64 N0) = W := ⟨_, rfl⟩
      obtain ⟨c50, c51, c52, c53, c54, c55⟩ := HS4.out.cells
      have f5 := HS4.out.frozen 2
      have HS5 : Hid (Sm v5 w.heap.size (.slice q m c) x.s N0 true 0 0) := Lib.hid (by rw [← hv5]; exact HS4.out.setE _)
      have HF5 : Hid (Sm v5 g6 (.slice none 0 0) 0 0 false 0 0) := Lib.hid (by rw [← hv5]; exact HF4.out.other _ _ (Nat.ne_of_gt HLT.out))
      have HQ5 : Hid (Below w.heap.size w v5) := Lib.hid (by rw [← hv5]; exact HQ4.out.setCell (p := ⟨w.heap.size, 2, none⟩) (Nat.le_refl _) _)
      have HRK : Hid (Rm v3 w1.heap.size x) := Lib.hid (by rw [← hv3]; exact Mx.other (Mx.later HR2.out HB3.out) _ _ (Nat.ne_of_gt HG1.out))
      obtain ⟨_, y1, _, _, _, _⟩ := HRK.out.cells HXD.out
      go_wp2_with (first
        | (refine wpList_ld rfl _ _ rfl _ rfl _ HS5.out.load ?_)
        | (refine wpList_store_row rfl 39 _ _ rfl g6 _ rfl rfl 39 _ HF5.out size6 rfl scanC_one ?_; generalize hwZ : World.setRow _ _ _ = wZ))
      have HZ4 := Lib.hid (show Sm wZ g6 (.slice q m c) x.s N0 true 0 0 from by rw [← hwZ]; exact HF5.out.row)
      have HZB : Hid (Below w.heap.size w wZ) := Lib.hid (by rw [← hwZ]; exact below_setRow8 HQ5.out _ _ (Nat.le_of_lt HLT.out))
      clear hwZ
      (try simp only [Exit.inBlock, Exit.then])
      (try rw [Exit.noGoto_ret])
      refine bodyPost_ret (HZ4.out.res1 rfl _ rfl) rfl ?_
      exact ⟨by rw [← HF.out], HZB.out⟩
  · have d1 : (N0 != (len : Int)) = true := by simpa using hN
    rw [if_neg (fun h => hN h.1)] at HF
    clear hN
    obtain ⟨v2, hv2⟩ : ∃ W, w2.setCell ⟨w.heap.size, 5, none⟩ (.int .i64 er) = W := ⟨_, rfl⟩
    obtain ⟨c20, c21, c22, c23, c24, c25⟩ := H32.out.cells
    have f2 := H32.out.frozen 5
    have HS2 : Hid (Sm v2 w.heap.size (.slice q m c) s e false 0 er) := Lib.hid (by rw [← hv2]; exact H32.out.setR _)
    have HF2 : Hid (Sm v2 g6 (.slice none 0 0) 0 0 false 0 0) := Lib.hid (by rw [← hv2]; exact H62.out.other _ _ (Nat.ne_of_gt HLT.out))
    have HQ2 : Hid (Below w.heap.size w v2) := Lib.hid (by rw [← hv2]; exact HW2.out.setCell (p := ⟨w.heap.size, 5, none⟩) (Nat.le_refl _) _)
    go_wp2_with (first
      | (refine wpList_ld rfl _ _ rfl _ rfl _ HS2.out.load ?_)
      | (refine wpList_store_row rfl 39 _ _ rfl g6 _ rfl rfl 39 _ HF2.out size6 rfl scanC_one ?_; generalize hwZ : World.setRow _ _ _ = wZ))
    have HZ4 := Lib.hid (show Sm wZ g6 (.slice q m c) s e false 0 er from by rw [← hwZ]; exact HF2.out.row)
    have HZB : Hid (Below w.heap.size w wZ) := Lib.hid (by rw [← hwZ]; exact below_setRow8 HQ2.out _ _ (Nat.le_of_lt HLT.out))
    clear hwZ
    (try simp only [Exit.inBlock, Exit.then])
    (try rw [Exit.noGoto_ret])
    refine bodyPost_ret (HZ4.out.res1 rfl _ rfl) rfl ?_
    exact ⟨by rw [← HF.out], HZB.out⟩
end Go.Proofs.Ytjdigncieoaglaa

namespace Go.Proofs.Ytjdigncieoaglaa
set_option linter.unusedVariables false
open Go.RowKit Go.Lib

theorem nextB_false {ws : List Wd} {s : Int} (h : nextB ws s = false) : ws ≠ [] ∧ (s < 1 ∨ s - 1 ≠ lastS ws) := by
  have h1 := of_decide_eq_false h
  exact ⟨fun e => h1 (Or.inl e), by
    by_cases h2 : s < 1
    · exact Or.inl h2
    · exact Or.inr fun h3 => h1 (Or.inr (by omega))⟩
theorem nextB_true {ws : List Wd} {s : Int} (h : nextB ws s = true) (h0 : 0 ≤ lastS ws) : ¬ (ws ≠ [] ∧ (s < 1 ∨ s - 1 ≠ lastS ws)) := by
  have h1 := of_decide_eq_true h
  rintro ⟨h2, h3⟩
  rcases h1 with h1 | h1
  · exact h2 h1
  · omega
theorem memB_is {k : Int} (h : memB k = true) : ¬ k = 6 ∧ ¬ k > 5 := by have := of_decide_eq_true h; omega
theorem memB_no {k : Int} (h : memB k = false) (hk : 1 ≤ k) : k > 5 := by have := of_decide_eq_false h; omega

set_option maxRecDepth 100000 in
set_option maxHeartbeats 8000000 in
theorem cbparse_ok : cbParseOk := by
  intro p len cap zs a seg w h hpc hlc hcm hlen ha hseg
  have HZ := Lib.hid h
  have HBY := Lib.hid (show Byt zs from h.byte)
  have HLN := Lib.hid h.len
  have HST := Lib.hid (bpF_start h.byte a seg)
  have HCP := Lib.hid fun (t : Int) W (hW : Bs W p len zs) (ht : -9223372036854775808 ≤ t ∧ t ≤ 9223372036854775807) => cparse_ok p len cap zs t W hW hpc hlc hcm hlen ht
  have HWD := Lib.hid fun (x : Rq) (off l : Int) W (hx : x.Fit W) (hn : x.n ≤ 2097216) => cword_ok x seg off l W hx hn
  unfold Rq.v locV at HWD
  clear h hpc hlc hcm
  go_enter Try.func38, Try.ntmps38
  go_wp2
  go_step3
  go_wp2
  go_step3
  go_wp2
  go_loopw [10, 12] (fun ov av wr => ∃ (at_ : Int) (L : List Wx), av = .int .i64 at_ ∧ Hid (Gw encWd wr w.heap.size ov L) ∧ Hid (bpF zs a seg = bpR zs seg a at_ (wdL L)) ∧ Hid (∀ x ∈ L, x.1.Ok) ∧ (L = [] → at_ = a) ∧ (L ≠ [] → 0 ≤ a ∧ a ≤ at_ ∧ at_ ≤ len) ∧ (L.length : Int) * 21 ≤ at_ - a ∧ Hid (Below w.heap.size w wr)) (fun _ av _ => ((len : Int) - Go.Lib.intOf av).toNat)
  case atStart => exact ⟨a, [], rfl, Lib.hid (Gw.nil _ _ _), HST, Lib.hid (fun x hx => by cases hx), fun _ => rfl, fun h => absurd rfl h, by simp, Lib.hid (Below.refl _ _)⟩
  case round =>
    obtain ⟨t, L, rfl, HG, HS, HK, hl0, hl1, hl2, HB⟩ := hrel
    have ht : -9223372036854775808 ≤ t ∧ t ≤ 9223372036854775807 := by
      by_cases hL : L = []
      · rw [hl0 hL]; exact ha
      · have := hl1 hL; omega
    have HRP := Lib.hid (HCP.out t wr (HZ.out.later HB.out) ht)
    have HSTEP := Lib.hid (bpR_step HBY.out seg a t (wdL L))
    rw [← HS.out] at HSTEP
    have HNX := Lib.hid fun h0 => rp_next HBY.out (a := t) h0
    rw [HLN.out] at HNX
    have HDA := Lib.hid fun h0 => rpR_da HBY.out (a := t) h0
    rw [HLN.out] at HDA
    have HRT := Lib.hid fun h0 => (show rightN (rpR zs t) = 0 from by obtain ⟨_, _, _, _, _, _, hh, _⟩ := rp_forth HBY.out (a := t) h0; exact hh)
    unfold RpQ at HRP
    obtain ⟨E, hE⟩ : ∃ E, rpE zs t = E := ⟨_, rfl⟩
    obtain ⟨NX, hNX⟩ : ∃ N, rpN zs t = N := ⟨_, rfl⟩
    obtain ⟨RC, hRC⟩ : ∃ r, rpR zs t = r := ⟨_, rfl⟩
    rw [hE, hNX, hRC] at HSTEP
    rw [hE, hNX, hRC] at HRP
    rw [hE, hNX] at HNX
    rw [hE, hRC] at HDA HRT
    clear hE hNX hRC
    obtain ⟨oq, oc, hov, hlc2, hcm2, hgs2, hpc2⟩ := HG.out.open
    subst hov
    have HO2 := Lib.hid (And.intro hlc2 (And.intro hcm2 hpc2))
    have HGS := Lib.hid hgs2
    obtain ⟨n, hn⟩ : ∃ n, L.length = n := ⟨_, rfl⟩
    rw [hn] at HG HGS HO2 hl2 ⊢
    have HN := Lib.hid hn
    clear hlc2 hcm2 hpc2 hgs2 hn
    go_upto_region 6 with (first
      | (go_at_call 37; refine HRP.out.mono ?_; rintro e w1 ⟨x, rfl, hf1, hr1, hb1⟩; have HF1 := Lib.hid hf1; have HR1 := Lib.hid hr1; have HB1 := Lib.hid hb1; clear hf1 hr1 hb1)
      | (refine wpList_store_row rfl 29 _ _ rfl w1.heap.size _ rfl rfl 29 _ (heap_alloc_new _ _) (Rq.sizeOf x HF1.out.dg.1) (Rq.sizes rq0 x rfl HF1.out.dg.1) x.one ?_; generalize hw2 : World.setRow _ _ _ = w2))
    have HR2 : Hid (Rm w2 w1.heap.size x) := Lib.hid (by rw [← hw2]; exact Mx.row (show Rm (w1.alloc (.cells (mixC rq0.a rq0.dg rq0.z) 29)) w1.heap.size rq0 from heap_alloc_new _ _))
    have HB12 : Hid (Below w1.heap.size w1 w2) := Lib.hid (by rw [← hw2]; exact below_setRow8 ((Below.refl _ _).alloc (Nat.le_refl _) _) _ _ (Nat.le_refl _))
    have HB2 : Hid (Below wr.heap.size wr w2) := Lib.hid (below_step HB1.out HB12.out)
    have HBW : Hid (Below w.heap.size w w2) := Lib.hid (below_step HB.out HB2.out)
    have HG2 := Lib.hid (HG.out.later HB2.out)
    have HF2 := Lib.hid (HF1.out.later HB12.out)
    have HXD := Lib.hid HF1.out.dg.1
    clear hw2
    by_cases hz : E = 0
    · subst hz
      rw [if_neg (by simp)] at HSTEP
      obtain ⟨hx0, hx1, hx2⟩ := HNX.out rfl
      have HKR := Lib.hid (rightN_k (HRT.out rfl))
      obtain ⟨e0, e1, _, _, e36, e37⟩ := HR2.out.cells HF2.out.dg.1
      have hks : RC.k = x.k ∧ RC.s = x.s ∧ RC.n = x.N ∧ RC.z = x.Z := by rw [← HR1.out]; exact ⟨rfl, rfl, rfl, rfl⟩
      obtain ⟨hk', hs', hn', hz'⟩ := hks
      rw [hk', hs', hn', hz'] at HSTEP
      rw [hk'] at HKR
      have hxs := HF2.out.s
      have hxn : x.n ≤ 2097216 := by
        have h1 := HF2.out.bs.len
        have h2 := HDA.out rfl
        have h3 : RC.da = x.da := by rw [← HR1.out]; rfl
        rw [h3, h1] at h2
        omega
      have HT0 : Hid (0 ≤ a ∧ a ≤ t) := Lib.hid (by
        by_cases hL : L = []
        · have := hl0 hL; omega
        · have := hl1 hL; omega)
      have hta := HT0.out
      have hnb : n + 1 ≤ 2097216 := by omega
      have HNXT := Lib.hid (isNext_any oq n oc L x.s w2 HG2.out.gs HK.out hxs (by omega))
      have HMEM := Lib.hid fun W => isMember_any x W HXD.out
      have hsb : wrap64 (t - a) = t - a := by unfold wrap64; omega
      have HCMT := Lib.hid fun W => isCommit_any x (n : Int) (t - a) W HXD.out
      have HLS := Lib.hid (lastS_ok HK.out).1
      have HWLN : Hid ((wdL L).length = n) := Lib.hid (by rw [wdL_length, HN.out])
      obtain ⟨nb, hnb1⟩ : ∃ b, nextB (wdL L) x.s = b := ⟨_, rfl⟩
      obtain ⟨mb, hmb1⟩ : ∃ b, memB x.k = b := ⟨_, rfl⟩
      obtain ⟨cb, hcb1⟩ : ∃ b, cmtB x.k x.N x.Z (n : Int) (t - a) = b := ⟨_, rfl⟩
      rw [hnb1] at HNXT
      rw [hmb1] at HMEM
      rw [hcb1] at HCMT
      have HNV := Lib.hid hnb1
      have HMV := Lib.hid hmb1
      have HCV := Lib.hid hcb1
      clear hl0 hl1 hnb1 hmb1 hcb1 hk' hs' hn' hz' HNX HDA HRT hta
      cases nb
      · replace HSTEP : Hid (bpF zs a seg = bpNo 3) := Lib.hid (by rw [HSTEP.out, if_pos (nextB_false HNV.out)])
        go_wp2_with (first
          | (go_at_call 54; refine HNXT.out.mono ?_; rintro e w3 ⟨rfl, rfl⟩))
        (try simp only [Exit.inBlock, Exit.then])
        refine bodyPost_ret (results_tmp4 rfl _ _ _) rfl ?_
        exact BpQ.no HSTEP.out HBW.out rfl
      · rw [if_neg (nextB_true HNV.out HLS.out)] at HSTEP
        cases mb
        · have HK5 := Lib.hid (memB_no HMV.out HKR.out.1)
          cases cb
          · replace HSTEP : Hid (bpF zs a seg = bpNo 3) := Lib.hid (by
              rw [HSTEP.out, if_neg ?_, if_pos HK5.out]
              rintro ⟨h1, h2, h3, h4⟩
              have h5 := of_decide_eq_false HCV.out
              refine h5 ⟨h1, ?_, by rw [h3, HWLN.out], h4⟩
              have h6 : 0 < (wdL L).length := List.length_pos_iff.2 h2
              rw [HWLN.out] at h6
              omega)
            go_wp2_with (first
              | (refine wpList_ld rfl _ _ rfl _ rfl _ (HR2.out.load HXD.out) ?_)
              | (refine wpList_ld rfl _ _ rfl _ rfl _ (HR4.out.load HXD.out) ?_)
              | (go_at_call 54; refine HNXT.out.mono ?_; rintro e w3 ⟨rfl, rfl⟩)
              | (go_at_call 55; refine (HMEM.out _).mono ?_; rintro e w4 ⟨rfl, hb4⟩; have HB4 := Lib.hid (below_step HBW.out hb4); have HR4 := Lib.hid (HR2.out.later hb4); clear hb4)
              | (go_at_call 57; refine (HCMT.out _).mono ?_; rintro e w5 ⟨rfl, hb5⟩; have HB5 := Lib.hid (below_step HB4.out hb5); clear hb5))
            (try simp only [Exit.inBlock, Exit.then])
            refine bodyPost_ret (results_tmp4 rfl _ _ _) rfl ?_
            exact BpQ.no HSTEP.out HB5.out rfl
          · have h5 := of_decide_eq_true HCV.out
            have hwn : wdL L ≠ [] := fun e => by
              have h6 := HWLN.out
              rw [e] at h6
              have := h5.2.1
              simp only [List.length_nil] at h6
              omega
            replace HSTEP : Hid (bpF zs a seg = ⟨wdL L, NX, x.s, 0⟩) := Lib.hid (by rw [HSTEP.out, if_pos ⟨h5.1, hwn, by rw [HWLN.out]; exact h5.2.2.1, h5.2.2.2⟩])
            clear hwn
            clear h5
            go_wp2_with (first
              | (refine wpList_ld rfl _ _ rfl _ rfl _ (HR2.out.load HXD.out) ?_)
              | (refine wpList_ld rfl _ _ rfl _ rfl _ (HR4.out.load HXD.out) ?_)
              | (go_at_call 54; refine HNXT.out.mono ?_; rintro e w3 ⟨rfl, rfl⟩)
              | (go_at_call 55; refine (HMEM.out _).mono ?_; rintro e w4 ⟨rfl, hb4⟩; have HB4 := Lib.hid (below_step HBW.out hb4); have HR4 := Lib.hid (HR2.out.later hb4); have HG4 := Lib.hid (HG2.out.later hb4); clear hb4)
              | (go_at_call 57; refine (HCMT.out _).mono ?_; rintro e w5 ⟨rfl, hb5⟩; have HB5 := Lib.hid (below_step HB4.out hb5); have HR5 := Lib.hid (HR4.out.later hb5); have HG5 := Lib.hid (HG4.out.later hb5); obtain ⟨_, f1, _, _, _, _⟩ := HR5.out.cells HXD.out; clear hb5))
            rw [Exit.noGoto_ret]
            refine bodyPost_ret (results_tmp4 rfl _ _ _) rfl ?_
            exact BpQ.of HSTEP.out _ n oc L HG5.out.gs rfl HK.out HO2.out.1 HO2.out.2.1 HO2.out.2.2 HB5.out rfl rfl rfl
        · obtain ⟨h6, h7⟩ := memB_is HMV.out
          replace HSTEP : Hid (bpF zs a seg = bpR zs seg a NX (wdL L ++ [wordN RC seg t (NX - t)])) := Lib.hid (by rw [HSTEP.out, if_neg (fun h => h6 h.1), if_neg h7])
          have hwq := wordQ_ok HF2.out hxn hseg ht (show -9223372036854775808 ≤ NX - t ∧ NX - t ≤ 9223372036854775807 by omega)
          have hwd := wordQ_wd HF2.out seg t (NX - t)
          rw [HR1.out] at hwd
          have HWX := Lib.hid fun W (hW : x.Fit W) => HWD.out x t (NX - t) W hW hxn
          have hsub : wrap64 (NX - t) = NX - t := by unfold wrap64; omega
          obtain ⟨Q, hQ⟩ : ∃ Q, wordQ x seg t (NX - t) = Q := ⟨_, rfl⟩
          rw [hQ] at hwq hwd HWX
          unfold Wq.v at HWX
          have HQO := Lib.hid hwq
          have HQW : Hid (wdL [(⟨Q, hwq.dg.1⟩ : Wx)] = [wordN RC seg t (NX - t)]) := Lib.hid (by show [Q.wd] = _; rw [hwd])
          have HNB : Hid (n + 1 ≤ 2097216) := Lib.hid hnb
          have HFIN : Hid ((((L ++ [(⟨Q, hwq.dg.1⟩ : Wx)]).length : Nat) : Int) * 21 ≤ NX - a ∧ 0 ≤ a ∧ a ≤ NX ∧ NX ≤ len ∧ t < NX) := Lib.hid (by have hh := HT0.out; rw [List.length_append, List.length_singleton, HN.out]; push_cast; omega)
          clear hQ hwd h6 h7
          go_wp2_with (first
            | (refine wpList_ld rfl _ _ rfl _ rfl _ (HR2.out.load HXD.out) ?_)
            | (refine wpList_ld rfl _ _ rfl _ rfl _ (HRD.out.load HXD.out) ?_)
            | (go_at_call 54; refine HNXT.out.mono ?_; rintro e w3 ⟨rfl, rfl⟩)
            | (go_at_call 55; refine (HMEM.out _).mono ?_; rintro e wd ⟨rfl, hbd⟩; have HBWD := Lib.hid (below_step HBW.out hbd); have HRD := Lib.hid (HR2.out.later hbd); have HFD := Lib.hid (HF2.out.later hbd); have HGD := Lib.hid (HG2.out.later hbd); clear hbd)
            | (go_at_call 56; refine (HWX.out _ HFD.out).mono ?_; rintro e w3 ⟨rfl, hb3⟩; have HB3 := Lib.hid hb3; have HBW3 := Lib.hid (below_step HBWD.out hb3); clear hb3; obtain ⟨w4, hw4⟩ : ∃ W, w3.alloc (.cells (mixC Q.a Q.dg Q.t) 50) = W := ⟨_, rfl⟩; have HW4 := Lib.hid hw4; have HN4 : Hid (Gs encWd w4 (some ⟨w3.heap.size, 0, none⟩) 1 [(⟨Q, hwq.dg.1⟩ : Wx)]) := Lib.hid (by rw [← hw4]; exact Gs.oneWd w3 ⟨Q, hwq.dg.1⟩); have HB34 : Hid (Below w3.heap.size w3 w4) := Lib.hid (by rw [← hw4]; exact (Below.refl _ _).alloc (Nat.le_refl _) _); have HG4 := Lib.hid ((HGD.out.later HB3.out).later HB34.out); have HBW4 := Lib.hid (below_step HBW3.out HB34.out); clear hw4)
            | (refine wpList_build_wd rfl _ _ rfl Try.underlying36 ⟨Q, hwq.dg.1⟩ rfl ?_; rw [HW4.out])
            | (refine wpList_append_gen encWd rfl _ _ 36 rfl Try.underlying36 wzero 96 infoWd wzero_size (by decide) w.heap.size _ L rfl HG4.out _ 1 1 [(⟨Q, hwq.dg.1⟩ : Wx)] rfl HN4.out (fun h => by cases h) (by rw [HN.out]; exact HNB.out) HBW4.out.size ?_; intro v5 w5 ho5 hg5; have HO5 := Lib.hid ho5; have HBW5 := Lib.hid (below_new_gw HBW4.out HG4.out hg5 HBW4.out.size); clear ho5 hg5))
          exact ⟨⟨NX, _, rfl, HO5, Lib.hid (by rw [HSTEP.out, wdL_append, HQW.out]), Lib.hid (fun y hy => by
            rcases List.mem_append.1 hy with h1 | h1
            · exact HK.out y h1
            · rw [List.mem_singleton] at h1
              subst h1
              exact HQO.out), fun hh => absurd hh (by simp), fun _ => ⟨HFIN.out.2.1, HFIN.out.2.2.1, HFIN.out.2.2.2.1⟩, HFIN.out.1, HBW5⟩, by have := HFIN.out; simp [Go.Lib.intOf]; omega⟩
    · have hne : (E != 0) = true := by simpa using hz
      rw [if_pos hz] at HSTEP
      go_wp2
      (try simp only [Exit.inBlock, Exit.then])
      refine bodyPost_ret (results_tmp4 rfl _ _ _) rfl ?_
      exact BpQ.no HSTEP.out HBW.out rfl
end Go.Proofs.Ytjdigncieoaglaa

namespace Go.Proofs.Ytjdigncieoaglaa
set_option linter.unusedVariables false
open Go.RowKit Go.Lib

theorem grown_by_below {w W W' : World} {row : Option Nat} (h : w.grownBy W row) (hb : Below w.heap.size W W') : w.grownBy W' row := ⟨hb.os.trans h.os, hb.tape.trans h.tape, hb.output.trans h.output, Nat.le_trans h.size hb.size, fun k hk hne => (hb.block k hk).trans (h.block k hk hne)⟩
theorem below_grown {w W : World} {row : Option Nat} (h : Below w.heap.size w W) : w.grownBy W row := ⟨h.os, h.tape, h.output, h.size, fun k hk _ => h.block k hk⟩
theorem grown_thru {w W W' : World} {row : Option Nat} (h : w.grownBy W row) (k : W.grownBy W' row) : w.grownBy W' row := ⟨k.os.trans h.os, k.tape.trans h.tape, k.output.trans h.output, Nat.le_trans h.size k.size, fun i hi hne => (k.block i (Nat.lt_of_lt_of_le hi h.size) hne).trans (h.block i hi hne)⟩
def MoreQ (w : World) (B : Nat) (o : Option Nat) (F : Sc) (e1 : Ending) (w' : World) : Prop :=
  ∃ (q : Option Addr) (m c : Nat) (L : List Wx), e1 = .returned (.agg (scanC (.slice q m c) F.s F.e F.sealed_ 0 F.err)) ∧ Gw encWd w' B (.slice q m c) L ∧ wdL L = F.ws ∧ (∀ x ∈ L, x.1.Ok) ∧ w.grownBy w' o
theorem MoreQ.of {w w' : World} {B : Nat} {o : Option Nat} {F G : Sc} (hF : F = G) (q : Option Addr) (m c : Nat) (L : List Wx) (hg : Gw encWd w' B (.slice q m c) L) (hl : wdL L = G.ws) (hk : ∀ x ∈ L, x.1.Ok) (hb : w.grownBy w' o) {v : Value} (hv : v = .agg (scanC (.slice q m c) G.s G.e G.sealed_ 0 G.err)) : MoreQ w B o F (.returned v) w' := by
  subst hF hv
  exact ⟨q, m, c, L, rfl, hg, hl, hk, hb⟩
set_option maxRecDepth 100000 in
set_option maxHeartbeats 2000000 in
theorem scanMore_any (p : Option Addr) (len cap : Nat) (zs : List Int) (n : Int) (B : Nat) (q : Option Addr) (m c : Nat) (L : List Wx) (s e : Int) (w : World) (h : Bs w p len zs) (hpc : p = none → cap = 0) (hlc : len ≤ cap) (hcm : cap ≤ maxLen) (hlen : len ≤ 2097216) (hn : -9223372036854775808 ≤ n ∧ n ≤ 9223372036854775807)
    (hBw : B ≤ w.heap.size) (hG : Gw encWd w B (.slice q m c) L) (hK : ∀ x ∈ L, x.1.Ok) (he : 0 ≤ e ∧ e ≤ len) (hcnt : (L.length : Int) * 21 ≤ e) :
    Calls Try.prog 25 #[.agg (scanC (.slice q m c) s e false 0 0), .slice p len cap, .int .i64 n] w fun e1 w' => MoreQ w B (Value.slice q m c).ownBlock (moreF zs n (wdL L) s e) e1 w' := by
  have hM : L.length = m := by
    obtain ⟨q1, c1, hv, _⟩ := hG.open
    simp only [Value.slice.injEq] at hv
    exact hv.2.1.symm
  obtain ⟨wA, hA, hsA, hbA⟩ := box_scan w (.slice q m c) s e false 0 0
  obtain ⟨g6, hg6⟩ : ∃ g, wA.heap.size = g := ⟨_, rfl⟩
  obtain ⟨wB, hB⟩ : ∃ W, wA.alloc (.cells (scanC (.slice none 0 0) 0 0 false 0 0) 39) = W := ⟨_, rfl⟩
  have HLT : Hid (w.heap.size < g6) := Lib.hid (by rw [← hg6]; exact hsA.lt)
  have HBW := Lib.hid hBw
  have HWG : Hid (w.heap.size ≤ g6) := Lib.hid (Nat.le_of_lt HLT.out)
  have hbB : Below wA.heap.size wA wB := by rw [← hB]; exact (Below.refl _ _).alloc (Nat.le_refl _) _
  have H3 := Lib.hid (hsA.later hbB)
  have H6 : Hid (Sm wB g6 (.slice none 0 0) 0 0 false 0 0) := Lib.hid (by rw [← hg6]; exact Sm.zero hB)
  have HBBw := Lib.hid (below_step hbA hbB)
  have HGB := Lib.hid (hG.later HBBw.out)
  have HK := Lib.hid hK
  have HZ := Lib.hid h
  have HBY := Lib.hid (show Byt zs from h.byte)
  have HM := Lib.hid hM
  have HBP := Lib.hid (cbparse_ok p len cap zs e n wB (h.later HBBw.out) hpc hlc hcm hlen (by omega) hn)
  unfold BpQ at HBP
  have HFT := Lib.hid fun er W (hW : Bs W p len zs) => scanFooter_any p len cap zs q m c (wdL L) s e er W hW hpc hlc hcm hlen (by rw [wdL_length]; exact hM) he
  have HWS := Lib.hid fun er => (show (footF zs (wdL L) s e er).ws = wdL L from by unfold footF; split <;> rfl)
  have HBE := Lib.hid fun h0 => bpF_end HBY.out (a := e) (seg := n) h0
  have HBC := Lib.hid fun h0 => bpF_count HBY.out (a := e) (seg := n) h0
  rw [h.len] at HBE
  obtain ⟨F, hF⟩ : ∃ F, moreF zs n (wdL L) s e = F := ⟨_, rfl⟩
  rw [hF]
  unfold moreF at hF
  obtain ⟨BP, hBP⟩ : ∃ b, bpF zs e n = b := ⟨_, rfl⟩
  rw [hBP] at hF HBP HBE HBC
  clear hBP
  obtain ⟨bws, be, bs, berr⟩ := BP
  dsimp only at hF HBP HBE HBC
  have HF := Lib.hid hF
  rw [hM] at hcnt
  have HCN := Lib.hid hcnt
  have HE := Lib.hid he
  have HLEN := Lib.hid hlen
  unfold scanC at hB
  generalize hM2 : scanC (.slice q m c) s e false 0 0 = M2 at hA ⊢
  clear hM2 h hpc hlc hcm hF hsA hbA hbB hG hK hM hBw hcnt
  obtain ⟨k0, k1, k2, k3, k4, k5⟩ := H3.out.cells
  go_enter Try.func25, Try.ntmps25
  go_upto_region 2 with (first
    | (go_at_call 38; refine HBP.out.mono ?_; rintro e5 w5 ⟨q2, n2, c2, L2, rfl, hg2, hl2, hk2, hn2, hc2, hq2, hb5⟩; have HB05 := Lib.hid hb5; have HG2 := Lib.hid hg2; have HL2 := Lib.hid hl2; have HK2 := Lib.hid hk2; have HC2 := Lib.hid (And.intro hn2 (And.intro hc2 hq2)); clear hb5 hg2 hl2 hk2 hn2 hc2 hq2))
  have HW5 := Lib.hid (below_step HBBw.out HB05.out)
  have H35 := Lib.hid (H3.out.later HB05.out)
  have H65 := Lib.hid (H6.out.later HB05.out)
  have HG5 := Lib.hid (HGB.out.later HB05.out)
  have HZ5 := Lib.hid (HZ.out.later HW5.out)
  have HS5 : Hid (B ≤ w5.heap.size) := Lib.hid (by have h1 := H35.out.lt; have h2 := HBW.out; omega)
  clear hA hB hg6 he k0 k1 k2 k3 k4 k5
  by_cases hbe : berr = 0
  · have hb0 : (berr != 0) = false := by simpa using hbe
    rw [if_neg (by simpa using hbe)] at HF
    obtain ⟨b1, b2, b3⟩ := HBE.out hbe
    obtain ⟨b4, hw0⟩ := HBC.out hbe
    have HN2 := Lib.hid HG2.out.len
    have hwn : bws.length = n2 := by rw [← HL2.out, List.length_map, HN2.out]
    rw [hwn] at b4
    have hn0 : 0 < n2 := by
      have h9 := List.length_pos_iff.2 hw0
      omega
    obtain ⟨bb, oo, x0, rfl, hx0, hxm, hr0⟩ := HG2.out.word 0 hn0
    have hsq := hr0 1 (.int .u64 x0.1.s) rfl
    rw [Nat.zero_mul, Nat.add_zero] at hsq
    have hfs : firstS bws = x0.1.s := by
      have hh := HL2.out
      cases L2 with
      | nil => simp at hx0
      | cons z zs2 =>
        simp only [List.getElem?_cons_zero, Option.some.injEq] at hx0
        subst hx0
        rw [← hh]
        rfl
    rw [hfs] at HF
    have hn0i : (0 : Int) < (n2 : Int) := by omega
    have HFB : Hid (m + n2 ≤ 2097216) := Lib.hid (by have h1 := HCN.out; have h2 := HLEN.out; omega)
    clear hr0 hx0 hxm hfs hw0 hwn b1 b2 b3 b4 hbe
    obtain ⟨r0, r1, r2, r3, r4, r5⟩ := H35.out.cells
    by_cases hq : x0.1.s ≤ s
    · have d1 : decide (x0.1.s ≤ s) = true := decide_eq_true hq
      rw [if_pos hq] at HF
      clear hq
      go_upto_region 4 with fail
      go_quiet (fail)
      have hBD : Below w5.heap.size w5 (w5.drewN nq) := below_drewN (Below.refl _ _) _
      generalize w5.drewN nq = w6 at *
      have HB6 : Hid (w.grownBy w6 (Value.slice q m c).ownBlock) := Lib.hid (below_grown (below_step HW5.out hBD))
      have H36 := Lib.hid (H35.out.later hBD)
      have H66 := Lib.hid (H65.out.later hBD)
      have HG6 := Lib.hid (HG5.out.later hBD)
      have HG26 := Lib.hid (HG2.out.later hBD)
      have HS6 : Hid (B ≤ w6.heap.size) := Lib.hid (Nat.le_trans HS5.out hBD.size)
      clear hBD r0 r1 r2 r3 r4 r5
      obtain ⟨v6, hv6⟩ : ∃ W, w6.setCell ⟨w.heap.size, 5, none⟩ (.int .i64 3) = W := ⟨_, rfl⟩
      obtain ⟨c60, c61, c62, c63, c64, c65⟩ := H36.out.cells
      have f6 := H36.out.frozen 5
      have HS6 : Hid (Sm v6 w.heap.size (.slice q m c) s e false 0 3) := Lib.hid (by rw [← hv6]; exact H36.out.setR _)
      have HF6 : Hid (Sm v6 g6 (.slice none 0 0) 0 0 false 0 0) := Lib.hid (by rw [← hv6]; exact H66.out.other _ _ (Nat.ne_of_gt HLT.out))
      have HQ6 : Hid (w.grownBy v6 (Value.slice q m c).ownBlock) := Lib.hid (by rw [← hv6]; exact grown_by_below HB6.out ((Below.refl _ _).setCell (p := ⟨w.heap.size, 5, none⟩) (Nat.le_refl _) _))
      have HY6 : Hid (Gw encWd v6 B (.slice q m c) L) := Lib.hid (by rw [← hv6]; exact HG6.out.bySm H36.out wd_notScan _ rfl _)
      go_wp2_with (first
        | (refine wpList_ld rfl _ _ rfl _ rfl _ HS6.out.load ?_)
        | (refine wpList_store_row rfl 39 _ _ rfl g6 _ rfl rfl 39 _ HF6.out size6 rfl scanC_one ?_; generalize hwZ : World.setRow _ _ _ = wZ))
      have HZ4 := Lib.hid (show Sm wZ g6 (.slice q m c) s e false 0 3 from by rw [← hwZ]; exact HF6.out.row)
      have HZB : Hid (w.grownBy wZ (Value.slice q m c).ownBlock) := Lib.hid (by rw [← hwZ]; exact grown_by_below HQ6.out (below_setRow8 (Below.refl _ _) _ _ HWG.out))
      have HZG := Lib.hid (show Gw encWd wZ B (.slice q m c) L from by rw [← hwZ]; exact HY6.out.bySmRow HF6.out wd_notScan _)
      clear hwZ
      (try simp only [Exit.inBlock, Exit.then])
      (try rw [Exit.noGoto_ret])
      refine bodyPost_ret (HZ4.out.res1 rfl _ rfl) rfl ?_
      exact MoreQ.of HF.out.symm q m c L HZG.out rfl HK.out HZB.out rfl
    · have d1 : decide (x0.1.s ≤ s) = false := decide_eq_false hq
      rw [if_neg hq] at HF
      clear hq
      go_upto_region 4 with fail
      go_quiet (fail)
      have hBD : Below w5.heap.size w5 (w5.drewN nq) := below_drewN (Below.refl _ _) _
      generalize w5.drewN nq = w6 at *
      have HB6 : Hid (w.grownBy w6 (Value.slice q m c).ownBlock) := Lib.hid (below_grown (below_step HW5.out hBD))
      have H36 := Lib.hid (H35.out.later hBD)
      have H66 := Lib.hid (H65.out.later hBD)
      have HG6 := Lib.hid (HG5.out.later hBD)
      have HG26 := Lib.hid (HG2.out.later hBD)
      have HS6 : Hid (B ≤ w6.heap.size) := Lib.hid (Nat.le_trans HS5.out hBD.size)
      clear hBD r0 r1 r2 r3 r4 r5
      obtain ⟨r0, r1, r2, r3, r4, r5⟩ := H36.out.cells
      have fr0 := H36.out.frozen 0
      obtain ⟨m7, hm7⟩ : ∃ a, m + n2 = a := ⟨_, rfl⟩
      have HM7 := Lib.hid hm7
      clear hm7
      go_wp2_with (first
        | (refine wpList_append_gen encWd rfl _ _ 36 rfl Try.underlying36 wzero 96 infoWd wzero_size (by decide) B _ L rfl HG6.out _ n2 c2 L2 rfl HG26.out HC2.out.2.2 (by rw [HM.out]; exact HFB.out) HS6.out ?_; intro v7 w7 ho7 hg7; have HB7 := Lib.hid (grown_thru HB6.out hg7); have H37 := Lib.hid (H36.out.byGw HG6.out wd_notScan hg7); have H67 := Lib.hid (H66.out.byGw HG6.out wd_notScan hg7); obtain ⟨q7, c7, hv7, _, _, _, _⟩ := ho7.open; have hm7 : (L ++ L2).length = m7 := (by rw [List.length_append, HM.out, HN2.out]; exact HM7.out); rw [hm7] at hv7; subst hv7; have HG7 := Lib.hid ho7; clear ho7 hg7 hm7; obtain ⟨v7, hv7⟩ : ∃ W, w7.setCell ⟨w.heap.size, 0, none⟩ (.slice q7 m7 c7) = W := ⟨_, rfl⟩; obtain ⟨c70, c71, c72, c73, c74, c75⟩ := H37.out.cells; have f7 := H37.out.frozen 0; have HS7 : Hid (Sm v7 w.heap.size (.slice q7 m7 c7) s e false 0 0) := Lib.hid (by rw [← hv7]; exact H37.out.setV _); have HF7 : Hid (Sm v7 g6 (.slice none 0 0) 0 0 false 0 0) := Lib.hid (by rw [← hv7]; exact H67.out.other _ _ (Nat.ne_of_gt HLT.out)); have HQ7 : Hid (w.grownBy v7 (Value.slice q m c).ownBlock) := Lib.hid (by rw [← hv7]; exact grown_by_below HB7.out ((Below.refl _ _).setCell (p := ⟨w.heap.size, 0, none⟩) (Nat.le_refl _) _)); have HY7 : Hid (Gw encWd v7 B (.slice q7 m7 c7) (L ++ L2)) := Lib.hid (by rw [← hv7]; exact HG7.out.bySm H37.out wd_notScan _ rfl _); obtain ⟨v8, hv8⟩ : ∃ W, v7.setCell ⟨w.heap.size, 1, none⟩ (.int .u64 bs) = W := ⟨_, rfl⟩; obtain ⟨c80, c81, c82, c83, c84, c85⟩ := HS7.out.cells; have f8 := HS7.out.frozen 1; have HS8 : Hid (Sm v8 w.heap.size (.slice q7 m7 c7) bs e false 0 0) := Lib.hid (by rw [← hv8]; exact HS7.out.setS _); have HF8 : Hid (Sm v8 g6 (.slice none 0 0) 0 0 false 0 0) := Lib.hid (by rw [← hv8]; exact HF7.out.other _ _ (Nat.ne_of_gt HLT.out)); have HQ8 : Hid (w.grownBy v8 (Value.slice q m c).ownBlock) := Lib.hid (by rw [← hv8]; exact grown_by_below HQ7.out ((Below.refl _ _).setCell (p := ⟨w.heap.size, 1, none⟩) (Nat.le_refl _) _)); have HY8 : Hid (Gw encWd v8 B (.slice q7 m7 c7) (L ++ L2)) := Lib.hid (by rw [← hv8]; exact HY7.out.bySm HS7.out wd_notScan _ rfl _); obtain ⟨v9, hv9⟩ : ∃ W, v8.setCell ⟨w.heap.size, 2, none⟩ (.int .i64 be) = W := ⟨_, rfl⟩; obtain ⟨c90, c91, c92, c93, c94, c95⟩ := HS8.out.cells; have f9 := HS8.out.frozen 2; have HS9 : Hid (Sm v9 w.heap.size (.slice q7 m7 c7) bs be false 0 0) := Lib.hid (by rw [← hv9]; exact HS8.out.setE _); have HF9 : Hid (Sm v9 g6 (.slice none 0 0) 0 0 false 0 0) := Lib.hid (by rw [← hv9]; exact HF8.out.other _ _ (Nat.ne_of_gt HLT.out)); have HQ9 : Hid (w.grownBy v9 (Value.slice q m c).ownBlock) := Lib.hid (by rw [← hv9]; exact grown_by_below HQ8.out ((Below.refl _ _).setCell (p := ⟨w.heap.size, 2, none⟩) (Nat.le_refl _) _)); have HY9 : Hid (Gw encWd v9 B (.slice q7 m7 c7) (L ++ L2)) := Lib.hid (by rw [← hv9]; exact HY8.out.bySm HS8.out wd_notScan _ rfl _))
        | (refine wpList_ld rfl _ _ rfl _ rfl _ HS9.out.load ?_)
        | (refine wpList_store_row rfl 39 _ _ rfl g6 _ rfl rfl 39 _ HF9.out size6 rfl scanC_one ?_; generalize hwZ : World.setRow _ _ _ = wZ))
      have HZ4 := Lib.hid (show Sm wZ g6 (.slice q7 m7 c7) bs be false 0 0 from by rw [← hwZ]; exact HF9.out.row)
      have HZB : Hid (w.grownBy wZ (Value.slice q m c).ownBlock) := Lib.hid (by rw [← hwZ]; exact grown_by_below HQ9.out (below_setRow8 (Below.refl _ _) _ _ HWG.out))
      have HZG := Lib.hid (show Gw encWd wZ B (.slice q7 m7 c7) (L ++ L2) from by rw [← hwZ]; exact HY9.out.bySmRow HF9.out wd_notScan _)
      clear hwZ
      (try simp only [Exit.inBlock, Exit.then])
      (try rw [Exit.noGoto_ret])
      refine bodyPost_ret (HZ4.out.res1 rfl _ rfl) rfl ?_
      refine MoreQ.of HF.out.symm q7 m7 c7 (L ++ L2) HZG.out (by rw [wdL_append, show wdL L2 = bws from HL2.out]) (fun y hy => ?_) HZB.out rfl
      rcases List.mem_append.1 hy with h1 | h1
      · exact HK.out y h1
      · exact HK2.out y h1
  · have hb0 : (berr != 0) = true := by simpa using hbe
    rw [if_pos hbe] at HF
    clear hbe
    replace HFT := Lib.hid (HFT.out berr w5 HZ5.out)
    replace HWS := Lib.hid (HWS.out berr)
    rw [HF.out] at HFT HWS
    go_wp2_with (first
      | (refine wpList_ld rfl _ _ rfl _ rfl _ H35.out.load ?_)
      | (go_at_call 39; refine HFT.out.mono ?_; rintro e6 w6 ⟨rfl, hb6⟩; have HB56 := Lib.hid hb6; have HB6 : Hid (w.grownBy w6 (Value.slice q m c).ownBlock) := Lib.hid (below_grown (below_step HW5.out hb6)); have H66 := Lib.hid (H65.out.later hb6); have HG6 := Lib.hid (HG5.out.later hb6); clear hb6)
      | (refine wpList_store_row rfl 39 _ _ rfl g6 _ rfl rfl 39 _ H66.out size6 rfl scanC_one ?_; generalize hwZ : World.setRow _ _ _ = wZ))
    have HZ4 := Lib.hid (show Sm wZ g6 (.slice q m c) F.s F.e F.sealed_ 0 F.err from by rw [← hwZ]; exact H66.out.row)
    have HZB : Hid (w.grownBy wZ (Value.slice q m c).ownBlock) := Lib.hid (by rw [← hwZ]; exact grown_by_below HB6.out (below_setRow8 (Below.refl _ _) _ _ HWG.out))
    have HZG := Lib.hid (show Gw encWd wZ B (.slice q m c) L from by rw [← hwZ]; exact HG6.out.bySmRow H66.out wd_notScan _)
    clear hwZ
    (try simp only [Exit.inBlock, Exit.then])
    (try rw [Exit.noGoto_ret])
    refine bodyPost_ret (HZ4.out.res1 rfl _ rfl) rfl ?_
    exact MoreQ.of rfl q m c L HZG.out HWS.out.symm HK.out HZB.out rfl
end Go.Proofs.Ytjdigncieoaglaa

namespace Go.Proofs.Ytjdigncieoaglaa
set_option linter.unusedVariables false
open Go.RowKit Go.Lib

/-- what is left to be scanned -/
def scMu (len : Nat) (w : World) (g : Nat) : Nat := match w.cell? ⟨g, 5, none⟩, w.cell? ⟨g, 2, none⟩ with
  | some (.int _ er), some (.int _ e) => if er = 0 then ((len : Int) - e).toNat + 1 else 0
  | _, _ => 0
theorem scMu_of {w : World} {g len : Nat} {v : Value} {s e a err : Int} {sl : Bool} (h : Sm w g v s e sl a err) : scMu len w g = if err = 0 then ((len : Int) - e).toNat + 1 else 0 := by
  obtain ⟨_, _, h2, _, _, h5⟩ := h.cells
  unfold scMu
  rw [h2, h5]
set_option maxRecDepth 100000 in
set_option maxHeartbeats 2000000 in
theorem csscan_ok : csScanOk := by
  intro p len cap zs n w h hpc hlc hcm hlen hn
  have HZ := Lib.hid h
  have HBY := Lib.hid (show Byt zs from h.byte)
  have HLN := Lib.hid h.len
  obtain ⟨wA, hA⟩ : ∃ W, w.alloc (.cells (scanC (.slice none 0 0) 0 0 false 0 0) 39) = W := ⟨_, rfl⟩
  have H4 := Lib.hid (Sm.zero hA)
  have HBA : Hid (Below w.heap.size w wA) := Lib.hid (by rw [← hA]; exact (Below.refl _ _).alloc (Nat.le_refl _) _)
  have HHD := Lib.hid (scanHeader_any p len cap zs n wA (h.later HBA.out) hpc hlc hcm hlen)
  have HMR := Lib.hid fun (q : Option Addr) m c L s e W (hW : Bs W p len zs) (hb : w.heap.size ≤ W.heap.size) hg hk (he : 0 ≤ e ∧ e ≤ (len : Int)) (hc : (L.length : Int) * 21 ≤ e) => scanMore_any p len cap zs n w.heap.size q m c L s e W hW hpc hlc hcm hlen hn hb hg hk he hc
  have HG0 := Lib.hid (head_goes HBY.out n)
  have HMG := Lib.hid fun F (hf : Goes zs n F) h0 hl => more_goes HBY.out hf h0 hl
  have HHW : Hid ((headF zs n).ws = []) := Lib.hid (by unfold headF; split; rfl; split <;> rfl)
  obtain ⟨F0, hF0⟩ : ∃ F, headF zs n = F := ⟨_, rfl⟩
  rw [hF0] at HHD HG0 HHW
  have HLEN := Lib.hid hlen
  unfold scanC at hA
  clear h hpc hlc hcm hF0
  go_enter Try.func13, Try.ntmps13
  go_wp2_with (first
    | (go_at_call 24; refine HHD.out.mono ?_; rintro e1 w1 ⟨rfl, hb1⟩; have HB1 := Lib.hid hb1; clear hb1)
    | (refine wpList_store_row rfl 39 _ _ rfl w1.heap.size _ rfl rfl 39 _ (heap_alloc_new _ _) size6 rfl scanC_one ?_; generalize hw2 : World.setRow _ _ _ = w2))
  have HB12 : Hid (Below w1.heap.size w1 w2) := Lib.hid (by rw [← hw2]; exact below_setRow8 ((Below.refl _ _).alloc (Nat.le_refl _) _) _ _ (Nat.le_refl _))
  have H52 : Hid (Sm w2 w1.heap.size (.slice none 0 0) F0.s F0.e F0.sealed_ 0 F0.err) := Lib.hid (by rw [← hw2]; exact Sm.row (Sm.zero rfl))
  have H42 := Lib.hid ((H4.out.later HB1.out).later HB12.out)
  have HB2 := Lib.hid (below_step (below_step HBA.out HB1.out) HB12.out)
  have HG45 : Hid (w.heap.size < w1.heap.size) := Lib.hid (by have h1 := H4.out.lt; have h2 := HB1.out.size; omega)
  clear hw2 hA
  go_frame
  go_loopw [] (fun wr => ∃ (F : Sc) (L : List Wx) (q : Option Addr) (m c : Nat), Hid (Sm wr w1.heap.size (.slice q m c) F.s F.e F.sealed_ 0 F.err) ∧ Hid (Sm wr w.heap.size (.slice none 0 0) 0 0 false 0 0) ∧ Hid (Gw encWd wr w.heap.size (.slice q m c) L) ∧ Hid (wdL L = F.ws) ∧ Hid (∀ x ∈ L, x.1.Ok) ∧ Hid (Goes zs n F) ∧ Hid (Below w.heap.size w wr)) (fun wr => scMu len wr w1.heap.size)
  case atStart => exact ⟨F0, [], none, 0, 0, H52, H42, Lib.hid (Gw.nil _ _ _), Lib.hid HHW.out.symm, Lib.hid (fun x hx => by cases hx), HG0, HB2⟩
  case round =>
    obtain ⟨F, L, q, m, c, H5r, H4r, HG, HW, HK, HGO, HB⟩ := hrel
    have HM := Lib.hid HG.out.len
    obtain ⟨hmc, hcm, hpc⟩ : m ≤ c ∧ c ≤ maxLen ∧ (q = none → c = 0) := by
      obtain ⟨q1, c1, hv, a1, a2, _, a3⟩ := HG.out.open
      rw [HM.out] at hv a1
      simp only [Value.slice.injEq, true_and] at hv
      obtain ⟨rfl, rfl⟩ := hv
      exact ⟨a1, a2, a3⟩
    have HC := Lib.hid (And.intro hmc (And.intro hcm hpc))
    clear hmc hcm hpc
    obtain ⟨ws, s, e, sl, a, er⟩ := F
    obtain rfl : wdL L = ws := HW.out
    have hlo : 0 ≤ e := HGO.out.lo
    have hhi : e ≤ (len : Int) := by have h1 := HGO.out.hi; rw [HLN.out] at h1; exact h1
    have hcn : (m : Int) * 21 ≤ e := by have h1 := HGO.out.cnt; dsimp only at h1; rw [wdL_length, HM.out] at h1; exact h1
    have HM2 : Hid (m ≤ 2097216) := Lib.hid (by have := HLEN.out; omega)
    dsimp only at H5r
    obtain ⟨r0, r1, r2, r3, r4, r5⟩ := H5r.out.cells
    by_cases hr : er = 0
    · have d0 : (er == 0) = true := by simpa using hr
      by_cases hl : e < (len : Int)
      · have d1 : decide (e < (len : Int)) = true := decide_eq_true hl
        have hl2 : e < (zs.length : Int) := by rw [HLN.out]; exact hl
        have hsl : sl = false := (HGO.out.go ⟨hr, hl2⟩).1
        have HNX := Lib.hid (HMG.out _ HGO.out hr hl2)
        have HC2 := Lib.hid (HMR.out q m c L s e wr (HZ.out.later HB.out) HB.out.size HG.out HK.out ⟨hlo, hhi⟩ (by rw [HM.out]; exact hcn))
        dsimp only at HNX
        unfold MoreQ at HC2
        generalize moreF zs n (wdL L) s e = F2 at *
        subst hsl
        subst hr
        clear hl hl2 hcn
        go_wp2_with (first
          | (refine wpList_ld rfl _ _ rfl _ rfl _ H5r.out.load ?_)
          | (go_at_call 25; refine HC2.out.mono ?_; rintro e3 w3 ⟨q3, m3, c3, L3, rfl, hg3, hl3, hk3, hb3⟩; have HB3 := Lib.hid (below_new_gw HB.out HG.out hb3 HB.out.size); have H53 := Lib.hid (H5r.out.byGw HG.out wd_notScan hb3); have H43 := Lib.hid (H4r.out.byGw HG.out wd_notScan hb3); have HG3 := Lib.hid hg3; have HL3 := Lib.hid hl3; have HK3 := Lib.hid hk3; clear hg3 hl3 hk3 hb3)
          | (refine wpList_store_row rfl 39 _ _ rfl w1.heap.size _ rfl rfl 39 _ H53.out size6 rfl scanC_one ?_; generalize hw4 : World.setRow _ _ _ = w4))
        have H54 : Hid (Sm w4 w1.heap.size (.slice q3 m3 c3) F2.s F2.e F2.sealed_ 0 F2.err) := Lib.hid (by rw [← hw4]; exact H53.out.row)
        have H44 : Hid (Sm w4 w.heap.size (.slice none 0 0) 0 0 false 0 0) := Lib.hid (by rw [← hw4]; exact H43.out.keep (setRow_other _ _ _ _ (Nat.ne_of_lt HG45.out)))
        have HG4 : Hid (Gw encWd w4 w.heap.size (.slice q3 m3 c3) L3) := Lib.hid (by rw [← hw4]; exact HG3.out.bySmRow H53.out wd_notScan _)
        have HB4 : Hid (Below w.heap.size w w4) := Lib.hid (by rw [← hw4]; exact below_setRow8 HB3.out _ _ (Nat.le_of_lt HG45.out))
        clear hw4
        go_roundw
        case rel => exact ⟨_, _, _, _, _, _, _, _, _, _, _, _, _, _, ⟨F2, L3, q3, m3, c3, H54, H44, HG4, HL3, HK3, Lib.hid HNX.out.1, HB4⟩, rfl⟩
        case measure =>
          rw [scMu_of H5r.out, scMu_of H54.out]
          have h8 := HNX.out.1.hi
          rw [HLN.out] at h8
          by_cases h9 : F2.err = 0
          · have h7 := HNX.out.2 h9
            rw [if_pos h9, if_pos rfl]
            omega
          · rw [if_neg h9, if_pos rfl]
            omega
      · have d1 : decide (e < (len : Int)) = false := decide_eq_false hl
        have HFN := Lib.hid (HGO.out.stop (by rw [HLN.out]; exact fun h => hl h.2))
        unfold scAt at HFN
        dsimp only at HFN
        clear hr hl hcn
        obtain ⟨v10, hv10⟩ : ∃ W, wr.setCell ⟨w1.heap.size, 4, none⟩ (.int .i64 e) = W := ⟨_, rfl⟩
        obtain ⟨c100, c101, c102, c103, c104, c105⟩ := H5r.out.cells
        have f10 := H5r.out.frozen 4
        have HS10 : Hid (Sm v10 w1.heap.size (.slice q m c) s e sl e er) := Lib.hid (by rw [← hv10]; exact H5r.out.setA _)
        have HF10 : Hid (Sm v10 w.heap.size (.slice none 0 0) 0 0 false 0 0) := Lib.hid (by rw [← hv10]; exact H4r.out.other _ _ (Nat.ne_of_lt HG45.out))
        have HQ10 : Hid (Below w.heap.size w v10) := Lib.hid (by rw [← hv10]; exact HB.out.setCell (p := ⟨w1.heap.size, 4, none⟩) (Nat.le_of_lt HG45.out) _)
        have HY10 : Hid (Gw encWd v10 w.heap.size (.slice q m c) L) := Lib.hid (by rw [← hv10]; exact HG.out.bySm H5r.out wd_notScan _ rfl _)
        go_wp2_with (first
          | (refine wpList_ld rfl _ _ rfl _ rfl _ HS10.out.load ?_)
          | (refine wpList_store_row rfl 39 _ _ rfl w.heap.size _ rfl rfl 39 _ HF10.out size6 rfl scanC_one ?_; generalize hwZ : World.setRow _ _ _ = wZ))
        have HZ4 := Lib.hid (show Sm wZ w.heap.size (.slice q m c) s e sl e er from by rw [← hwZ]; exact HF10.out.row)
        have HZB : Hid (Below w.heap.size w wZ) := Lib.hid (by rw [← hwZ]; exact below_setRow8 HQ10.out _ _ (Nat.le_refl _))
        have HZG := Lib.hid (show Gw encWd wZ w.heap.size (.slice q m c) L from by rw [← hwZ]; exact HY10.out.bySmRow HF10.out wd_notScan _)
        clear hwZ
        (try simp only [Exit.inBlock, Exit.then])
        (try rw [Exit.noGoto_ret])
        refine bodyPost_ret (HZ4.out.res1 rfl _ rfl) rfl ?_
        exact ScQ.of HFN.out q m c L HZG.out.gs rfl HK.out HC.out.1 HC.out.2.1 HC.out.2.2 HM2.out HZB.out rfl
    · have d0 : (er == 0) = false := by simpa using hr
      have HFN := Lib.hid (HGO.out.stop (fun h => hr h.1))
      unfold scAt at HFN
      dsimp only at HFN
      clear hr hcn
      obtain ⟨v11, hv11⟩ : ∃ W, wr.setCell ⟨w1.heap.size, 4, none⟩ (.int .i64 e) = W := ⟨_, rfl⟩
      obtain ⟨c110, c111, c112, c113, c114, c115⟩ := H5r.out.cells
      have f11 := H5r.out.frozen 4
      have HS11 : Hid (Sm v11 w1.heap.size (.slice q m c) s e sl e er) := Lib.hid (by rw [← hv11]; exact H5r.out.setA _)
      have HF11 : Hid (Sm v11 w.heap.size (.slice none 0 0) 0 0 false 0 0) := Lib.hid (by rw [← hv11]; exact H4r.out.other _ _ (Nat.ne_of_lt HG45.out))
      have HQ11 : Hid (Below w.heap.size w v11) := Lib.hid (by rw [← hv11]; exact HB.out.setCell (p := ⟨w1.heap.size, 4, none⟩) (Nat.le_of_lt HG45.out) _)
      have HY11 : Hid (Gw encWd v11 w.heap.size (.slice q m c) L) := Lib.hid (by rw [← hv11]; exact HG.out.bySm H5r.out wd_notScan _ rfl _)
      go_wp2_with (first
        | (refine wpList_ld rfl _ _ rfl _ rfl _ HS11.out.load ?_)
        | (refine wpList_store_row rfl 39 _ _ rfl w.heap.size _ rfl rfl 39 _ HF11.out size6 rfl scanC_one ?_; generalize hwZ : World.setRow _ _ _ = wZ))
      have HZ4 := Lib.hid (show Sm wZ w.heap.size (.slice q m c) s e sl e er from by rw [← hwZ]; exact HF11.out.row)
      have HZB : Hid (Below w.heap.size w wZ) := Lib.hid (by rw [← hwZ]; exact below_setRow8 HQ11.out _ _ (Nat.le_refl _))
      have HZG := Lib.hid (show Gw encWd wZ w.heap.size (.slice q m c) L from by rw [← hwZ]; exact HY11.out.bySmRow HF11.out wd_notScan _)
      clear hwZ
      (try simp only [Exit.inBlock, Exit.then])
      (try rw [Exit.noGoto_ret])
      refine bodyPost_ret (HZ4.out.res1 rfl _ rfl) rfl ?_
      exact ScQ.of HFN.out q m c L HZG.out.gs rfl HK.out HC.out.1 HC.out.2.1 HC.out.2.2 HM2.out HZB.out rfl
end Go.Proofs.Ytjdigncieoaglaa

namespace Go.Proofs.Ytjdigncieoaglaa
/-- the program keeps what the laws want of it -/
theorem cseg_ok : csHeadOk ∧ csFootOk ∧ csScanOk := ⟨cshead_ok, csfoot_ok, csscan_ok⟩
end Go.Proofs.Ytjdigncieoaglaa

namespace Go.Proofs.Ytjdigncieoaglaa
set_option linter.unusedVariables false
open Go.RowKit Go.Lib Go.ChangeShapes Go.WideShapes Go.ChangeAt

set_option maxRecDepth 100000 in
theorem segmentEnds_contract (H : Type) (enc : TypeId × Value → H) (W : World) (base : Nat) (args : Array Value) (ds gs : List (DataW H)) (before : List MemPlace)
    (hval : ∀ (j : Nat) t v, Try.f3.params[j]? = some t → args[j]? = some v → Value.okWide Try.prog W .any base t v)
    (hW : DataW.Whole enc Try.prog Try.f3.params.toList Rows.segmentEndsSpec.vars false W args.toList ds gs before) (hk : Rows.uptoSmall H (ds ++ gs) = true) :
    Calls Try.prog 3 args W fun e W' => ∃ v, e = .returned v ∧ Rows.segmentEndsSpec.post enc Try.prog Try.f3 false true false false W args v W' := by
  have hW' := hW
  obtain ⟨p, q, hA0, hV, rfl, hfz, hnd⟩ := hW
  have hA : DataW.TrodAll enc Try.prog W 0 (fun _ => true) true Try.f3.params.toList args.toList ds p := hA0
  rw [Try.params3] at hA hval
  obtain ⟨v0, vs0, d0, ds0, p0, q0, hargs, rfl, rfl, t0, r0⟩ := trodAll_cons hA
  obtain ⟨v1, vs1, d1, ds1, p1, q1, rfl, rfl, rfl, t1, r1⟩ := trodAll_cons r0
  obtain ⟨v2, vs2, d2, ds2, p2, q2, rfl, rfl, rfl, t2, r2⟩ := trodAll_cons r1
  obtain ⟨rfl, rfl, rfl⟩ := trodAll_nil r2
  obtain rfl : args = #[v0, v1, v2] := by cases args; simp_all
  obtain ⟨rfl, rfl⟩ := trodVars_none hV
  obtain ⟨m0, rfl, rfl, rfl, wm0⟩ := open_int Try.underlying3 (hval 0 3 v0 rfl rfl) t0
  obtain ⟨m1, rfl, rfl, rfl, wm1⟩ := open_int Try.underlying3 (hval 1 3 v1 rfl rfl) t1
  obtain ⟨m2, rfl, rfl, rfl, wm2⟩ := open_int Try.underlying22 (hval 2 22 v2 rfl rfl) t2
  have hk' := of_decide_eq_true hk
  simp only [Rows.uptoBulkAll, Rows.uptoBulk, List.append_nil] at hk'
  refine (segends_any cshead_ok csfoot_ok csscan_ok  m0 m1 m2 W (wf_i64 wm0) (wf_i64 wm1) (wf_u64 wm2)).mono fun e W' ⟨he, hb⟩ => ?_
  subst he
  exact ⟨_, rfl, law_post laidOut (by kernel_rfl) rfl Try.underlying4 rfl hW' rfl rfl rfl hb⟩

set_option maxRecDepth 100000 in
theorem segmentEnds_lifted (os : Os) (started : os.Started) (H : Type) (enc : TypeId × Value → H) (F : Stop.Interp) :
    ReturnsInHanded {} Try.checked os 3 .any ((Rows.OpenSpec.upto Rows.segmentEndsSpec).pre6 enc Try.prog Try.f3 Rows.segmentEndsUptoRow.domain false) (((Rows.OpenSpec.upto Rows.segmentEndsSpec).at F).post enc Try.prog Try.f3 false true false false) := by
  refine returnsInHanded_of_cond (C := Try.checked) (s := Rows.OpenSpec.upto Rows.segmentEndsSpec) (k := Rows.uptoSmall) rfl own started (by kernel_rfl) Try.func3
    (OpenSpec.witness (enc := enc) (C := Try.checked) (s := Rows.OpenSpec.upto Rows.segmentEndsSpec) (k := Rows.uptoSmall) rfl false ⟨#[], #[.int .i64 0, .int .i64 0, .int .u64 0], []⟩ 8 (by kernel_rfl) (by kernel_rfl) (by kernel_rfl)
      (x := ([.lit (.int .i64 0), .lit (.int .i64 0), .lit (.int .u64 0)], [], [])) (by kernel_rfl) rfl (by kernel_rfl)) ?_
  intro W base args ds gs before hval hW _ hk _
  exact segmentEnds_contract H enc W base args ds gs before hval hW hk

theorem segmentEndsUpto_holds : Rows.SegmentEndsUptoSaid :=
  OpenClaim.holds_of_cond 3 Try.f3 rfl rfl rfl rfl rfl rfl rfl ⟨rfl, rfl, rfl, rfl, rfl⟩ rfl rfl rfl rfl rfl (by kernel_rfl) Try.func3 (by kernel_rfl)
    (of_decide_eq_true (by kernel_rfl)) (by unfold Func.isWrapper; first | (rw [if_pos (by decide +kernel)]; kernel_rfl) | (rw [if_neg (by decide +kernel)]; exact ⟨rfl, rfl⟩))
    (fun os started H enc _ F => segmentEnds_lifted os started H enc F)
end Go.Proofs.Ytjdigncieoaglaa

namespace Go.Proofs.Ytjdigncieoaglaa
set_option linter.unusedVariables false
open Go.RowKit Go.Lib Go.ChangeShapes Go.WideShapes Go.ChangeAt

theorem segscans_walk (p : Option Addr) (len cap : Nat) (zs : List Int) (n : Int) (w : World) (h : Bs w p len zs) (hpc : p = none → cap = 0) (hlc : len ≤ cap) (hcap : cap ≤ 1048576) (hn : -9223372036854775808 ≤ n ∧ n ≤ 9223372036854775807) :
    Calls Try.prog 4 #[.slice p len cap, .int .i64 n] w fun e w' => e = .returned (.bool true) ∧ Below w.heap.size w w' :=
  segscans_any cshead_ok csscan_ok p len cap zs n w h hpc hlc (by unfold maxLen; omega) (by omega) hn
set_option maxRecDepth 100000 in
theorem segmentScans_contract (H : Type) (enc : TypeId × Value → H) (W : World) (base : Nat) (args : Array Value) (ds gs : List (DataW H)) (before : List MemPlace)
    (hval : ∀ (j : Nat) t v, Try.f4.params[j]? = some t → args[j]? = some v → Value.okWide Try.prog W .any base t v)
    (hW : DataW.Whole enc Try.prog Try.f4.params.toList Rows.segmentScansSpec.vars false W args.toList ds gs before) (hk : Rows.uptoSmall H (ds ++ gs) = true) :
    Calls Try.prog 4 args W fun e W' => ∃ v, e = .returned v ∧ Rows.segmentScansSpec.post enc Try.prog Try.f4 false true false false W args v W' := by
  have hW' := hW
  obtain ⟨p, q, hA0, hV, rfl, hfz, hnd⟩ := hW
  have hA : DataW.TrodAll enc Try.prog W 0 (fun _ => true) true Try.f4.params.toList args.toList ds p := hA0
  rw [Try.params4] at hA hval
  obtain ⟨v0, vs0, d0, ds0, p0, q0, hargs, rfl, rfl, t0, r0⟩ := trodAll_cons hA
  obtain ⟨v1, vs1, d1, ds1, p1, q1, rfl, rfl, rfl, t1, r1⟩ := trodAll_cons r0
  obtain ⟨rfl, rfl, rfl⟩ := trodAll_nil r1
  obtain rfl : args = #[v0, v1] := by cases args; simp_all
  obtain ⟨rfl, rfl⟩ := trodVars_none hV
  obtain ⟨a0, len0, cap0, rfl⟩ := okWide_slice Try.underlying23 (hval 0 23 v0 rfl rfl)
  obtain ⟨fuel0, t0⟩ := t0
  obtain ⟨hlc0, hcm0, hpc0, hb0, zs0, hbs0⟩ := open_bs Try.underlying23 Try.underlying5 (by kernel_rfl) t0
  obtain ⟨m1, rfl, rfl, rfl, wm1⟩ := open_int Try.underlying3 (hval 1 3 v1 rfl rfl) t1
  have hk' := of_decide_eq_true hk
  simp only [Rows.uptoBulkAll, Rows.uptoBulk, List.append_nil, hb0] at hk'
  refine (segscans_walk  a0 len0 cap0 zs0 m1 W hbs0 hpc0 hlc0 (by omega) (wf_i64 wm1)).mono fun e W' ⟨he, hb⟩ => ?_
  subst he
  exact ⟨_, rfl, law_post laidOut (by kernel_rfl) rfl Try.underlying4 rfl hW' rfl rfl rfl hb⟩

set_option maxRecDepth 100000 in
theorem segmentScans_lifted (os : Os) (started : os.Started) (H : Type) (enc : TypeId × Value → H) (F : Stop.Interp) :
    ReturnsInHanded {} Try.checked os 4 .any ((Rows.OpenSpec.upto Rows.segmentScansSpec).pre6 enc Try.prog Try.f4 Rows.segmentScansUptoRow.domain false) (((Rows.OpenSpec.upto Rows.segmentScansSpec).at F).post enc Try.prog Try.f4 false true false false) := by
  refine returnsInHanded_of_cond (C := Try.checked) (s := Rows.OpenSpec.upto Rows.segmentScansSpec) (k := Rows.uptoSmall) rfl own started (by kernel_rfl) Try.func4
    (OpenSpec.witness (enc := enc) (C := Try.checked) (s := Rows.OpenSpec.upto Rows.segmentScansSpec) (k := Rows.uptoSmall) rfl false ⟨#[], #[.slice none 0 0, .int .i64 0], []⟩ 8 (by kernel_rfl) (by kernel_rfl) (by kernel_rfl)
      (x := ([.nil, .lit (.int .i64 0)], [], [])) (by kernel_rfl) rfl (by kernel_rfl)) ?_
  intro W base args ds gs before hval hW _ hk _
  exact segmentScans_contract H enc W base args ds gs before hval hW hk

theorem segmentScansUpto_holds : Rows.SegmentScansUptoSaid :=
  OpenClaim.holds_of_cond 4 Try.f4 rfl rfl rfl rfl rfl rfl rfl ⟨rfl, rfl, rfl, rfl, rfl⟩ rfl rfl rfl rfl rfl (by kernel_rfl) Try.func4 (by kernel_rfl)
    (of_decide_eq_true (by kernel_rfl)) (by unfold Func.isWrapper; first | (rw [if_pos (by decide +kernel)]; kernel_rfl) | (rw [if_neg (by decide +kernel)]; exact ⟨rfl, rfl⟩))
    (fun os started H enc _ F => segmentScans_lifted os started H enc F)
end Go.Proofs.Ytjdigncieoaglaa

namespace Go.Proofs.Ytjdigncieoaglaa
set_option linter.unusedVariables false
open Go.RowKit Go.Lib Go.ChangeShapes Go.WideShapes Go.ChangeAt

theorem segtorn_walk (p : Option Addr) (len cap : Nat) (zs : List Int) (n part : Int) (w : World) (h : Bs w p len zs) (hpc : p = none → cap = 0) (hlc : len ≤ cap) (hcap : cap ≤ 1048576) (hn : -9223372036854775808 ≤ n ∧ n ≤ 9223372036854775807) (_ : -9223372036854775808 ≤ part ∧ part ≤ 9223372036854775807) :
    Calls Try.prog 6 #[.slice p len cap, .int .i64 n, .int .i64 part] w fun e w' => e = .returned (.bool true) ∧ Below w.heap.size w w' :=
  segtorn_any cshead_ok csscan_ok p len cap zs n part w h hpc hlc (by unfold maxLen; omega) (by omega) hn
set_option maxRecDepth 100000 in
theorem segmentTorn_contract (H : Type) (enc : TypeId × Value → H) (W : World) (base : Nat) (args : Array Value) (ds gs : List (DataW H)) (before : List MemPlace)
    (hval : ∀ (j : Nat) t v, Try.f6.params[j]? = some t → args[j]? = some v → Value.okWide Try.prog W .any base t v)
    (hW : DataW.Whole enc Try.prog Try.f6.params.toList Rows.segmentTornSpec.vars false W args.toList ds gs before) (hk : Rows.uptoSmall H (ds ++ gs) = true) :
    Calls Try.prog 6 args W fun e W' => ∃ v, e = .returned v ∧ Rows.segmentTornSpec.post enc Try.prog Try.f6 false true false false W args v W' := by
  have hW' := hW
  obtain ⟨p, q, hA0, hV, rfl, hfz, hnd⟩ := hW
  have hA : DataW.TrodAll enc Try.prog W 0 (fun _ => true) true Try.f6.params.toList args.toList ds p := hA0
  rw [Try.params6] at hA hval
  obtain ⟨v0, vs0, d0, ds0, p0, q0, hargs, rfl, rfl, t0, r0⟩ := trodAll_cons hA
  obtain ⟨v1, vs1, d1, ds1, p1, q1, rfl, rfl, rfl, t1, r1⟩ := trodAll_cons r0
  obtain ⟨v2, vs2, d2, ds2, p2, q2, rfl, rfl, rfl, t2, r2⟩ := trodAll_cons r1
  obtain ⟨rfl, rfl, rfl⟩ := trodAll_nil r2
  obtain rfl : args = #[v0, v1, v2] := by cases args; simp_all
  obtain ⟨rfl, rfl⟩ := trodVars_none hV
  obtain ⟨a0, len0, cap0, rfl⟩ := okWide_slice Try.underlying23 (hval 0 23 v0 rfl rfl)
  obtain ⟨fuel0, t0⟩ := t0
  obtain ⟨hlc0, hcm0, hpc0, hb0, zs0, hbs0⟩ := open_bs Try.underlying23 Try.underlying5 (by kernel_rfl) t0
  obtain ⟨m1, rfl, rfl, rfl, wm1⟩ := open_int Try.underlying3 (hval 1 3 v1 rfl rfl) t1
  obtain ⟨m2, rfl, rfl, rfl, wm2⟩ := open_int Try.underlying3 (hval 2 3 v2 rfl rfl) t2
  have hk' := of_decide_eq_true hk
  simp only [Rows.uptoBulkAll, Rows.uptoBulk, List.append_nil, hb0] at hk'
  refine (segtorn_walk  a0 len0 cap0 zs0 m1 m2 W hbs0 hpc0 hlc0 (by omega) (wf_i64 wm1) (wf_i64 wm2)).mono fun e W' ⟨he, hb⟩ => ?_
  subst he
  exact ⟨_, rfl, law_post laidOut (by kernel_rfl) rfl Try.underlying4 rfl hW' rfl rfl rfl hb⟩

set_option maxRecDepth 100000 in
theorem segmentTorn_lifted (os : Os) (started : os.Started) (H : Type) (enc : TypeId × Value → H) (F : Stop.Interp) :
    ReturnsInHanded {} Try.checked os 6 .any ((Rows.OpenSpec.upto Rows.segmentTornSpec).pre6 enc Try.prog Try.f6 Rows.segmentTornUptoRow.domain false) (((Rows.OpenSpec.upto Rows.segmentTornSpec).at F).post enc Try.prog Try.f6 false true false false) := by
  refine returnsInHanded_of_cond (C := Try.checked) (s := Rows.OpenSpec.upto Rows.segmentTornSpec) (k := Rows.uptoSmall) rfl own started (by kernel_rfl) Try.func6
    (OpenSpec.witness (enc := enc) (C := Try.checked) (s := Rows.OpenSpec.upto Rows.segmentTornSpec) (k := Rows.uptoSmall) rfl false ⟨#[], #[.slice none 0 0, .int .i64 0, .int .i64 0], []⟩ 8 (by kernel_rfl) (by kernel_rfl) (by kernel_rfl)
      (x := ([.nil, .lit (.int .i64 0), .lit (.int .i64 0)], [], [])) (by kernel_rfl) rfl (by kernel_rfl)) ?_
  intro W base args ds gs before hval hW _ hk _
  exact segmentTorn_contract H enc W base args ds gs before hval hW hk

theorem segmentTornUpto_holds : Rows.SegmentTornUptoSaid :=
  OpenClaim.holds_of_cond 6 Try.f6 rfl rfl rfl rfl rfl rfl rfl ⟨rfl, rfl, rfl, rfl, rfl⟩ rfl rfl rfl rfl rfl (by kernel_rfl) Try.func6 (by kernel_rfl)
    (of_decide_eq_true (by kernel_rfl)) (by unfold Func.isWrapper; first | (rw [if_pos (by decide +kernel)]; kernel_rfl) | (rw [if_neg (by decide +kernel)]; exact ⟨rfl, rfl⟩))
    (fun os started H enc _ F => segmentTorn_lifted os started H enc F)
end Go.Proofs.Ytjdigncieoaglaa
