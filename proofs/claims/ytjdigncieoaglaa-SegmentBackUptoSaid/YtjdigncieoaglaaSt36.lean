/- Layer 14, the program: Parse -/
import Derived.Test.YtjdigncieoaglaaSt11
import Derived.Test.YtjdigncieoaglaaSt18
import Derived.Test.YtjdigncieoaglaaSt27
import Derived.Test.YtjdigncieoaglaaSt35
set_option linter.unusedSimpArgs false
set_option linter.unusedVariables false
namespace Go.Proofs.Ytjdigncieoaglaa
set_option linter.unusedVariables false
open Go.RowKit Go.Lib

set_option maxRecDepth 100000 in
set_option maxHeartbeats 4000000 in
theorem cparse_ok : cParseOk := by
  intro p len cap zs a w h hpc hlc hcm hlen ha
  obtain ⟨wA, hA⟩ : ∃ W, w.alloc (.cells (mixC rq0.a rq0.dg rq0.z) 29) = W := ⟨_, rfl⟩
  have HA : Hid (Rm wA w.heap.size rq0) := Lib.hid (by rw [← hA]; exact Rm.new w rq0)
  have HBA : Hid (Below w.heap.size w wA) := Lib.hid (by rw [← hA]; exact (Below.refl _ _).alloc (Nat.le_refl _) _)
  have HSA : Hid (w.heap.size < wA.heap.size) := Lib.hid (Mx.lt HA.out)
  have HFR := Lib.hid (fparse_ob p len cap zs a wA (h.later HBA.out) hpc hlc (by omega) ha)
  have HPS := Lib.hid fun h0 => ps_of h.byte (a := a) h0
  have hE : rpE zs a = if psE zs a ≠ 0 then psE zs a else match readN (psF zs a).k (psF zs a).d with
    | none => 3
    | some r => rightN r := rfl
  have HRR := Lib.hid (show rpR zs a = if rpE zs a = 0 then (match readN (psF zs a).k (psF zs a).d with
    | none => rc0
    | some r => { r with s := (psF zs a).s }) else rc0 from rfl)
  have HRN := Lib.hid (show rpN zs a = if rpE zs a = 0 then (psF zs a).e else 0 from rfl)
  have HLEN := Lib.hid h.len
  have HRE := Lib.hid hE
  clear hE h hpc hlc hcm
  rw [HLEN.out] at HPS
  unfold frV at HFR
  generalize psF zs a = FF at *
  generalize hPE : psE zs a = E at *
  obtain ⟨k, s, d, x⟩ := FF
  dsimp only at *
  rw [rq0C] at hA
  go_enter Try.func37, Try.ntmps37
  go_upto_region 2 with (go_at_call 52; refine HFR.out.mono ?_; rintro e w1 ⟨q1, n1, c1, rfl, hd1, hn1, hc1, hq1, hb1, ho1⟩; obtain ⟨wF, hF⟩ : ∃ W, w1.alloc (.cells #[.int .i64 k, .int .u64 s, .slice q1 n1 c1, .int .i64 x] 102) = W := ⟨_, rfl⟩)
  have hBF : Below w1.heap.size w1 wF := by rw [← hF]; exact (Below.refl _ _).alloc (Nat.le_refl _) _
  have HBF := Lib.hid (below_step (below_step HBA.out hb1) hBF)
  have HAF := Lib.hid ((HA.out.later hb1).later hBF)
  have HDF := Lib.hid (hd1.later hBF)
  have HO1 := Lib.hid ho1
  have HB1F := Lib.hid hBF
  have HRF : Hid (wF.heap[w1.heap.size]? = some (.cells #[.int .i64 k, .int .u64 s, .slice q1 n1 c1, .int .i64 x] 102 (0, 0))) := Lib.hid (by rw [← hF]; exact heap_alloc_new _ _)
  have HN1 := Lib.hid hn1
  have HC1 := Lib.hid hc1
  have HQ1 := Lib.hid hq1
  have HS1 : Hid (w.heap.size < w1.heap.size) := Lib.hid (by have h1 := HSA.out; have h2 := hb1.size; omega)
  have HSF : Hid (w1.heap.size < wF.heap.size) := Lib.hid (Array.getElem?_eq_some_iff.1 HRF.out).1
  clear hb1 hBF hd1 hn1 hc1 hq1 ho1
  by_cases hE : E = 0
  · subst hE
    obtain ⟨m, n, _, hmn, _, hdn, hk, hs, hdb, hx, _⟩ := HPS.out rfl
    have HDN : Hid (n1 = n) := Lib.hid (by rw [← HDF.out.len]; exact hdn)
    have hx64 : -9223372036854775808 ≤ x ∧ x ≤ 9223372036854775807 := by omega
    have HRDc := Lib.hid fun W (hW : Bs W q1 n1 d) => cread_any k q1 n1 c1 d W hk hW HQ1.out HN1.out HC1.out (by have := HDN.out; omega)
    have HS := Lib.hid hs
    have HDB := Lib.hid hdb
    simp only [ne_eq, not_true, if_false] at HRE
    obtain ⟨z0, z1, z2, z3, _⟩ := row4 HRF.out
    clear HPS hmn hdn hk hs hdb hx
    go_upto_region 5 with (first
      | (go_at_call 53; refine (HRDc.out _ HDF.out).mono ?_; rintro e w2 ⟨X, ok, rfl, hf2, hp2, hb2, ho2⟩; have HF2 := Lib.hid hf2; have HP2 := Lib.hid hp2; have HB2 := Lib.hid hb2; have HO2 := Lib.hid ho2; clear hf2 hp2 hb2 ho2)
      | (refine wpList_store_row rfl 29 _ _ rfl w2.heap.size _ rfl rfl 29 _ (heap_alloc_new _ _) (Rq.sizeOf X HF2.out.dg.1) (Rq.sizes rq0 X rfl HF2.out.dg.1) X.one ?_; generalize hw3 : World.setRow _ _ _ = w3))
    have HR3 : Hid (Rd w w3 w.heap.size w2.heap.size rq0 X) := Lib.hid (by rw [← hw3]; exact (Rd.second w w2 rq0 (HAF.out.later HB2.out) (below_step HBF.out HB2.out) (by have h1 := HS1.out; have h2 := HSF.out; have h3 := HB2.out.size; omega)).put X HF2.out.dg.1)
    have HRZ : Hid (w3.heap[w1.heap.size]? = some (.cells #[.int .i64 k, .int .u64 s, .slice q1 n1 c1, .int .i64 x] 102 (0, 0))) := Lib.hid (by
      rw [keep_row hw3 _ (by have h2 := HSF.out; have h3 := HB2.out.size; omega)]
      exact row_later (row_later HRF.out HB2.out) ((Below.refl _ _).alloc (Nat.le_refl _) _))
    have HK3 := Lib.hid fun g (hg2 : g < w2.heap.size) => (keep_row hw3 g (by omega)).trans (heap_alloc_old w2 _ hg2)
    clear hw3 z0 z1 z2 z3
    cases ok
    · have HRD := readD_none.1 (HP2.out.2 rfl)
      rw [HRD] at HRE
      dsimp only at HRE
      go_wp2_with (first
        | (refine wpList_build_is rfl 29 _ rfl (mixC rq0.a rq0.dg rq0.z) ?_ ?_; kernel_rfl)
        | (refine wpList_store_row rfl 29 _ _ rfl w.heap.size _ rfl rfl 29 _ HR3.out.out (Rq.sizeOf rq0 rfl) (Rq.sizes rq0 rq0 rfl rfl) rq0.one ?_; generalize hwZ : World.setRow _ _ _ = wZ; have HZ : Hid (Rd w wZ w.heap.size w2.heap.size rq0 X) := Lib.hid (by rw [← hwZ]; exact HR3.out.ans rq0 rfl); clear hwZ))
      refine bodyPost_ret (HZ.out.out.res3 HZ.out.dy rfl _ rfl) rfl ?_
      exact RpQ.no HRE.out.symm (by omega) HZ.out.le
    · obtain ⟨r', HRD, HRG, HRQ⟩ := readD_some HDB.out (HP2.out.1 rfl)
      rw [HRD] at HRE
      dsimp only at HRE
      rw [HRG] at HRE
      obtain ⟨R, hR⟩ : ∃ R, rightN X.rc = R := ⟨_, rfl⟩
      have HRI := Lib.hid fun W (hW : X.Fit W) => right_any X W hW
      rw [hR] at HRE HRI HRQ
      have HRX := Lib.hid HRQ
      have HFX : Hid (∀ W, Bs W q1 n1 d → X.Fit W) := Lib.hid fun W hW => ⟨HO2.out W hW, HF2.out.pc, HF2.out.nc, HF2.out.cm, HF2.out.dg, HF2.out.nm, HF2.out.s, HF2.out.k, HF2.out.N, HF2.out.Z⟩
      have HDK : Hid (∀ W, (∀ g, wA.heap.size + 1 ≤ g → g < w1.heap.size → W.heap[g]? = w1.heap[g]?) → Bs W q1 n1 d) := Lib.hid fun W hW => (HO1.out.keepg hW).at.1
      have HK1 : Hid (∀ g, g < w1.heap.size → w3.heap[g]? = w1.heap[g]?) := Lib.hid fun g hg => (HK3.out g (by have h1 := HSF.out; have h2 := HB2.out.size; omega)).trans ((HB2.out.block g (by have h1 := HSF.out; omega)).trans (HB1F.out.block g hg))
      have HF3 : Hid (X.Fit w3) := Lib.hid (HFX.out _ (HDK.out _ fun g _ hg => HK1.out g hg))
      clear hR HRQ HRG
      unfold Rq.v at HRI
      have HLD := Lib.hid fun W (hW : Below w3.heap.size w3 W) => (HR3.out.later hW).own.load HF2.out.dg.1
      by_cases hz : R = 0
      · subst hz
        obtain ⟨X2, hX2⟩ : ∃ Y, { X with s := s } = Y := ⟨_, rfl⟩
        have HX2 := Lib.hid hX2
        have HD2 : Hid (X2.dg.length = 32) := Lib.hid (by rw [← hX2]; exact HF2.out.dg.1)
        have HFZ : Hid (∀ W, Bs W q1 n1 d → X2.Fit W) := Lib.hid fun W hW => by
          rw [← hX2]
          exact ⟨HO2.out W hW, HF2.out.pc, HF2.out.nc, HF2.out.cm, HF2.out.dg, HF2.out.nm, HS.out, HF2.out.k, HF2.out.N, HF2.out.Z⟩
        have HXR : Hid (X2.rc = { X.rc with s := s }) := Lib.hid (by rw [← hX2]; rfl)
        clear hX2
        go_upto_region 10 with (first
          | (refine wpList_ld rfl _ _ rfl _ rfl _ (HLD.out _ (Below.refl _ _)) ?_)
          | (go_at_call 33; refine (HRI.out _ HF3.out).mono ?_; rintro e w4 ⟨rfl, hb4⟩; have HB4 := Lib.hid hb4; clear hb4))
        have HR4 := Lib.hid (HR3.out.later HB4.out)
        have HZ4 := Lib.hid (row_later HRZ.out HB4.out)
        obtain ⟨z0, z1, z2, z3, _⟩ := row4 HZ4.out
        have cl1 := (HR4.out.own.cells HF2.out.dg.1).2.1
        have fr1 := HR4.out.own.frozen 1
        obtain ⟨w5, hw5⟩ : ∃ W, w4.setCell ⟨w2.heap.size, 1, none⟩ (.int .u64 s) = W := ⟨_, rfl⟩
        have HR5 : Hid (Rd w w5 w.heap.size w2.heap.size rq0 X2) := Lib.hid (by rw [← hw5, ← HX2.out]; exact HR4.out.setS s)
        have HK5 := Lib.hid (keep_cell hw5)
        have HZ5 : Hid (w5.heap[w1.heap.size]? = some (.cells #[.int .i64 k, .int .u64 s, .slice q1 n1 c1, .int .i64 x] 102 (0, 0))) := Lib.hid ((keep_cell hw5 _ (by have h2 := HSF.out; have h3 := HB2.out.size; omega)).trans HZ4.out)
        go_upto_region 11 with fail
        clear cl1 fr1 z0 z1 z2 z3
        have HLZ : Hid ((Try.prog.info? 29).map (·.size) = some (mixL X2.a X2.dg X2.z).length) := Lib.hid (by rw [mixL_length, HD2.out]; exact size38)
        have KA := Lib.hid (And.intro (Mx.range HR5.out.own) (row4 HZ5.out).2.2.2.1)
        have HMC := Lib.hid (show (mixL X2.a X2.dg X2.z).toArray = mixC X2.a X2.dg X2.z from rfl)
        obtain ⟨L, hL⟩ : ∃ L, mixL X2.a X2.dg X2.z = L := ⟨_, rfl⟩
        rw [hL] at KA HLZ HMC
        have HLT := Lib.hid hL
        have HR5d := Lib.hid (HR5.out.later (Below.refl _ _).drew)
        clear hL
        refine wp_region_held_drew (S := (fun W => W.rangeAt w2.heap.size 0 L ∧ W.cell? ⟨w1.heap.size, 3, none⟩ = some (.int .i64 x))) (by kernel_rfl) KA.out (fun hHeld => ?_)
        refine take_at 0 rfl (by kernel_rfl) (by kernel_rfl) (by kernel_rfl) (fun _ _ _ h => h) (yieldsIf_load_mid (by rfl) _ _ rfl _ _ rfl _ _ (fun _ h => h.1) Try.underlying29 rfl HLZ.out) (by assumption) ?_
        (try simp only [Act.put, List.setIfInBounds_toArray, List.set_cons_zero, List.set_cons_succ])
        refine take_at 1 (v := ?vv2) rfl (by kernel_rfl) (by kernel_rfl) (by kernel_rfl) (fun _ _ _ h => h) (Or.inl ⟨by rfl, ?hy2⟩) (by assumption) ?rest2
        case hy2 => intro w hSw; (try dsimp only at hSw); go_simp; (try with_reducible rfl)
        (try simp only [Act.put, List.setIfInBounds_toArray, List.set_cons_zero, List.set_cons_succ])
        refine take_at 2 (v := ?vv3) rfl (by kernel_rfl) (by kernel_rfl) (by kernel_rfl) (fun _ _ _ h => h) (Or.inl ⟨by rfl, ?hy3⟩) (by assumption) ?rest3
        case hy3 => intro w hSw; (try dsimp only at hSw); go_simp; (try with_reducible rfl)
        (try simp only [Act.put, List.setIfInBounds_toArray, List.set_cons_zero, List.set_cons_succ])
        refine ready_at 3 rfl (by kernel_rfl) (fun K hK => ?_)
        rw [if_pos (by rfl)]
        rw [HMC.out]
        refine wp_store_row 29 _ _ rfl w.heap.size _ rfl rfl 29 _ HR5d.out.out (Rq.sizeOf X2 HD2.out) (Rq.sizes rq0 X2 rfl HD2.out) (Rq.one X2) ?_
        generalize hwZ : World.setRow _ _ _ = wZ
        have HZ : Hid (Rd w wZ w.heap.size w2.heap.size X2 X2) := Lib.hid (by rw [← hwZ]; exact HR5d.out.ans X2 HD2.out)
        have HZK := Lib.hid (keep_row hwZ)
        have KB : Hid (wZ.rangeAt w2.heap.size 0 L ∧ wZ.cell? ⟨w1.heap.size, 3, none⟩ = some (.int .i64 x)) := Lib.hid ⟨by rw [← HLT.out]; exact Mx.range HZ.out.own, (row4 ((HZK.out _ (by have h1 := HS1.out; omega)).trans HZ5.out)).2.2.2.1⟩
        clear hwZ
        refine hK.out _ _ ?hS4 (fun hHeld => ?rest4)
        case hS4 => exact KB.out
        clear hK K
        (try simp only [Act.put, List.setIfInBounds_toArray, List.set_cons_zero, List.set_cons_succ])
        refine take_at 4 (v := ?vv5) rfl (by kernel_rfl) (by kernel_rfl) (by kernel_rfl) (fun _ _ _ h => h) (Or.inl ⟨by rfl, ?hy5⟩) (by assumption) ?rest5
        case hy5 => intro w hSw; (try dsimp only at hSw); go_simp; (try with_reducible rfl)
        (try simp only [Act.put, List.setIfInBounds_toArray, List.set_cons_zero, List.set_cons_succ])
        refine take_at 5 (v := ?vv6) rfl (by kernel_rfl) (by kernel_rfl) (by kernel_rfl) (fun _ _ _ h => h) (Or.inl ⟨by rfl, ?hy6⟩) (by assumption) ?rest6
        case hy6 => intro w hSw; (try dsimp only at hSw); go_simp; (try with_reducible rfl)
        (try simp only [Act.put, List.setIfInBounds_toArray, List.set_cons_zero, List.set_cons_succ])
        refine wpAnyH_done (by kernel_rfl) ?_ _
        go_wp2
        refine bodyPost_ret (HZ.out.out.res3 HZ.out.dy rfl _ rfl) rfl ?_
        refine RpQ.of X2 ?_ HRE.out.symm ?_ ?_ HZ.out.le
        · rw [HRN.out, HRE.out, if_pos rfl]
        · refine HFZ.out _ (HDK.out _ fun g hg hg2 => ?_)
          rw [HZK.out g (by have h1 := HSA.out; omega), show w5.drew.heap[g]? = w5.heap[g]? from rfl, HK5.out g (by have h1 := HSF.out; have h2 := HB2.out.size; omega), HB4.out.block g (by have h3 := HR3.out.gt; have h1 := HSF.out; have h2 := HB2.out.size; omega), HK1.out g hg2]
        · rw [HXR.out, HRR.out, HRE.out, if_pos rfl, HRD]
          dsimp only
          rw [HRX.out (by first | rfl | trivial)]
      · have hne : (R != 0) = true := by simpa using hz
        go_wp2_with (first
          | (refine wpList_build_is rfl 29 _ rfl (mixC rq0.a rq0.dg rq0.z) ?_ ?_; kernel_rfl)
          | (refine wpList_ld rfl _ _ rfl _ rfl _ (HLD.out _ (Below.refl _ _)) ?_)
          | (go_at_call 33; refine (HRI.out _ HF3.out).mono ?_; rintro e w4 ⟨rfl, hb4⟩; have HR4 := Lib.hid (HR3.out.later hb4); clear hb4)
          | (refine wpList_store_row rfl 29 _ _ rfl w.heap.size _ rfl rfl 29 _ HR4.out.out (Rq.sizeOf rq0 rfl) (Rq.sizes rq0 rq0 rfl rfl) rq0.one ?_; generalize hwZ : World.setRow _ _ _ = wZ; have HZ : Hid (Rd w wZ w.heap.size w2.heap.size rq0 X) := Lib.hid (by rw [← hwZ]; exact HR4.out.ans rq0 rfl); clear hwZ))
        refine bodyPost_ret (HZ.out.out.res3 HZ.out.dy rfl _ rfl) rfl ?_
        exact RpQ.no HRE.out.symm hz HZ.out.le
  · have hne : (E != 0) = true := by simpa using hE
    rw [if_pos hE] at HRE
    go_wp2_with (first
      | (refine wpList_build_is rfl 29 _ rfl (mixC rq0.a rq0.dg rq0.z) ?_ ?_; kernel_rfl)
      | (refine wpList_store_row rfl 29 _ _ rfl w.heap.size _ rfl rfl 29 _ HAF.out (Rq.sizeOf rq0 rfl) (Rq.sizes rq0 rq0 rfl rfl) rq0.one ?_; generalize hwZ : World.setRow _ _ _ = wZ; have HZ : Hid (Rm wZ w.heap.size rq0) := Lib.hid (by rw [← hwZ]; exact HAF.out.row); have HZB : Hid (Below w.heap.size w wZ) := Lib.hid (by rw [← hwZ]; exact below_setRow8 HBF.out _ _ (Nat.le_refl _)); clear hwZ))
    refine bodyPost_ret (HZ.out.res3 rfl rfl _ rfl) rfl ?_
    exact RpQ.no HRE.out.symm hE HZB.out
end Go.Proofs.Ytjdigncieoaglaa
