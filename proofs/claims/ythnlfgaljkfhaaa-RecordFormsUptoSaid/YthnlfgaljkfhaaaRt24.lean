/- Layer 14, the reference: Parse; Layer 14, the reference: Same, Bare; Layer 14, the reference: Word; Layer 14, the program: own; Layer 14, the program: lead -/
import Derived.Test.YthnlfgaljkfhaaaRt14
import Derived.Test.YthnlfgaljkfhaaaRt18
import Derived.Test.YthnlfgaljkfhaaaRt19
import Derived.Test.YthnlfgaljkfhaaaRt20
import Derived.Test.YthnlfgaljkfhaaaRt23
set_option linter.unusedSimpArgs false
set_option linter.unusedVariables false
namespace Go.Proofs.Ythnlfgaljkfhaaa
set_option linter.unusedVariables false
open Go.RowKit Go.Lib

/-- why no record stands at a place -/
def rpE (zs : List Int) (a : Int) : Int := if psE zs a ≠ 0 then psE zs a else match readN (psF zs a).k (psF zs a).d with
  | none => 3
  | some r => rightN r
/-- which one does -/
def rpR (zs : List Int) (a : Int) : Rc := if rpE zs a = 0 then (match readN (psF zs a).k (psF zs a).d with
  | none => rc0
  | some r => { r with s := (psF zs a).s }) else rc0
def rpN (zs : List Int) (a : Int) : Int := if rpE zs a = 0 then (psF zs a).e else 0
def RpQ (w : World) (zs : List Int) (a : Int) (e : Ending) (w' : World) : Prop := ∃ x : Rq, e = .returned (.tuple #[x.v, .int .i64 (rpN zs a), .int .i64 (rpE zs a)]) ∧ x.Fit w' ∧ x.rc = rpR zs a ∧ Below w.heap.size w w'
theorem RpQ.of {w w' : World} {zs : List Int} {a n e : Int} (x : Rq) (hn : n = rpN zs a) (he : e = rpE zs a) (hf : x.Fit w') (hx : x.rc = rpR zs a) (hb : Below w.heap.size w w') : RpQ w zs a (.returned (.tuple #[x.v, .int .i64 n, .int .i64 e])) w' := by
  subst hn he
  exact ⟨x, rfl, hf, hx, hb⟩
theorem RpQ.no {w w' : World} {zs : List Int} {a e : Int} (he : e = rpE zs a) (h0 : e ≠ 0) (hb : Below w.heap.size w w') : RpQ w zs a (.returned (.tuple #[rq0.v, .int .i64 0, .int .i64 e])) w' := by
  subst he
  exact RpQ.of rq0 (by unfold rpN; rw [if_neg h0]) rfl (rq0_fit w') (by unfold rpR; rw [if_neg h0]; rfl) hb
theorem rightN_s (r : Rc) (s : Int) : rightN { r with s := s } = rightN r := rfl
theorem Rd.second (w W : World) (x : Rq) (hW : Rm W w.heap.size rq0) (hb : Below w.heap.size w W) (hg : w.heap.size < W.heap.size) : Rd w (W.alloc (.cells (mixC rq0.a rq0.dg rq0.z) 27)) w.heap.size W.heap.size rq0 rq0 :=
  ⟨by omega, Nat.le_refl _, by omega, Mx.later hW ((Below.refl _ _).alloc (Nat.le_refl _) _), heap_alloc_new _ _, hb.alloc hb.size _, rfl, rfl⟩

set_option maxRecDepth 100000 in
set_option maxHeartbeats 4000000 in
theorem rparse14_any (p : Option Addr) (len cap : Nat) (zs : List Int) (a : Int) (w : World) (h : Bs w p len zs) (hpc : p = none → cap = 0) (hlc : len ≤ cap) (hcm : cap ≤ maxLen) (hlen : len ≤ 2097152) (ha : -9223372036854775808 ≤ a ∧ a ≤ 9223372036854775807) :
    Calls Try.prog 17 #[.slice p len cap, .int .i64 a] w fun e w' => RpQ w zs a e w' := by
  obtain ⟨wA, hA⟩ : ∃ W, w.alloc (.cells (mixC rq0.a rq0.dg rq0.z) 27) = W := ⟨_, rfl⟩
  have HA : Hid (Rm wA w.heap.size rq0) := Lib.hid (by rw [← hA]; exact Rm.new w rq0)
  have HBA : Hid (Below w.heap.size w wA) := Lib.hid (by rw [← hA]; exact (Below.refl _ _).alloc (Nat.le_refl _) _)
  have HSA : Hid (w.heap.size < wA.heap.size) := Lib.hid (Mx.lt HA.out)
  have HFR := Lib.hid (rparse_any p len cap zs a wA (h.later HBA.out) hpc hlc hcm hlen ha)
  have HPS := Lib.hid fun h0 => ps_of h.byte (a := a) h0
  have hE : rpE zs a = if psE zs a ≠ 0 then psE zs a else match readN (psF zs a).k (psF zs a).d with
    | none => 3
    | some r => rightN r := rfl
  have HRR := Lib.hid (show rpR zs a = if rpE zs a = 0 then (match readN (psF zs a).k (psF zs a).d with
    | none => rc0
    | some r => { r with s := (psF zs a).s }) else rc0 from rfl)
  have HRN := Lib.hid (show rpN zs a = if rpE zs a = 0 then (psF zs a).e else 0 from rfl)
  have HLEN := Lib.hid h.len
  have HRE := Lib.hid hE
  clear hE h hpc hlc hcm
  rw [HLEN.out] at HPS
  unfold frV at HFR
  generalize psF zs a = FF at *
  generalize hPE : psE zs a = E at *
  obtain ⟨k, s, d, x⟩ := FF
  dsimp only at *
  rw [rq0C] at hA
  go_enter Try.func17, Try.ntmps17
  go_upto_region 2 with (go_at_call 32; refine HFR.out.mono ?_; rintro e w1 ⟨q1, n1, c1, rfl, hd1, hn1, hc1, hq1, hb1⟩; obtain ⟨wF, hF⟩ : ∃ W, w1.alloc (.cells #[.int .i64 k, .int .u64 s, .slice q1 n1 c1, .int .i64 x] 64) = W := ⟨_, rfl⟩)
  have hBF : Below w1.heap.size w1 wF := by rw [← hF]; exact (Below.refl _ _).alloc (Nat.le_refl _) _
  have HBF := Lib.hid (below_step (below_step HBA.out hb1) hBF)
  have HAF := Lib.hid ((HA.out.later hb1).later hBF)
  have HDF := Lib.hid (hd1.later hBF)
  have HRF : Hid (wF.heap[w1.heap.size]? = some (.cells #[.int .i64 k, .int .u64 s, .slice q1 n1 c1, .int .i64 x] 64 (0, 0))) := Lib.hid (by rw [← hF]; exact heap_alloc_new _ _)
  have HN1 := Lib.hid hn1
  have HC1 := Lib.hid hc1
  have HQ1 := Lib.hid hq1
  have HS1 : Hid (w.heap.size < w1.heap.size) := Lib.hid (by have h1 := HSA.out; have h2 := hb1.size; omega)
  have HSF : Hid (w1.heap.size < wF.heap.size) := Lib.hid (Array.getElem?_eq_some_iff.1 HRF.out).1
  clear hb1 hBF hd1 hn1 hc1 hq1
  by_cases hE : E = 0
  · subst hE
    obtain ⟨m, n, _, hmn, _, hdn, hk, hs, hdb, hx, _⟩ := HPS.out rfl
    have HDN : Hid (n1 = n) := Lib.hid (by rw [← HDF.out.len]; exact hdn)
    have hx64 : -9223372036854775808 ≤ x ∧ x ≤ 9223372036854775807 := by omega
    have HRDc := Lib.hid fun W (hW : Bs W q1 n1 d) => rread14_any k q1 n1 c1 d W hk hW HQ1.out HN1.out HC1.out (by have := HDN.out; omega)
    have HS := Lib.hid hs
    simp only [ne_eq, not_true, if_false] at HRE
    obtain ⟨z0, z1, z2, z3, _⟩ := row4 HRF.out
    clear HPS hmn hdn hk hs hdb hx
    go_upto_region 5 with (first
      | (go_at_call 33; refine (HRDc.out _ HDF.out).mono ?_; rintro e w2 ⟨X, ok, rfl, hf2, hp2, hb2, ho2⟩; have HF2 := Lib.hid hf2; have HP2 := Lib.hid hp2; have HB2 := Lib.hid hb2; have HO2 := Lib.hid ho2; clear hf2 hp2 hb2 ho2)
      | (refine wpList_store_row rfl 27 _ _ rfl w2.heap.size _ rfl rfl 27 _ (heap_alloc_new _ _) (Rq.sizeOf X HF2.out.dg.1) (Rq.sizes rq0 X rfl HF2.out.dg.1) X.one ?_; generalize hw3 : World.setRow _ _ _ = w3))
    have HR3 : Hid (Rd w w3 w.heap.size w2.heap.size rq0 X) := Lib.hid (by rw [← hw3]; exact (Rd.second w w2 rq0 (HAF.out.later HB2.out) (below_step HBF.out HB2.out) (by have h1 := HS1.out; have h2 := HSF.out; have h3 := HB2.out.size; omega)).put X HF2.out.dg.1)
    have HRZ : Hid (w3.heap[w1.heap.size]? = some (.cells #[.int .i64 k, .int .u64 s, .slice q1 n1 c1, .int .i64 x] 64 (0, 0))) := Lib.hid (by
      rw [keep_row hw3 _ (by have h2 := HSF.out; have h3 := HB2.out.size; omega)]
      exact row_later (row_later HRF.out HB2.out) ((Below.refl _ _).alloc (Nat.le_refl _) _))
    have HK3 := Lib.hid fun g (hg2 : g < w2.heap.size) => (keep_row hw3 g (by omega)).trans (heap_alloc_old w2 _ hg2)
    clear hw3 z0 z1 z2 z3
    cases ok
    · have HRD := HP2.out.wasn
      rw [HRD] at HRE
      dsimp only at HRE
      go_wp2_with (first
        | (refine wpList_build_is rfl 27 _ rfl (mixC rq0.a rq0.dg rq0.z) ?_ ?_; kernel_rfl)
        | (refine wpList_store_row rfl 27 _ _ rfl w.heap.size _ rfl rfl 27 _ HR3.out.out (Rq.sizeOf rq0 rfl) (Rq.sizes rq0 rq0 rfl rfl) rq0.one ?_; generalize hwZ : World.setRow _ _ _ = wZ; have HZ : Hid (Rd w wZ w.heap.size w2.heap.size rq0 X) := Lib.hid (by rw [← hwZ]; exact HR3.out.ans rq0 rfl); clear hwZ))
      refine bodyPost_ret (HZ.out.out.res3 HZ.out.dy rfl _ rfl) rfl ?_
      exact RpQ.no HRE.out.symm (by omega) HZ.out.le
    · have HRD := HP2.out.was
      rw [HRD] at HRE
      dsimp only at HRE
      have HRI := Lib.hid fun W => rright_any X W HF2.out.dg.1 HF2.out.bs.len HF2.out.nm
      obtain ⟨R, hR⟩ : ∃ R, rightN X.rc = R := ⟨_, rfl⟩
      rw [hR] at HRE HRI
      have HRV := Lib.hid hR
      clear hR
      unfold Rq.v at HRI
      by_cases hz : R = 0
      · subst hz
        have HLD := Lib.hid fun W (hW : Below w3.heap.size w3 W) => (HR3.out.later hW).own.load HF2.out.dg.1
        obtain ⟨X2, hX2⟩ : ∃ Y, { X with s := s } = Y := ⟨_, rfl⟩
        have HX2 := Lib.hid hX2
        have HD2 : Hid (X2.dg.length = 32) := Lib.hid (by rw [← hX2]; exact HF2.out.dg.1)
        have HF3 : Hid (∀ W, Bs W X2.p X2.n X2.da → X2.Fit W) := Lib.hid fun W hW => by
          rw [← hX2] at hW ⊢
          exact ⟨hW, HF2.out.pc, HF2.out.nc, HF2.out.cm, HF2.out.dg, HF2.out.nm, HS.out, HF2.out.k, HF2.out.N, HF2.out.Z⟩
        have HXO : Hid (∀ W, Ob W wF.heap.size 5 (.slice X.p X.n X.c) X.da → X2.Fit W) := Lib.hid fun W hW => HF3.out W (by rw [← hX2]; exact hW.at.1)
        have HXR : Hid (X2.rc = { X.rc with s := s }) := Lib.hid (by rw [← hX2]; rfl)
        clear hX2
        go_upto_region 9 with (first
          | (refine wpList_ld rfl _ _ rfl _ rfl _ (HLD.out _ (Below.refl _ _)) ?_)
          | (go_at_call 11; refine (HRI.out _).mono ?_; rintro e w4 ⟨rfl, hb4⟩; have HB4 := Lib.hid hb4; clear hb4))
        have HR4 := Lib.hid (HR3.out.later HB4.out)
        have HZ4 := Lib.hid (row_later HRZ.out HB4.out)
        obtain ⟨z0, z1, z2, z3, _⟩ := row4 HZ4.out
        have cl1 := (HR4.out.own.cells HF2.out.dg.1).2.1
        have fr1 := HR4.out.own.frozen 1
        obtain ⟨w5, hw5⟩ : ∃ W, w4.setCell ⟨w2.heap.size, 1, none⟩ (.int .u64 s) = W := ⟨_, rfl⟩
        have HR5 : Hid (Rd w w5 w.heap.size w2.heap.size rq0 X2) := Lib.hid (by rw [← hw5, ← HX2.out]; exact HR4.out.setS s)
        have HK5 := Lib.hid (keep_cell hw5)
        have HZ5 : Hid (w5.heap[w1.heap.size]? = some (.cells #[.int .i64 k, .int .u64 s, .slice q1 n1 c1, .int .i64 x] 64 (0, 0))) := Lib.hid ((keep_cell hw5 _ (by have h2 := HSF.out; have h3 := HB2.out.size; omega)).trans HZ4.out)
        go_upto_region 10 with fail
        clear cl1 fr1 z0 z1 z2 z3
        have HLZ : Hid ((Try.prog.info? 27).map (·.size) = some (mixL X2.a X2.dg X2.z).length) := Lib.hid (by rw [mixL_length, HD2.out]; exact size38)
        have KA := Lib.hid (And.intro (Mx.range HR5.out.own) (row4 HZ5.out).2.2.2.1)
        have HMC := Lib.hid (show (mixL X2.a X2.dg X2.z).toArray = mixC X2.a X2.dg X2.z from rfl)
        obtain ⟨L, hL⟩ : ∃ L, mixL X2.a X2.dg X2.z = L := ⟨_, rfl⟩
        rw [hL] at KA HLZ HMC
        have HLT := Lib.hid hL
        have HR5d := Lib.hid (HR5.out.later (Below.refl _ _).drew)
        clear hL
        refine wp_region_held_drew (S := (fun W => W.rangeAt w2.heap.size 0 L ∧ W.cell? ⟨w1.heap.size, 3, none⟩ = some (.int .i64 x))) (by kernel_rfl) KA.out (fun hHeld => ?_)
        refine take_at 0 rfl (by kernel_rfl) (by kernel_rfl) (by kernel_rfl) (fun _ _ _ h => h) (yieldsIf_load_mid (by rfl) _ _ rfl _ _ rfl _ _ (fun _ h => h.1) Try.underlying27 rfl HLZ.out) (by assumption) ?_
        (try simp only [Act.put, List.setIfInBounds_toArray, List.set_cons_zero, List.set_cons_succ])
        refine take_at 1 (v := ?vv2) rfl (by kernel_rfl) (by kernel_rfl) (by kernel_rfl) (fun _ _ _ h => h) (Or.inl ⟨by rfl, ?hy2⟩) (by assumption) ?rest2
        case hy2 => intro w hSw; (try dsimp only at hSw); go_simp; (try with_reducible rfl)
        (try simp only [Act.put, List.setIfInBounds_toArray, List.set_cons_zero, List.set_cons_succ])
        refine take_at 2 (v := ?vv3) rfl (by kernel_rfl) (by kernel_rfl) (by kernel_rfl) (fun _ _ _ h => h) (Or.inl ⟨by rfl, ?hy3⟩) (by assumption) ?rest3
        case hy3 => intro w hSw; (try dsimp only at hSw); go_simp; (try with_reducible rfl)
        (try simp only [Act.put, List.setIfInBounds_toArray, List.set_cons_zero, List.set_cons_succ])
        refine ready_at 3 rfl (by kernel_rfl) (fun K hK => ?_)
        rw [if_pos (by rfl)]
        rw [HMC.out]
        refine wp_store_row 27 _ _ rfl w.heap.size _ rfl rfl 27 _ HR5d.out.out (Rq.sizeOf X2 HD2.out) (Rq.sizes rq0 X2 rfl HD2.out) (Rq.one X2) ?_
        generalize hwZ : World.setRow _ _ _ = wZ
        have HZ : Hid (Rd w wZ w.heap.size w2.heap.size X2 X2) := Lib.hid (by rw [← hwZ]; exact HR5d.out.ans X2 HD2.out)
        have HZK := Lib.hid (keep_row hwZ)
        have KB : Hid (wZ.rangeAt w2.heap.size 0 L ∧ wZ.cell? ⟨w1.heap.size, 3, none⟩ = some (.int .i64 x)) := Lib.hid ⟨by rw [← HLT.out]; exact Mx.range HZ.out.own, (row4 ((HZK.out _ (by have h1 := HS1.out; omega)).trans HZ5.out)).2.2.2.1⟩
        clear hwZ
        refine hK.out _ _ ?hS4 (fun hHeld => ?rest4)
        case hS4 => exact KB.out
        clear hK K
        (try simp only [Act.put, List.setIfInBounds_toArray, List.set_cons_zero, List.set_cons_succ])
        refine take_at 4 (v := ?vv5) rfl (by kernel_rfl) (by kernel_rfl) (by kernel_rfl) (fun _ _ _ h => h) (Or.inl ⟨by rfl, ?hy5⟩) (by assumption) ?rest5
        case hy5 => intro w hSw; (try dsimp only at hSw); go_simp; (try with_reducible rfl)
        (try simp only [Act.put, List.setIfInBounds_toArray, List.set_cons_zero, List.set_cons_succ])
        refine take_at 5 (v := ?vv6) rfl (by kernel_rfl) (by kernel_rfl) (by kernel_rfl) (fun _ _ _ h => h) (Or.inl ⟨by rfl, ?hy6⟩) (by assumption) ?rest6
        case hy6 => intro w hSw; (try dsimp only at hSw); go_simp; (try with_reducible rfl)
        (try simp only [Act.put, List.setIfInBounds_toArray, List.set_cons_zero, List.set_cons_succ])
        refine wpAnyH_done (by kernel_rfl) ?_ _
        go_wp2
        refine bodyPost_ret (HZ.out.out.res3 HZ.out.dy rfl _ rfl) rfl ?_
        refine RpQ.of X2 ?_ HRE.out.symm ?_ ?_ HZ.out.le
        · rw [HRN.out, HRE.out, if_pos rfl]
        · refine HXO.out _ (HO2.out.keepg fun g hg hg2 => ?_)
          rw [HZK.out g (by have h1 := HS1.out; have h2 := HSF.out; omega), show w5.drew.heap[g]? = w5.heap[g]? from rfl, HK5.out g (by omega), HB4.out.block g (by have h3 := HR3.out.gt; omega), HK3.out g hg2]
        · rw [HXR.out, HRR.out, HRE.out, if_pos rfl, HRD]
      · have hne : (R != 0) = true := by simpa using hz
        have HLD := Lib.hid fun W (hW : Below w3.heap.size w3 W) => (HR3.out.later hW).own.load HF2.out.dg.1
        go_wp2_with (first
          | (refine wpList_build_is rfl 27 _ rfl (mixC rq0.a rq0.dg rq0.z) ?_ ?_; kernel_rfl)
          | (refine wpList_ld rfl _ _ rfl _ rfl _ (HLD.out _ (Below.refl _ _)) ?_)
          | (refine wpList_ld rfl _ _ rfl _ rfl _ (HLD.out _ HB4.out) ?_)
          | (go_at_call 11; (fail_if_success (have hh := HB4.out)); refine (HRI.out _).mono ?_; rintro e w4 ⟨rfl, hb4⟩; have HB4 := Lib.hid hb4; clear hb4)
          | (go_at_call 11; refine (HRI.out _).mono ?_; rintro e w5 ⟨rfl, hb5⟩; have HB5 := Lib.hid (below_step HB4.out hb5); have HR5 := Lib.hid (HR3.out.later HB5.out); clear hb5)
          | (refine wpList_store_row rfl 27 _ _ rfl w.heap.size _ rfl rfl 27 _ HR5.out.out (Rq.sizeOf rq0 rfl) (Rq.sizes rq0 rq0 rfl rfl) rq0.one ?_; generalize hwZ : World.setRow _ _ _ = wZ; have HZ : Hid (Rd w wZ w.heap.size w2.heap.size rq0 X) := Lib.hid (by rw [← hwZ]; exact HR5.out.ans rq0 rfl); clear hwZ))
        refine bodyPost_ret (HZ.out.out.res3 HZ.out.dy rfl _ rfl) rfl ?_
        exact RpQ.no HRE.out.symm hz HZ.out.le
  · have hne : (E != 0) = true := by simpa using hE
    rw [if_pos hE] at HRE
    go_wp2_with (first
      | (refine wpList_build_is rfl 27 _ rfl (mixC rq0.a rq0.dg rq0.z) ?_ ?_; kernel_rfl)
      | (refine wpList_store_row rfl 27 _ _ rfl w.heap.size _ rfl rfl 27 _ HAF.out (Rq.sizeOf rq0 rfl) (Rq.sizes rq0 rq0 rfl rfl) rq0.one ?_; generalize hwZ : World.setRow _ _ _ = wZ; have HZ : Hid (Rm wZ w.heap.size rq0) := Lib.hid (by rw [← hwZ]; exact HAF.out.row); have HZB : Hid (Below w.heap.size w wZ) := Lib.hid (by rw [← hwZ]; exact below_setRow8 HBF.out _ _ (Nat.le_refl _)); clear hwZ))
    refine bodyPost_ret (HZ.out.res3 rfl rfl _ rfl) rfl ?_
    exact RpQ.no HRE.out.symm hE HZB.out
end Go.Proofs.Ythnlfgaljkfhaaa

namespace Go.Proofs.Ythnlfgaljkfhaaa
set_option linter.unusedVariables false
open Go.RowKit Go.Lib

set_option maxRecDepth 100000 in
set_option maxHeartbeats 1000000 in
theorem rsame14_any (x y : Rq) (w : World) (hx : x.Fit w) (hy : y.Fit w) (he : x.rc = y.rc) (hn : x.n ≤ maxLen) :
    Calls Try.prog 18 #[x.v, y.v] w fun e w' => e = .returned (.bool true) ∧ Below w.heap.size w w' := by
  obtain ⟨wA, hA⟩ : ∃ W, w.alloc (.cells (mixC x.a x.dg x.z) 27) = W := ⟨_, rfl⟩
  obtain ⟨wB, hB⟩ : ∃ W, wA.alloc (.cells (mixC y.a y.dg y.z) 27) = W := ⟨_, rfl⟩
  have hsA : wA.heap.size = w.heap.size + 1 := by rw [← hA]; simp
  have hmA : Rm wA w.heap.size x := by rw [← hA]; exact Rm.new w x
  have hbA : Below w.heap.size w wA := by rw [← hA]; exact (Below.refl _ _).alloc (Nat.le_refl _) _
  have hbB : Below wA.heap.size wA wB := by rw [← hB]; exact (Below.refl _ _).alloc (Nat.le_refl _) _
  have hmX : Rm wB w.heap.size x := hmA.later hbB
  have hmY : Rm wB wA.heap.size y := by rw [← hB]; exact Rm.new wA y
  have HB := Lib.hid (below_step hbA hbB)
  have HX := Lib.hid (hx.bs.later HB.out)
  have HY := Lib.hid (hy.bs.later HB.out)
  have HNY : Hid (y.n ≤ maxLen) := Lib.hid (Nat.le_trans hy.nc hy.cm)
  have HNX := Lib.hid hn
  have HLX := Lib.hid fun W (hW : Below wB.heap.size wB W) => Mx.loadDig (P := Try.prog) (hmX.later hW) 24 Try.underlying24 rfl (by rw [hx.dg.1]; exact size32) 2 rfl
  have HLY := Lib.hid fun W (hW : Below wB.heap.size wB W) => Mx.loadDig (P := Try.prog) (hmY.later hW) 24 Try.underlying24 rfl (by rw [hy.dg.1]; exact size32) 2 rfl
  have HCX := Lib.hid fun W (hW : Below wB.heap.size wB W) => (hmX.later hW).cells hx.dg.1
  have HCY := Lib.hid fun W (hW : Below wB.heap.size wB W) => (hmY.later hW).cells hy.dg.1
  obtain ⟨c0, c1, c34, c35, _, _⟩ := HCX.out _ (Below.refl _ _)
  obtain ⟨d0, d1, d34, d35, _, _⟩ := HCY.out _ (Below.refl _ _)
  have heq := fun W => digest_eq x.dg x.dg hx.dg hx.dg W
  unfold Rq.v
  obtain ⟨k, s, dg, nm, p, n, c, da, N, Z⟩ := x
  obtain ⟨k', s', dg', nm', p', n', c', da', N', Z'⟩ := y
  unfold Rq.rc at he
  dsimp only at *
  simp only [Rc.mk.injEq] at he
  obtain ⟨rfl, rfl, rfl, hnm, rfl, rfl, rfl⟩ := he
  obtain rfl := numsOf_inj hnm
  rw [decide_eq_true (rfl : dg = dg)] at heq
  generalize mixC _ _ _ = M at *
  generalize mixC _ _ _ = M' at *
  clear hx hy hnm hmA hmX hmY hbA hbB hn hsA
  go_enter Try.func18, Try.ntmps18
  go_wp2_with (first
    | (refine wpList_wanted (by rfl) fun K hK => wp_ld 24 _ rfl _ rfl _ (HLX.out _ (Below.refl _ _)) (hK _ _ ?_); clear hK K)
    | (refine wpList_wanted (by rfl) fun K hK => wp_ld 24 _ rfl _ rfl _ (HLY.out _ (Below.refl _ _)) (hK _ _ ?_); clear hK K)
    | (go_at_call 9; refine (same_any _ _ _ _ _ _ da da _ HNX.out HNY.out HX.out HY.out).mono ?_; rintro e wS ⟨rfl, q, hq⟩; rw [decide_eq_true (rfl : da = da)]; have HBS : Hid (Below wB.heap.size wB wS) := Lib.hid (by rw [hq]; exact below_drewN (Below.refl _ _) _); obtain ⟨_, _, _, _, e36, e37⟩ := HCX.out _ HBS.out; obtain ⟨_, _, _, _, f36, f37⟩ := HCY.out _ HBS.out; clear hq))
  go_ret
  exact ⟨rfl, below_step HB.out HBS.out⟩

theorem Rm.res1 {fn : Func} {p : Tmp} {w : World} {g : Nat} {x : Rq} (hg : Rm w g x) (hd : x.dg.length = 32) (h : fn.results = #[.cell p 27]) (tmps : Array Value)
    (hp : tmps.getD p undef = .pointer (some ⟨g, 0, none⟩)) : (Go.results fn tmps).run Try.prog w = .ok x.v w :=
  results_cell_row h tmps w g _ _ _ _ hp hg Try.underlying27 rfl (x.sizeOf hd)
def bareQ (x : Rq) : Rq := ⟨x.k, x.s, if x.k ≤ 3 ∨ x.k = 5 then x.dg else dg0, if x.k = 3 ∨ x.k = 4 then x.nm else ⟨#[]⟩, if x.k ≤ 2 then x.p else none, if x.k ≤ 2 then x.n else 0, if x.k ≤ 2 then x.c else 0, if x.k ≤ 2 then x.da else [], if x.k ≥ 6 then x.N else 0, if x.k = 6 ∨ x.k = 8 then x.Z else 0⟩
def rqKS (k s : Int) : Rq := { rq0 with k := k, s := s }

set_option maxRecDepth 100000 in
set_option maxHeartbeats 4000000 in
theorem rbareQ_any (x : Rq) (w : World) (hx : x.Fit w) (hk : 1 ≤ x.k ∧ x.k ≤ 8) :
    Calls Try.prog 20 #[x.v] w fun e w' => ∃ y : Rq, e = .returned y.v ∧ y.Fit w' ∧ y.rc = bareN x.rc ∧ Below w.heap.size w w' ∧ y = bareQ x := by
  obtain ⟨wA, hA, hm, hb, c0, c1, c34, c35, c36, c37⟩ := box_rec w x hx.dg.1
  have hsA : wA.heap.size = w.heap.size + 1 := by rw [← hA]; simp
  have HX := Lib.hid hx
  have HBX := Lib.hid fun W (hW : W.heap[w.heap.size]? = wA.heap[w.heap.size]?) => show Rm W w.heap.size x from Mx.keep hm hW
  have HB := Lib.hid hb
  have HSA := Lib.hid hsA
  have HNW : Hid (∀ Z : Obj, ((wA.alloc Z).alloc Z).heap[w.heap.size + 1 + 1]? = some Z) := Lib.hid fun Z => by rw [← hsA]; exact heap_alloc2_new _ _ _
  have HFT := Lib.hid fun W (hW : Below w.heap.size w W) => hx.later hW
  have HBN := Lib.hid (show bareN x.rc = _ from rfl)
  unfold bareN Rq.rc at HBN
  dsimp only at HBN
  generalize hBN : bareN x.rc = R at *
  replace HBN : Hid (R = ⟨x.k, x.s, if x.k ≤ 3 ∨ x.k = 5 then x.dg else dg0, if x.k = 3 ∨ x.k = 4 then numsOf x.nm else [], if x.k ≤ 2 then x.da else [], if x.k ≥ 6 then x.N else 0, if x.k = 6 ∨ x.k = 8 then x.Z else 0⟩) := Lib.hid (by rw [← hBN]; rfl)
  have HD := Lib.hid hx.dg
  have hs := hx.s
  have hN := hx.N
  have hZ := hx.Z
  unfold Rq.v
  obtain ⟨k, s, dg, nm, p, n, c, da, N, Z⟩ := x
  dsimp only at *
  generalize hM : mixC _ _ _ = M at *
  clear hM hx hm hb c34 c35 c36 c37 hBN
  go_enter Try.func20, Try.ntmps20
  go_upto_region 3 with (first
    | (refine wpList_build_is rfl 27 _ rfl (mixC (rqKS k s).a (rqKS k s).dg (rqKS k s).z) ?_ ?_; kernel_rfl)
    | (refine wpList_store_row rfl 27 _ _ rfl (w.heap.size + 1 + 1) _ rfl rfl 27 _ (HNW.out _) ((rqKS k s).sizeOf rfl) (Rq.sizes rq0 (rqKS k s) rfl rfl) (rqKS k s).one ?_; generalize hwS : World.setRow _ _ _ = wS))
  have HR0 : Hid (Rd w wS (w.heap.size + 1) (w.heap.size + 1 + 1) rq0 (rqKS k s)) := Lib.hid (by
    rw [← hwS]
    have h1 : Rd wA ((wA.alloc (.cells (mixC rq0.a rq0.dg rq0.z) 27)).alloc (.cells (mixC rq0.a rq0.dg rq0.z) 27)) wA.heap.size (wA.heap.size + 1) rq0 rq0 := Rd.start wA
    rw [HSA.out] at h1
    exact Rd.put ⟨h1.ne, by omega, by omega, h1.out, h1.own, below_step HB.out h1.le, h1.dy, h1.dx⟩ (rqKS k s) rfl)
  have HK0 : Hid (wS.heap[w.heap.size]? = wA.heap[w.heap.size]?) := Lib.hid (by rw [keep_row hwS _ (by omega), heap_alloc_old _ _ (by simp; rw [HSA.out]; omega), heap_alloc_old _ _ (by rw [HSA.out]; omega)])
  clear hwS c0 c1
  rcases kinds (k := k) with h | h | rfl | rfl | rfl | rfl | rfl | rfl | rfl | rfl
  · omega
  · omega
  · have HC0 := Lib.hid ((HBX.out wS HK0.out).cells HX.out.dg.1)
    have HLD := Lib.hid (Mx.loadDig (P := Try.prog) (HBX.out wS HK0.out) 24 Try.underlying24 rfl (by rw [HX.out.dg.1]; exact size32) 2 rfl)
    have HTH : Hid (wS.there (w.heap.size + 1 + 1) 2 (bcs dg).size) := Lib.hid (by rw [bcs_size, HD.out.1]; exact Mx.there HR0.out.own 2 32 (by rw [HR0.out.dx]; simp [Rq.a, Rq.z]))
    obtain ⟨w1, hw1⟩ : ∃ W, wS.setCells (w.heap.size + 1 + 1) 2 (bcs dg).toList = W := ⟨_, rfl⟩
    have HK1 : Hid (w1.heap[w.heap.size]? = wA.heap[w.heap.size]?) := Lib.hid ((keep_cells hw1 _ (by omega)).trans HK0.out)
    have HW1 := Lib.hid hw1
    obtain ⟨X1, hX1⟩ : ∃ X, { (rqKS 1 s) with dg := dg } = X := ⟨_, rfl⟩
    have HR1 : Hid (Rd w w1 (w.heap.size + 1) (w.heap.size + 1 + 1) rq0 X1) := Lib.hid (by rw [← hw1, ← hX1]; exact HR0.out.setDg dg HD.out.1)
    have HX1 := Lib.hid hX1
    clear hw1
    clear hX1
    have g2 := ((HBX.out w1 HK1.out).cells HX.out.dg.1).2.2.2.1
    have cl2 := (HR1.out.own.cells HR1.out.dx).2.2.2.1
    have fr2 := HR1.out.own.frozen 35
    obtain ⟨w2, hw2⟩ : ∃ W, w1.setCell ⟨w.heap.size + 1 + 1, 35, none⟩ (.slice p n c) = W := ⟨_, rfl⟩
    have HK2 : Hid (w2.heap[w.heap.size]? = wA.heap[w.heap.size]?) := Lib.hid ((keep_cell hw2 _ (by omega)).trans HK1.out)
    obtain ⟨X2, hX2⟩ : ∃ X, { X1 with p := p, n := n, c := c, da := da } = X := ⟨_, rfl⟩
    have HR2 : Hid (Rd w w2 (w.heap.size + 1) (w.heap.size + 1 + 1) rq0 X2) := Lib.hid (by rw [← hw2, ← hX2]; exact HR1.out.setDa p n c da)
    have HX2 := Lib.hid hX2
    clear hX2
    clear HC0
    go_wp2_with (first
        | (refine wpList_ld rfl _ _ rfl _ rfl _ HLD.out ?_)
        | (refine wpList_store_mid rfl 24 _ _ rfl (w.heap.size + 1 + 1) 2 _ rfl rfl HTH.out (by rw [bcs_size, HD.out.1]; exact size32) (bcs_one _) ?_; rw [HW1.out])
        | (refine wpList_ld rfl _ _ rfl _ rfl _ (HR2.out.own.load HR2.out.dx) ?_)
        | (refine wpList_store_row rfl 27 _ _ rfl (w.heap.size + 1) _ rfl rfl 27 _ HR2.out.out (Rq.sizeOf X2 HR2.out.dx) (Rq.sizes rq0 X2 rfl HR2.out.dx) (Rq.one X2) ?_; generalize hwZ : World.setRow _ _ _ = wZ; have HZ : Hid (Rd w wZ (w.heap.size + 1) (w.heap.size + 1 + 1) X2 X2) := Lib.hid (by rw [← hwZ]; exact HR2.out.ans X2 HR2.out.dx); clear hwZ))
    refine bodyPost_ret (HZ.out.out.res1 HZ.out.dy rfl _ rfl) rfl ?_
    exact ⟨X2, rfl, by rw [← HX2.out, ← HX1.out]; exact ⟨(HFT.out _ HZ.out.le).bs, HX.out.pc, HX.out.nc, HX.out.cm, HD.out, (Nat.zero_le 140737488355328 : (0 : Nat) ≤ 140737488355328), hs, by show _ ≤ (1 : Int) ∧ (1 : Int) ≤ _; omega, i64_zero, i64_zero⟩, by rw [HBN.out, ← HX2.out, ← HX1.out]; unfold Rq.rc; simp [rqKS, rq0, dg0]; try rfl, HZ.out.le, by rw [← HX2.out, ← HX1.out]; simp [bareQ, rqKS, rq0]⟩
  · have HC0 := Lib.hid ((HBX.out wS HK0.out).cells HX.out.dg.1)
    have HLD := Lib.hid (Mx.loadDig (P := Try.prog) (HBX.out wS HK0.out) 24 Try.underlying24 rfl (by rw [HX.out.dg.1]; exact size32) 2 rfl)
    have HTH : Hid (wS.there (w.heap.size + 1 + 1) 2 (bcs dg).size) := Lib.hid (by rw [bcs_size, HD.out.1]; exact Mx.there HR0.out.own 2 32 (by rw [HR0.out.dx]; simp [Rq.a, Rq.z]))
    obtain ⟨w1, hw1⟩ : ∃ W, wS.setCells (w.heap.size + 1 + 1) 2 (bcs dg).toList = W := ⟨_, rfl⟩
    have HK1 : Hid (w1.heap[w.heap.size]? = wA.heap[w.heap.size]?) := Lib.hid ((keep_cells hw1 _ (by omega)).trans HK0.out)
    have HW1 := Lib.hid hw1
    obtain ⟨X1, hX1⟩ : ∃ X, { (rqKS 2 s) with dg := dg } = X := ⟨_, rfl⟩
    have HR1 : Hid (Rd w w1 (w.heap.size + 1) (w.heap.size + 1 + 1) rq0 X1) := Lib.hid (by rw [← hw1, ← hX1]; exact HR0.out.setDg dg HD.out.1)
    have HX1 := Lib.hid hX1
    clear hw1
    clear hX1
    have g2 := ((HBX.out w1 HK1.out).cells HX.out.dg.1).2.2.2.1
    have cl2 := (HR1.out.own.cells HR1.out.dx).2.2.2.1
    have fr2 := HR1.out.own.frozen 35
    obtain ⟨w2, hw2⟩ : ∃ W, w1.setCell ⟨w.heap.size + 1 + 1, 35, none⟩ (.slice p n c) = W := ⟨_, rfl⟩
    have HK2 : Hid (w2.heap[w.heap.size]? = wA.heap[w.heap.size]?) := Lib.hid ((keep_cell hw2 _ (by omega)).trans HK1.out)
    obtain ⟨X2, hX2⟩ : ∃ X, { X1 with p := p, n := n, c := c, da := da } = X := ⟨_, rfl⟩
    have HR2 : Hid (Rd w w2 (w.heap.size + 1) (w.heap.size + 1 + 1) rq0 X2) := Lib.hid (by rw [← hw2, ← hX2]; exact HR1.out.setDa p n c da)
    have HX2 := Lib.hid hX2
    clear hX2
    clear HC0
    go_wp2_with (first
        | (refine wpList_ld rfl _ _ rfl _ rfl _ HLD.out ?_)
        | (refine wpList_store_mid rfl 24 _ _ rfl (w.heap.size + 1 + 1) 2 _ rfl rfl HTH.out (by rw [bcs_size, HD.out.1]; exact size32) (bcs_one _) ?_; rw [HW1.out])
        | (refine wpList_ld rfl _ _ rfl _ rfl _ (HR2.out.own.load HR2.out.dx) ?_)
        | (refine wpList_store_row rfl 27 _ _ rfl (w.heap.size + 1) _ rfl rfl 27 _ HR2.out.out (Rq.sizeOf X2 HR2.out.dx) (Rq.sizes rq0 X2 rfl HR2.out.dx) (Rq.one X2) ?_; generalize hwZ : World.setRow _ _ _ = wZ; have HZ : Hid (Rd w wZ (w.heap.size + 1) (w.heap.size + 1 + 1) X2 X2) := Lib.hid (by rw [← hwZ]; exact HR2.out.ans X2 HR2.out.dx); clear hwZ))
    refine bodyPost_ret (HZ.out.out.res1 HZ.out.dy rfl _ rfl) rfl ?_
    exact ⟨X2, rfl, by rw [← HX2.out, ← HX1.out]; exact ⟨(HFT.out _ HZ.out.le).bs, HX.out.pc, HX.out.nc, HX.out.cm, HD.out, (Nat.zero_le 140737488355328 : (0 : Nat) ≤ 140737488355328), hs, by show _ ≤ (2 : Int) ∧ (2 : Int) ≤ _; omega, i64_zero, i64_zero⟩, by rw [HBN.out, ← HX2.out, ← HX1.out]; unfold Rq.rc; simp [rqKS, rq0, dg0]; try rfl, HZ.out.le, by rw [← HX2.out, ← HX1.out]; simp [bareQ, rqKS, rq0]⟩
  · have HC0 := Lib.hid ((HBX.out wS HK0.out).cells HX.out.dg.1)
    have HLD := Lib.hid (Mx.loadDig (P := Try.prog) (HBX.out wS HK0.out) 24 Try.underlying24 rfl (by rw [HX.out.dg.1]; exact size32) 2 rfl)
    have HTH : Hid (wS.there (w.heap.size + 1 + 1) 2 (bcs dg).size) := Lib.hid (by rw [bcs_size, HD.out.1]; exact Mx.there HR0.out.own 2 32 (by rw [HR0.out.dx]; simp [Rq.a, Rq.z]))
    obtain ⟨w1, hw1⟩ : ∃ W, wS.setCells (w.heap.size + 1 + 1) 2 (bcs dg).toList = W := ⟨_, rfl⟩
    have HK1 : Hid (w1.heap[w.heap.size]? = wA.heap[w.heap.size]?) := Lib.hid ((keep_cells hw1 _ (by omega)).trans HK0.out)
    have HW1 := Lib.hid hw1
    obtain ⟨X1, hX1⟩ : ∃ X, { (rqKS 3 s) with dg := dg } = X := ⟨_, rfl⟩
    have HR1 : Hid (Rd w w1 (w.heap.size + 1) (w.heap.size + 1 + 1) rq0 X1) := Lib.hid (by rw [← hw1, ← hX1]; exact HR0.out.setDg dg HD.out.1)
    have HX1 := Lib.hid hX1
    clear hw1
    clear hX1
    have g2 := ((HBX.out w1 HK1.out).cells HX.out.dg.1).2.2.1
    have cl2 := (HR1.out.own.cells HR1.out.dx).2.2.1
    have fr2 := HR1.out.own.frozen 34
    obtain ⟨w2, hw2⟩ : ∃ W, w1.setCell ⟨w.heap.size + 1 + 1, 34, none⟩ (.string nm) = W := ⟨_, rfl⟩
    have HK2 : Hid (w2.heap[w.heap.size]? = wA.heap[w.heap.size]?) := Lib.hid ((keep_cell hw2 _ (by omega)).trans HK1.out)
    obtain ⟨X2, hX2⟩ : ∃ X, { X1 with nm := nm } = X := ⟨_, rfl⟩
    have HR2 : Hid (Rd w w2 (w.heap.size + 1) (w.heap.size + 1 + 1) rq0 X2) := Lib.hid (by rw [← hw2, ← hX2]; exact HR1.out.setNm nm)
    have HX2 := Lib.hid hX2
    clear hX2
    clear HC0
    go_wp2_with (first
        | (refine wpList_ld rfl _ _ rfl _ rfl _ HLD.out ?_)
        | (refine wpList_store_mid rfl 24 _ _ rfl (w.heap.size + 1 + 1) 2 _ rfl rfl HTH.out (by rw [bcs_size, HD.out.1]; exact size32) (bcs_one _) ?_; rw [HW1.out])
        | (refine wpList_ld rfl _ _ rfl _ rfl _ (HR2.out.own.load HR2.out.dx) ?_)
        | (refine wpList_store_row rfl 27 _ _ rfl (w.heap.size + 1) _ rfl rfl 27 _ HR2.out.out (Rq.sizeOf X2 HR2.out.dx) (Rq.sizes rq0 X2 rfl HR2.out.dx) (Rq.one X2) ?_; generalize hwZ : World.setRow _ _ _ = wZ; have HZ : Hid (Rd w wZ (w.heap.size + 1) (w.heap.size + 1 + 1) X2 X2) := Lib.hid (by rw [← hwZ]; exact HR2.out.ans X2 HR2.out.dx); clear hwZ))
    refine bodyPost_ret (HZ.out.out.res1 HZ.out.dy rfl _ rfl) rfl ?_
    exact ⟨X2, rfl, by rw [← HX2.out, ← HX1.out]; exact ⟨Bs.empty _ _, fun _ => rfl, Nat.le_refl _, Nat.zero_le _, HD.out, HX.out.nm, hs, by show _ ≤ (3 : Int) ∧ (3 : Int) ≤ _; omega, i64_zero, i64_zero⟩, by rw [HBN.out, ← HX2.out, ← HX1.out]; unfold Rq.rc; simp [rqKS, rq0, dg0]; try rfl, HZ.out.le, by rw [← HX2.out, ← HX1.out]; simp [bareQ, rqKS, rq0]⟩
  · have HC0 := Lib.hid ((HBX.out wS HK0.out).cells HX.out.dg.1)
    have HLD := Lib.hid (Mx.loadDig (P := Try.prog) (HBX.out wS HK0.out) 24 Try.underlying24 rfl (by rw [HX.out.dg.1]; exact size32) 2 rfl)
    have g1 := ((HBX.out wS HK0.out).cells HX.out.dg.1).2.2.1
    have cl1 := (HR0.out.own.cells HR0.out.dx).2.2.1
    have fr1 := HR0.out.own.frozen 34
    obtain ⟨w1, hw1⟩ : ∃ W, wS.setCell ⟨w.heap.size + 1 + 1, 34, none⟩ (.string nm) = W := ⟨_, rfl⟩
    have HK1 : Hid (w1.heap[w.heap.size]? = wA.heap[w.heap.size]?) := Lib.hid ((keep_cell hw1 _ (by omega)).trans HK0.out)
    obtain ⟨X1, hX1⟩ : ∃ X, { (rqKS 4 s) with nm := nm } = X := ⟨_, rfl⟩
    have HR1 : Hid (Rd w w1 (w.heap.size + 1) (w.heap.size + 1 + 1) rq0 X1) := Lib.hid (by rw [← hw1, ← hX1]; exact HR0.out.setNm nm)
    have HX1 := Lib.hid hX1
    clear hX1
    clear HC0
    go_wp2_with (first
        | (refine wpList_ld rfl _ _ rfl _ rfl _ (HR1.out.own.load HR1.out.dx) ?_)
        | (refine wpList_store_row rfl 27 _ _ rfl (w.heap.size + 1) _ rfl rfl 27 _ HR1.out.out (Rq.sizeOf X1 HR1.out.dx) (Rq.sizes rq0 X1 rfl HR1.out.dx) (Rq.one X1) ?_; generalize hwZ : World.setRow _ _ _ = wZ; have HZ : Hid (Rd w wZ (w.heap.size + 1) (w.heap.size + 1 + 1) X1 X1) := Lib.hid (by rw [← hwZ]; exact HR1.out.ans X1 HR1.out.dx); clear hwZ))
    refine bodyPost_ret (HZ.out.out.res1 HZ.out.dy rfl _ rfl) rfl ?_
    exact ⟨X1, rfl, by rw [← HX1.out]; exact ⟨Bs.empty _ _, fun _ => rfl, Nat.le_refl _, Nat.zero_le _, dok_zero, HX.out.nm, hs, by show _ ≤ (4 : Int) ∧ (4 : Int) ≤ _; omega, i64_zero, i64_zero⟩, by rw [HBN.out, ← HX1.out]; unfold Rq.rc; simp [rqKS, rq0, dg0]; try rfl, HZ.out.le, by rw [← HX1.out]; simp [bareQ, rqKS, rq0]⟩
  · have HC0 := Lib.hid ((HBX.out wS HK0.out).cells HX.out.dg.1)
    have HLD := Lib.hid (Mx.loadDig (P := Try.prog) (HBX.out wS HK0.out) 24 Try.underlying24 rfl (by rw [HX.out.dg.1]; exact size32) 2 rfl)
    have HTH : Hid (wS.there (w.heap.size + 1 + 1) 2 (bcs dg).size) := Lib.hid (by rw [bcs_size, HD.out.1]; exact Mx.there HR0.out.own 2 32 (by rw [HR0.out.dx]; simp [Rq.a, Rq.z]))
    obtain ⟨w1, hw1⟩ : ∃ W, wS.setCells (w.heap.size + 1 + 1) 2 (bcs dg).toList = W := ⟨_, rfl⟩
    have HK1 : Hid (w1.heap[w.heap.size]? = wA.heap[w.heap.size]?) := Lib.hid ((keep_cells hw1 _ (by omega)).trans HK0.out)
    have HW1 := Lib.hid hw1
    obtain ⟨X1, hX1⟩ : ∃ X, { (rqKS 5 s) with dg := dg } = X := ⟨_, rfl⟩
    have HR1 : Hid (Rd w w1 (w.heap.size + 1) (w.heap.size + 1 + 1) rq0 X1) := Lib.hid (by rw [← hw1, ← hX1]; exact HR0.out.setDg dg HD.out.1)
    have HX1 := Lib.hid hX1
    clear hw1
    clear hX1
    clear HC0
    go_wp2_with (first
        | (refine wpList_ld rfl _ _ rfl _ rfl _ HLD.out ?_)
        | (refine wpList_store_mid rfl 24 _ _ rfl (w.heap.size + 1 + 1) 2 _ rfl rfl HTH.out (by rw [bcs_size, HD.out.1]; exact size32) (bcs_one _) ?_; rw [HW1.out])
        | (refine wpList_ld rfl _ _ rfl _ rfl _ (HR1.out.own.load HR1.out.dx) ?_)
        | (refine wpList_store_row rfl 27 _ _ rfl (w.heap.size + 1) _ rfl rfl 27 _ HR1.out.out (Rq.sizeOf X1 HR1.out.dx) (Rq.sizes rq0 X1 rfl HR1.out.dx) (Rq.one X1) ?_; generalize hwZ : World.setRow _ _ _ = wZ; have HZ : Hid (Rd w wZ (w.heap.size + 1) (w.heap.size + 1 + 1) X1 X1) := Lib.hid (by rw [← hwZ]; exact HR1.out.ans X1 HR1.out.dx); clear hwZ))
    refine bodyPost_ret (HZ.out.out.res1 HZ.out.dy rfl _ rfl) rfl ?_
    exact ⟨X1, rfl, by rw [← HX1.out]; exact ⟨Bs.empty _ _, fun _ => rfl, Nat.le_refl _, Nat.zero_le _, HD.out, (Nat.zero_le 140737488355328 : (0 : Nat) ≤ 140737488355328), hs, by show _ ≤ (5 : Int) ∧ (5 : Int) ≤ _; omega, i64_zero, i64_zero⟩, by rw [HBN.out, ← HX1.out]; unfold Rq.rc; simp [rqKS, rq0, dg0]; try rfl, HZ.out.le, by rw [← HX1.out]; simp [bareQ, rqKS, rq0]⟩
  · have HC0 := Lib.hid ((HBX.out wS HK0.out).cells HX.out.dg.1)
    have HLD := Lib.hid (Mx.loadDig (P := Try.prog) (HBX.out wS HK0.out) 24 Try.underlying24 rfl (by rw [HX.out.dg.1]; exact size32) 2 rfl)
    have g1 := ((HBX.out wS HK0.out).cells HX.out.dg.1).2.2.2.2.1
    have cl1 := (HR0.out.own.cells HR0.out.dx).2.2.2.2.1
    have fr1 := HR0.out.own.frozen 36
    obtain ⟨w1, hw1⟩ : ∃ W, wS.setCell ⟨w.heap.size + 1 + 1, 36, none⟩ (.int .i64 N) = W := ⟨_, rfl⟩
    have HK1 : Hid (w1.heap[w.heap.size]? = wA.heap[w.heap.size]?) := Lib.hid ((keep_cell hw1 _ (by omega)).trans HK0.out)
    obtain ⟨X1, hX1⟩ : ∃ X, { (rqKS 6 s) with N := N } = X := ⟨_, rfl⟩
    have HR1 : Hid (Rd w w1 (w.heap.size + 1) (w.heap.size + 1 + 1) rq0 X1) := Lib.hid (by rw [← hw1, ← hX1]; exact HR0.out.setN N)
    have HX1 := Lib.hid hX1
    clear hX1
    have g2 := ((HBX.out w1 HK1.out).cells HX.out.dg.1).2.2.2.2.2
    have cl2 := (HR1.out.own.cells HR1.out.dx).2.2.2.2.2
    have fr2 := HR1.out.own.frozen 37
    obtain ⟨w2, hw2⟩ : ∃ W, w1.setCell ⟨w.heap.size + 1 + 1, 37, none⟩ (.int .i64 Z) = W := ⟨_, rfl⟩
    have HK2 : Hid (w2.heap[w.heap.size]? = wA.heap[w.heap.size]?) := Lib.hid ((keep_cell hw2 _ (by omega)).trans HK1.out)
    obtain ⟨X2, hX2⟩ : ∃ X, { X1 with Z := Z } = X := ⟨_, rfl⟩
    have HR2 : Hid (Rd w w2 (w.heap.size + 1) (w.heap.size + 1 + 1) rq0 X2) := Lib.hid (by rw [← hw2, ← hX2]; exact HR1.out.setZ Z)
    have HX2 := Lib.hid hX2
    clear hX2
    clear HC0
    go_wp2_with (first
        | (refine wpList_ld rfl _ _ rfl _ rfl _ (HR2.out.own.load HR2.out.dx) ?_)
        | (refine wpList_store_row rfl 27 _ _ rfl (w.heap.size + 1) _ rfl rfl 27 _ HR2.out.out (Rq.sizeOf X2 HR2.out.dx) (Rq.sizes rq0 X2 rfl HR2.out.dx) (Rq.one X2) ?_; generalize hwZ : World.setRow _ _ _ = wZ; have HZ : Hid (Rd w wZ (w.heap.size + 1) (w.heap.size + 1 + 1) X2 X2) := Lib.hid (by rw [← hwZ]; exact HR2.out.ans X2 HR2.out.dx); clear hwZ))
    refine bodyPost_ret (HZ.out.out.res1 HZ.out.dy rfl _ rfl) rfl ?_
    exact ⟨X2, rfl, by rw [← HX2.out, ← HX1.out]; exact ⟨Bs.empty _ _, fun _ => rfl, Nat.le_refl _, Nat.zero_le _, dok_zero, (Nat.zero_le 140737488355328 : (0 : Nat) ≤ 140737488355328), hs, by show _ ≤ (6 : Int) ∧ (6 : Int) ≤ _; omega, hN, hZ⟩, by rw [HBN.out, ← HX2.out, ← HX1.out]; unfold Rq.rc; simp [rqKS, rq0, dg0]; try rfl, HZ.out.le, by rw [← HX2.out, ← HX1.out]; simp [bareQ, rqKS, rq0]⟩
  · have HC0 := Lib.hid ((HBX.out wS HK0.out).cells HX.out.dg.1)
    have HLD := Lib.hid (Mx.loadDig (P := Try.prog) (HBX.out wS HK0.out) 24 Try.underlying24 rfl (by rw [HX.out.dg.1]; exact size32) 2 rfl)
    have g1 := ((HBX.out wS HK0.out).cells HX.out.dg.1).2.2.2.2.1
    have cl1 := (HR0.out.own.cells HR0.out.dx).2.2.2.2.1
    have fr1 := HR0.out.own.frozen 36
    obtain ⟨w1, hw1⟩ : ∃ W, wS.setCell ⟨w.heap.size + 1 + 1, 36, none⟩ (.int .i64 N) = W := ⟨_, rfl⟩
    have HK1 : Hid (w1.heap[w.heap.size]? = wA.heap[w.heap.size]?) := Lib.hid ((keep_cell hw1 _ (by omega)).trans HK0.out)
    obtain ⟨X1, hX1⟩ : ∃ X, { (rqKS 7 s) with N := N } = X := ⟨_, rfl⟩
    have HR1 : Hid (Rd w w1 (w.heap.size + 1) (w.heap.size + 1 + 1) rq0 X1) := Lib.hid (by rw [← hw1, ← hX1]; exact HR0.out.setN N)
    have HX1 := Lib.hid hX1
    clear hX1
    clear HC0
    go_wp2_with (first
        | (refine wpList_ld rfl _ _ rfl _ rfl _ (HR1.out.own.load HR1.out.dx) ?_)
        | (refine wpList_store_row rfl 27 _ _ rfl (w.heap.size + 1) _ rfl rfl 27 _ HR1.out.out (Rq.sizeOf X1 HR1.out.dx) (Rq.sizes rq0 X1 rfl HR1.out.dx) (Rq.one X1) ?_; generalize hwZ : World.setRow _ _ _ = wZ; have HZ : Hid (Rd w wZ (w.heap.size + 1) (w.heap.size + 1 + 1) X1 X1) := Lib.hid (by rw [← hwZ]; exact HR1.out.ans X1 HR1.out.dx); clear hwZ))
    refine bodyPost_ret (HZ.out.out.res1 HZ.out.dy rfl _ rfl) rfl ?_
    exact ⟨X1, rfl, by rw [← HX1.out]; exact ⟨Bs.empty _ _, fun _ => rfl, Nat.le_refl _, Nat.zero_le _, dok_zero, (Nat.zero_le 140737488355328 : (0 : Nat) ≤ 140737488355328), hs, by show _ ≤ (7 : Int) ∧ (7 : Int) ≤ _; omega, hN, i64_zero⟩, by rw [HBN.out, ← HX1.out]; unfold Rq.rc; simp [rqKS, rq0, dg0]; try rfl, HZ.out.le, by rw [← HX1.out]; simp [bareQ, rqKS, rq0]⟩
  · have HC0 := Lib.hid ((HBX.out wS HK0.out).cells HX.out.dg.1)
    have HLD := Lib.hid (Mx.loadDig (P := Try.prog) (HBX.out wS HK0.out) 24 Try.underlying24 rfl (by rw [HX.out.dg.1]; exact size32) 2 rfl)
    have g1 := ((HBX.out wS HK0.out).cells HX.out.dg.1).2.2.2.2.1
    have cl1 := (HR0.out.own.cells HR0.out.dx).2.2.2.2.1
    have fr1 := HR0.out.own.frozen 36
    obtain ⟨w1, hw1⟩ : ∃ W, wS.setCell ⟨w.heap.size + 1 + 1, 36, none⟩ (.int .i64 N) = W := ⟨_, rfl⟩
    have HK1 : Hid (w1.heap[w.heap.size]? = wA.heap[w.heap.size]?) := Lib.hid ((keep_cell hw1 _ (by omega)).trans HK0.out)
    obtain ⟨X1, hX1⟩ : ∃ X, { (rqKS 8 s) with N := N } = X := ⟨_, rfl⟩
    have HR1 : Hid (Rd w w1 (w.heap.size + 1) (w.heap.size + 1 + 1) rq0 X1) := Lib.hid (by rw [← hw1, ← hX1]; exact HR0.out.setN N)
    have HX1 := Lib.hid hX1
    clear hX1
    have g2 := ((HBX.out w1 HK1.out).cells HX.out.dg.1).2.2.2.2.2
    have cl2 := (HR1.out.own.cells HR1.out.dx).2.2.2.2.2
    have fr2 := HR1.out.own.frozen 37
    obtain ⟨w2, hw2⟩ : ∃ W, w1.setCell ⟨w.heap.size + 1 + 1, 37, none⟩ (.int .i64 Z) = W := ⟨_, rfl⟩
    have HK2 : Hid (w2.heap[w.heap.size]? = wA.heap[w.heap.size]?) := Lib.hid ((keep_cell hw2 _ (by omega)).trans HK1.out)
    obtain ⟨X2, hX2⟩ : ∃ X, { X1 with Z := Z } = X := ⟨_, rfl⟩
    have HR2 : Hid (Rd w w2 (w.heap.size + 1) (w.heap.size + 1 + 1) rq0 X2) := Lib.hid (by rw [← hw2, ← hX2]; exact HR1.out.setZ Z)
    have HX2 := Lib.hid hX2
    clear hX2
    clear HC0
    go_wp2_with (first
        | (refine wpList_ld rfl _ _ rfl _ rfl _ (HR2.out.own.load HR2.out.dx) ?_)
        | (refine wpList_store_row rfl 27 _ _ rfl (w.heap.size + 1) _ rfl rfl 27 _ HR2.out.out (Rq.sizeOf X2 HR2.out.dx) (Rq.sizes rq0 X2 rfl HR2.out.dx) (Rq.one X2) ?_; generalize hwZ : World.setRow _ _ _ = wZ; have HZ : Hid (Rd w wZ (w.heap.size + 1) (w.heap.size + 1 + 1) X2 X2) := Lib.hid (by rw [← hwZ]; exact HR2.out.ans X2 HR2.out.dx); clear hwZ))
    refine bodyPost_ret (HZ.out.out.res1 HZ.out.dy rfl _ rfl) rfl ?_
    exact ⟨X2, rfl, by rw [← HX2.out, ← HX1.out]; exact ⟨Bs.empty _ _, fun _ => rfl, Nat.le_refl _, Nat.zero_le _, dok_zero, (Nat.zero_le 140737488355328 : (0 : Nat) ≤ 140737488355328), hs, by show _ ≤ (8 : Int) ∧ (8 : Int) ≤ _; omega, hN, hZ⟩, by rw [HBN.out, ← HX2.out, ← HX1.out]; unfold Rq.rc; simp [rqKS, rq0, dg0]; try rfl, HZ.out.le, by rw [← HX2.out, ← HX1.out]; simp [bareQ, rqKS, rq0]⟩
theorem rbare_any (x : Rq) (w : World) (hx : x.Fit w) (hk : 1 ≤ x.k ∧ x.k ≤ 8) :
    Calls Try.prog 20 #[x.v] w fun e w' => ∃ y : Rq, e = .returned y.v ∧ y.Fit w' ∧ y.rc = bareN x.rc ∧ Below w.heap.size w w' :=
  (rbareQ_any x w hx hk).mono fun e w' ⟨y, h1, h2, h3, h4, _⟩ => ⟨y, h1, h2, h3, h4⟩
end Go.Proofs.Ythnlfgaljkfhaaa

namespace Go.Proofs.Ythnlfgaljkfhaaa
set_option linter.unusedVariables false
open Go.RowKit Go.Lib

set_option maxRecDepth 100000 in
set_option maxHeartbeats 4000000 in
theorem rword_any (x : Rq) (seg off len : Int) (w : World) (hx : x.Fit w) (hn : x.n ≤ 140737488355328) :
    Calls Try.prog 14 #[x.v, locV seg off len] w fun e w' => e = .returned (wordQ x seg off len).v ∧ Below w.heap.size w w' := by
  obtain ⟨wA, hA, hm, hb, c0, c1, _⟩ := box_rec w x hx.dg.1
  obtain ⟨wB, hB⟩ : ∃ W, wA.alloc (.cells #[.int .i64 seg, .int .i64 off, .int .i64 len] 29) = W := ⟨_, rfl⟩
  obtain ⟨wC, hC⟩ : ∃ W, wB.alloc (.cells (mixC wq0.a wq0.dg wq0.t) 39) = W := ⟨_, rfl⟩
  have hsA : wA.heap.size = w.heap.size + 1 := by rw [← hA]; simp
  have hsB : wB.heap.size = wA.heap.size + 1 := by rw [← hB]; simp
  have hsC : wC.heap.size = wB.heap.size + 1 := by rw [← hC]; simp
  have hbB : Below wA.heap.size wA wB := by rw [← hB]; exact (Below.refl _ _).alloc (Nat.le_refl _) _
  have hbC : Below wB.heap.size wB wC := by rw [← hC]; exact (Below.refl _ _).alloc (Nat.le_refl _) _
  have hrB : wB.heap[wA.heap.size]? = some (.cells #[.int .i64 seg, .int .i64 off, .int .i64 len] 29 (0, 0)) := by rw [← hB]; exact heap_alloc_new _ _
  have hmC : Wm wC wB.heap.size wq0 := by rw [← hC]; exact heap_alloc_new _ _
  obtain ⟨g1, hg1⟩ : ∃ g, wA.heap.size = g := ⟨_, rfl⟩
  obtain ⟨g2, hg2⟩ : ∃ g, wB.heap.size = g := ⟨_, rfl⟩
  obtain ⟨g3, hg3⟩ : ∃ g, wC.heap.size = g := ⟨_, rfl⟩
  have HNW : Hid (∀ Z : Obj, (wC.alloc Z).heap[g3]? = some Z) := Lib.hid fun Z => by rw [← hg3]; exact heap_alloc_new _ _
  have HG : Hid (g1 = w.heap.size + 1 ∧ g2 = g1 + 1 ∧ g3 = g2 + 1) := Lib.hid (by omega)
  have HRC : Hid (Rm wC w.heap.size x) := Lib.hid ((hm.later hbB).later hbC)
  have HBC : Hid (Below w.heap.size w wC) := Lib.hid (below_step (below_step hb hbB) hbC)
  have HMC : Hid (Wm wC g2 wq0) := Lib.hid (by rw [← hg2]; exact hmC)
  have HSC := Lib.hid hg3
  have hrC := row_later hrB hbC
  rw [hg1] at hrC
  obtain ⟨l0, l1, l2, _⟩ := row3 hrC
  obtain ⟨e0, e1, _⟩ := HRC.out.cells hx.dg.1
  have HX := Lib.hid hx
  have HFT := Lib.hid fun W (hW : Below w.heap.size w W) => hx.later hW
  have HQ : Hid (wordQ x seg off len = _) := Lib.hid (by unfold wordQ; rfl)
  have HBA := Lib.hid fun W (hW : Below w.heap.size w W) (hk : 1 ≤ x.k ∧ x.k ≤ 8) => rbare_any x W (hx.later hW) hk
  have HLC := Lib.hid fun W (hW : W.heap[w.heap.size]? = wC.heap[w.heap.size]?) => Rm.load (show Rm W w.heap.size x from Mx.keep HRC.out hW) hx.dg.1
  obtain ⟨Q, hQ⟩ : ∃ Q, wordQ x seg off len = Q := ⟨_, rfl⟩
  rw [hQ] at HQ ⊢
  rw [wq0C] at hC
  unfold Rq.v at HBA ⊢
  unfold locV
  obtain ⟨k, s, dg, nm, p, n, c, da, N, Z⟩ := x
  dsimp only at *
  generalize hM : mixC (Rq.a _) _ _ = M at *
  clear hM hx hm hb hsA hsB hsC hbB hbC hrB hmC hrC c0 c1 hQ
  go_enter Try.func14, Try.ntmps14
  go_upto_region 2 with (first
    | (refine wpList_build_is rfl 39 _ rfl (mixC (Wq.a ⟨k, s, dg0, ⟨#[]⟩, 0, seg, off, len⟩) dg0 (Wq.t ⟨k, s, dg0, ⟨#[]⟩, 0, seg, off, len⟩)) ?_ ?_; kernel_rfl)
    | (refine wpList_store_row rfl 39 _ _ rfl g3 _ rfl rfl 39 _ (HNW.out _) (Wq.sizeOf ⟨k, s, dg0, ⟨#[]⟩, 0, seg, off, len⟩ rfl) (Wq.sizes wq0 ⟨k, s, dg0, ⟨#[]⟩, 0, seg, off, len⟩ rfl rfl) (Wq.one ⟨k, s, dg0, ⟨#[]⟩, 0, seg, off, len⟩) ?_; generalize hwS : World.setRow _ _ _ = wS))
  have hKS : ∀ g, g ≠ g3 → g < wC.heap.size → wS.heap[g]? = wC.heap[g]? := fun g h1 h2 => (keep_row hwS g h1).trans (heap_alloc_old wC _ h2)
  have HKS := Lib.hid hKS
  have HWS : Hid (Wm wS g3 ⟨k, s, dg0, ⟨#[]⟩, 0, seg, off, len⟩) := Lib.hid (by rw [← hwS]; exact Mx.row (show Wm (wC.alloc (.cells (mixC wq0.a wq0.dg wq0.t) 39)) g3 wq0 from HNW.out _))
  have HBS : Hid (Below w.heap.size w wS) := Lib.hid (by rw [← hwS]; exact below_setRow8 (HBC.out.alloc HBC.out.size _) _ _ (by have := HG.out; omega))
  have HSS : Hid (wS.heap.size = g3 + 1) := Lib.hid (by rw [← hwS]; simp [HSC.out])
  have hk0 : w.heap.size ≠ g3 ∧ w.heap.size < wC.heap.size ∧ g2 ≠ g3 ∧ g2 < wC.heap.size := by have := HG.out; have := HSC.out; omega
  have HZS : Hid (Wm wS g2 wq0) := Lib.hid (Mx.keep HMC.out (HKS.out g2 hk0.2.2.1 hk0.2.2.2))
  have HRS : Hid (Rm wS w.heap.size _) := Lib.hid (Mx.keep HRC.out (HKS.out _ hk0.1 hk0.2.1))
  have HLS := Lib.hid (HLC.out wS (HKS.out _ hk0.1 hk0.2.1))
  obtain ⟨e0, e1, _⟩ := HRS.out.cells HX.out.dg.1
  clear hwS hKS hk0 l0 l1 l2
  by_cases hk : k < 1 ∨ k > 8
  · replace HQ : Hid (Q = ⟨k, s, dg0, ⟨#[]⟩, 0, seg, off, len⟩) := Lib.hid (by rw [HQ.out, if_pos hk])
    by_cases h1 : k < 1
    · go_wp2_with (first
        | (refine wpList_ld rfl _ _ rfl _ rfl _ (HWS.out.load rfl) ?_)
        | (refine wpList_store_row rfl 39 _ _ rfl g2 _ rfl rfl 39 _ HZS.out (Wq.sizeOf ⟨k, s, dg0, ⟨#[]⟩, 0, seg, off, len⟩ rfl) (Wq.sizes wq0 ⟨k, s, dg0, ⟨#[]⟩, 0, seg, off, len⟩ rfl rfl) (Wq.one ⟨k, s, dg0, ⟨#[]⟩, 0, seg, off, len⟩) ?_; generalize hwZ : World.setRow _ _ _ = wZ))
      have HZ : Wm wZ g2 ⟨k, s, dg0, ⟨#[]⟩, 0, seg, off, len⟩ := by rw [← hwZ]; exact Mx.row HZS.out
      refine bodyPost_ret (HZ.res1 rfl rfl _ rfl) rfl ?_
      exact ⟨by rw [HQ.out], by rw [← hwZ]; exact below_setRow8 HBS.out _ _ (by have := HG.out; omega)⟩
    · have h8 : k > 8 := by omega
      clear hk
      go_wp2_with (first
        | (refine wpList_ld rfl _ _ rfl _ rfl _ (HWS.out.load rfl) ?_)
        | (refine wpList_store_row rfl 39 _ _ rfl g2 _ rfl rfl 39 _ HZS.out (Wq.sizeOf ⟨k, s, dg0, ⟨#[]⟩, 0, seg, off, len⟩ rfl) (Wq.sizes wq0 ⟨k, s, dg0, ⟨#[]⟩, 0, seg, off, len⟩ rfl rfl) (Wq.one ⟨k, s, dg0, ⟨#[]⟩, 0, seg, off, len⟩) ?_; generalize hwZ : World.setRow _ _ _ = wZ))
      have HZ : Wm wZ g2 ⟨k, s, dg0, ⟨#[]⟩, 0, seg, off, len⟩ := by rw [← hwZ]; exact Mx.row HZS.out
      refine bodyPost_ret (HZ.res1 rfl rfl _ rfl) rfl ?_
      exact ⟨by rw [HQ.out], by rw [← hwZ]; exact below_setRow8 HBS.out _ _ (by have := HG.out; omega)⟩
  · have hk1 : 1 ≤ k ∧ k ≤ 8 := by omega
    have h1 : ¬ k < 1 := by omega
    have h8 : ¬ k > 8 := by omega
    rw [if_neg hk] at HQ
    have HBR := Lib.hid (HBA.out wS HBS.out hk1)
    clear hk HBA
    go_upto_region 5 with (first
      | (refine wpList_ld rfl _ _ rfl _ rfl _ HLS.out ?_)
      | (go_at_call 20; refine HBR.out.mono ?_; rintro e w1 ⟨y, rfl, hf1, he1, hb1⟩; have HF1 := Lib.hid hf1; have HE1 := Lib.hid he1; have HB1 := Lib.hid hb1; clear hf1 he1 hb1)
      | (refine wpList_store_row rfl 27 _ _ rfl w1.heap.size _ rfl rfl 27 _ (heap_alloc_new _ _) (Rq.sizeOf y HF1.out.dg.1) (Rq.sizes rq0 y rfl HF1.out.dg.1) y.one ?_; generalize hw2 : World.setRow _ _ _ = w2))
    have HY2 : Hid (Rm w2 w1.heap.size y) := Lib.hid (by rw [← hw2]; exact Mx.row (show Rm (w1.alloc (.cells (mixC rq0.a rq0.dg rq0.z) 27)) w1.heap.size rq0 from heap_alloc_new _ _))
    have HK2 : Hid (∀ g, g < wS.heap.size → w2.heap[g]? = wS.heap[g]?) := Lib.hid fun g hg => ((keep_row hw2 g (by have := HB1.out.size; omega)).trans (heap_alloc_old w1 _ (by have := HB1.out.size; omega))).trans (HB1.out.block g hg)
    have HB2 : Hid (Below w.heap.size w w2) := Lib.hid (by rw [← hw2]; exact below_setRow8 ((below_step HBS.out HB1.out).alloc (below_step HBS.out HB1.out).size _) _ _ (below_step HBS.out HB1.out).size)
    have HG2 : Hid (g3 < w1.heap.size ∧ g2 < g3 ∧ w.heap.size ≤ g2 ∧ g3 < wS.heap.size) := Lib.hid (by have h1 := HB1.out.size; have h2 := HSS.out; have h3 := HG.out; omega)
    have HW2 : Hid (Wm w2 g3 ⟨k, s, dg0, ⟨#[]⟩, 0, seg, off, len⟩) := Lib.hid (Mx.keep HWS.out (HK2.out _ HG2.out.2.2.2))
    have HZ2 : Hid (Wm w2 g2 wq0) := Lib.hid (Mx.keep HZS.out (HK2.out _ (by have := HG2.out; omega)))
    have hw2 := hw2
    clear hw2
    have he := HE1.out
    have HQ2 : Hid (Q = ⟨k, s, y.dg, y.nm, (y.n : Int) + y.Z, seg, off, len⟩ ∧ IntKind.i64.wrap ((y.n : Int) + y.Z) = (y.n : Int) + y.Z) := Lib.hid (by
      have d1 := congrArg Rc.dg he
      have d2 := congrArg Rc.nm he
      have d3 := congrArg Rc.da he
      have d4 := congrArg Rc.z he
      have d5 := HF1.out.bs.len
      have d6 := HX.out.bs.len
      have d7 := HX.out.Z
      unfold bareN Rq.rc at d1 d2 d3 d4
      dsimp only at d1 d2 d3 d4 d6 d7
      have d8 : y.nm = if k = 3 ∨ k = 4 then nm else ⟨#[]⟩ := numsOf_inj (by rw [d2]; split <;> rfl)
      have d9 : y.n = if k ≤ 2 then n else 0 := by rw [← d5, d3]; split <;> simp [d6]
      have d10 : (y.n : Int) + y.Z = if k ≤ 2 then (n : Int) else if k = 6 ∨ k = 8 then Z else 0 := by
        rw [d9, d4]
        split
        · rw [if_neg (by omega)]; omega
        · simp
      refine ⟨?_, ?_⟩
      · rw [HQ.out, d1, d8, d10]
      · rw [d10]
        simp only [IntKind.wrap, IntKind.bits, IntKind.signed]
        split
        · simp; omega
        · split <;> simp <;> omega)
    clear he
    have hwr := HQ2.out.2
    have HLY := Lib.hid (Mx.loadDig (P := Try.prog) HY2.out 24 Try.underlying24 rfl (by rw [HF1.out.dg.1]; exact size32) 2 rfl)
    obtain ⟨w3, hw3⟩ : ∃ W, w2.setCells g3 2 (bcs y.dg).toList = W := ⟨_, rfl⟩
    have HY3 : Hid (Rm w3 w1.heap.size y) := Lib.hid (Mx.keep HY2.out (keep_cells hw3 _ (by have := HG2.out; omega)))
    have HW3 : Hid (Wm w3 g3 ⟨k, s, y.dg, ⟨#[]⟩, 0, seg, off, len⟩) := Lib.hid (by rw [← hw3]; exact HW2.out.setDg rfl y.dg HF1.out.dg.1)
    have HZ3 : Hid (Wm w3 g2 wq0) := Lib.hid (Mx.keep HZ2.out (keep_cells hw3 _ (by have := HG2.out; omega)))
    have HB3 : Hid (Below w.heap.size w w3) := Lib.hid (by rw [← hw3]; exact below_setCells (by have := HG2.out; omega) _ _ _ HB2.out)
    have HTH : Hid (w2.there g3 2 (bcs y.dg).size) := Lib.hid (by rw [bcs_size, HF1.out.dg.1]; exact Mx.there HW2.out 2 32 (by simp [Wq.a, Wq.t, dg0]))
    have hnm := (HY3.out.cells HF1.out.dg.1).2.2.1
    have cl34 := (HW3.out.cells HF1.out.dg.1).1
    have fr34 := Mx.frozen HW3.out 34
    obtain ⟨w4, hw4⟩ : ∃ W, w3.setCell ⟨g3, 34, none⟩ (.string y.nm) = W := ⟨_, rfl⟩
    have HY4 : Hid (Rm w4 w1.heap.size y) := Lib.hid (Mx.keep HY3.out (keep_cell hw4 _ (by have := HG2.out; omega)))
    have HW4 : Hid (Wm w4 g3 ⟨k, s, y.dg, y.nm, 0, seg, off, len⟩) := Lib.hid (by rw [← hw4]; exact HW3.out.setNm HF1.out.dg.1 y.nm)
    have HZ4 : Hid (Wm w4 g2 wq0) := Lib.hid (Mx.keep HZ3.out (keep_cell hw4 _ (by have := HG2.out; omega)))
    have HB4 : Hid (Below w.heap.size w w4) := Lib.hid (by rw [← hw4]; exact HB3.out.setCell (by have := HG2.out; show w.heap.size ≤ g3; omega) _)
    obtain ⟨_, _, _, h35, _, h37⟩ := HY4.out.cells HF1.out.dg.1
    have cl35 := (HW4.out.cells HF1.out.dg.1).2
    have fr35 := Mx.frozen HW4.out 35
    obtain ⟨w5, hw5⟩ : ∃ W, w4.setCell ⟨g3, 35, none⟩ (.int .i64 ((y.n : Int) + y.Z)) = W := ⟨_, rfl⟩
    have HW5 : Hid (Wm w5 g3 ⟨k, s, y.dg, y.nm, (y.n : Int) + y.Z, seg, off, len⟩) := Lib.hid (by rw [← hw5]; exact HW4.out.setZ HF1.out.dg.1 _)
    have HZ5 : Hid (Wm w5 g2 wq0) := Lib.hid (Mx.keep HZ4.out (keep_cell hw5 _ (by have := HG2.out; omega)))
    have HB5 : Hid (Below w.heap.size w w5) := Lib.hid (by rw [← hw5]; exact HB4.out.setCell (by have := HG2.out; show w.heap.size ≤ g3; omega) _)
    have HDY := Lib.hid HF1.out.dg.1
    have HW := Lib.hid hw3
    clear hw3 e0 e1
    go_wp2_with (first
      | (refine wpList_ld rfl _ _ rfl _ rfl _ HLY.out ?_)
      | (refine wpList_store_mid rfl 24 _ _ rfl g3 2 _ rfl rfl HTH.out (by rw [bcs_size, HDY.out]; exact size32) (bcs_one _) ?_; rw [HW.out])
      | (refine wpList_ld rfl _ _ rfl _ rfl _ (HW5.out.load HDY.out) ?_)
      | (refine wpList_store_row rfl 39 _ _ rfl g2 _ rfl rfl 39 _ HZ5.out (Wq.sizeOf ⟨k, s, y.dg, y.nm, (y.n : Int) + y.Z, seg, off, len⟩ HDY.out) (Wq.sizes wq0 ⟨k, s, y.dg, y.nm, (y.n : Int) + y.Z, seg, off, len⟩ rfl HDY.out) (Wq.one ⟨k, s, y.dg, y.nm, (y.n : Int) + y.Z, seg, off, len⟩) ?_; generalize hwZ : World.setRow _ _ _ = wZ))
    have HZ : Wm wZ g2 ⟨k, s, y.dg, y.nm, (y.n : Int) + y.Z, seg, off, len⟩ := by rw [← hwZ]; exact Mx.row HZ5.out
    refine bodyPost_ret (HZ.res1 HDY.out rfl _ rfl) rfl ?_
    exact ⟨by rw [HQ2.out.1], by rw [← hwZ]; exact below_setRow8 HB5.out _ _ (by have := HG2.out; omega)⟩
end Go.Proofs.Ythnlfgaljkfhaaa

namespace Go.Proofs.Ythnlfgaljkfhaaa
set_option linter.unusedVariables false
open Go.RowKit Go.Lib

set_option maxRecDepth 100000 in
set_option maxHeartbeats 4000000 in
theorem own_in (x : Rq) (w : World) (hx : x.Fit w) (hk : 1 ≤ x.k ∧ x.k ≤ 8) :
    Calls Try.prog 21 #[x.v] w fun e w' => ∃ y : Rq, e = .returned y.v ∧ y.Fit w' ∧ y.rc = bareN x.rc ∧ Below w.heap.size w w' ∧ y = bareQ x := by
  obtain ⟨wA, hA, hm, hb, c0, c1, c34, c35, c36, c37⟩ := box_rec w x hx.dg.1
  have hsA : wA.heap.size = w.heap.size + 1 := by rw [← hA]; simp
  have HX := Lib.hid hx
  have HBX := Lib.hid fun W (hW : W.heap[w.heap.size]? = wA.heap[w.heap.size]?) => show Rm W w.heap.size x from Mx.keep hm hW
  have HB := Lib.hid hb
  have HSA := Lib.hid hsA
  have HNW : Hid (∀ Z : Obj, ((wA.alloc Z).alloc Z).heap[w.heap.size + 1 + 1]? = some Z) := Lib.hid fun Z => by rw [← hsA]; exact heap_alloc2_new _ _ _
  have HFT := Lib.hid fun W (hW : Below w.heap.size w W) => hx.later hW
  have HBN := Lib.hid (show bareN x.rc = _ from rfl)
  unfold bareN Rq.rc at HBN
  dsimp only at HBN
  generalize hBN : bareN x.rc = R at *
  replace HBN : Hid (R = ⟨x.k, x.s, if x.k ≤ 3 ∨ x.k = 5 then x.dg else dg0, if x.k = 3 ∨ x.k = 4 then numsOf x.nm else [], if x.k ≤ 2 then x.da else [], if x.k ≥ 6 then x.N else 0, if x.k = 6 ∨ x.k = 8 then x.Z else 0⟩) := Lib.hid (by rw [← hBN]; rfl)
  have HD := Lib.hid hx.dg
  have hs := hx.s
  have hN := hx.N
  have hZ := hx.Z
  unfold Rq.v
  obtain ⟨k, s, dg, nm, p, n, c, da, N, Z⟩ := x
  dsimp only at *
  generalize hM : mixC _ _ _ = M at *
  clear hM hx hm hb c34 c35 c36 c37 hBN
  go_enter Try.func21, Try.ntmps21
  go_upto_region 2 with (first
    | (refine wpList_build_is rfl 27 _ rfl (mixC (rqKS k s).a (rqKS k s).dg (rqKS k s).z) ?_ ?_; kernel_rfl)
    | (refine wpList_store_row rfl 27 _ _ rfl (w.heap.size + 1 + 1) _ rfl rfl 27 _ (HNW.out _) ((rqKS k s).sizeOf rfl) (Rq.sizes rq0 (rqKS k s) rfl rfl) (rqKS k s).one ?_; generalize hwS : World.setRow _ _ _ = wS))
  have HR0 : Hid (Rd w wS (w.heap.size + 1) (w.heap.size + 1 + 1) rq0 (rqKS k s)) := Lib.hid (by
    rw [← hwS]
    have h1 : Rd wA ((wA.alloc (.cells (mixC rq0.a rq0.dg rq0.z) 27)).alloc (.cells (mixC rq0.a rq0.dg rq0.z) 27)) wA.heap.size (wA.heap.size + 1) rq0 rq0 := Rd.start wA
    rw [HSA.out] at h1
    exact Rd.put ⟨h1.ne, by omega, by omega, h1.out, h1.own, below_step HB.out h1.le, h1.dy, h1.dx⟩ (rqKS k s) rfl)
  have HK0 : Hid (wS.heap[w.heap.size]? = wA.heap[w.heap.size]?) := Lib.hid (by rw [keep_row hwS _ (by omega), heap_alloc_old _ _ (by simp; rw [HSA.out]; omega), heap_alloc_old _ _ (by rw [HSA.out]; omega)])
  clear hwS c0 c1
  rcases kinds (k := k) with h | h | rfl | rfl | rfl | rfl | rfl | rfl | rfl | rfl
  · omega
  · omega
  · have HC0 := Lib.hid ((HBX.out wS HK0.out).cells HX.out.dg.1)
    have g1 := ((HBX.out wS HK0.out).cells HX.out.dg.1).2.2.2.1
    have cl1 := (HR0.out.own.cells HR0.out.dx).2.2.2.1
    have fr1 := HR0.out.own.frozen 35
    obtain ⟨w1, hw1⟩ : ∃ W, wS.setCell ⟨w.heap.size + 1 + 1, 35, none⟩ (.slice p n c) = W := ⟨_, rfl⟩
    have HK1 : Hid (w1.heap[w.heap.size]? = wA.heap[w.heap.size]?) := Lib.hid ((keep_cell hw1 _ (by omega)).trans HK0.out)
    obtain ⟨X1, hX1⟩ : ∃ X, { (rqKS 1 s) with p := p, n := n, c := c, da := da } = X := ⟨_, rfl⟩
    have HR1 : Hid (Rd w w1 (w.heap.size + 1) (w.heap.size + 1 + 1) rq0 X1) := Lib.hid (by rw [← hw1, ← hX1]; exact HR0.out.setDa p n c da)
    have HX1 := Lib.hid hX1
    clear hX1
    have HLD := Lib.hid (Mx.loadDig (P := Try.prog) (HBX.out w1 HK1.out) 24 Try.underlying24 rfl (by rw [HX.out.dg.1]; exact size32) 2 rfl)
    have HTH : Hid (w1.there (w.heap.size + 1 + 1) 2 (bcs dg).size) := Lib.hid (by rw [bcs_size, HD.out.1]; exact Mx.there HR1.out.own 2 32 (by rw [HR1.out.dx]; simp [Rq.a, Rq.z]))
    obtain ⟨w2, hw2⟩ : ∃ W, w1.setCells (w.heap.size + 1 + 1) 2 (bcs dg).toList = W := ⟨_, rfl⟩
    have HK2 : Hid (w2.heap[w.heap.size]? = wA.heap[w.heap.size]?) := Lib.hid ((keep_cells hw2 _ (by omega)).trans HK1.out)
    have HWD := Lib.hid hw2
    obtain ⟨X2, hX2⟩ : ∃ X, { X1 with dg := dg } = X := ⟨_, rfl⟩
    have HR2 : Hid (Rd w w2 (w.heap.size + 1) (w.heap.size + 1 + 1) rq0 X2) := Lib.hid (by rw [← hw2, ← hX2]; exact HR1.out.setDg dg HD.out.1)
    have HX2 := Lib.hid hX2
    clear hw2
    clear hX2
    obtain ⟨e0, _⟩ := HC0.out
    clear HC0
    go_wp2_with (first
        | (refine wpList_ld rfl _ _ rfl _ rfl _ HLD.out ?_)
        | (refine wpList_store_mid rfl 24 _ _ rfl (w.heap.size + 1 + 1) 2 _ rfl rfl HTH.out (by rw [bcs_size, HD.out.1]; exact size32) (bcs_one _) ?_; rw [HWD.out])
        | (refine wpList_ld rfl _ _ rfl _ rfl _ (HR2.out.own.load HR2.out.dx) ?_)
        | (refine wpList_store_row rfl 27 _ _ rfl (w.heap.size + 1) _ rfl rfl 27 _ HR2.out.out (Rq.sizeOf X2 HR2.out.dx) (Rq.sizes rq0 X2 rfl HR2.out.dx) (Rq.one X2) ?_; generalize hwZ : World.setRow _ _ _ = wZ; have HZ : Hid (Rd w wZ (w.heap.size + 1) (w.heap.size + 1 + 1) X2 X2) := Lib.hid (by rw [← hwZ]; exact HR2.out.ans X2 HR2.out.dx); clear hwZ))
    refine bodyPost_ret (HZ.out.out.res1 HZ.out.dy rfl _ rfl) rfl ?_
    exact ⟨X2, rfl, by rw [← HX2.out, ← HX1.out]; exact ⟨(HFT.out _ HZ.out.le).bs, HX.out.pc, HX.out.nc, HX.out.cm, HD.out, (Nat.zero_le 140737488355328 : (0 : Nat) ≤ 140737488355328), hs, by show _ ≤ (1 : Int) ∧ (1 : Int) ≤ _; omega, i64_zero, i64_zero⟩, by rw [HBN.out, ← HX2.out, ← HX1.out]; unfold Rq.rc; simp [rqKS, rq0, dg0]; try rfl, HZ.out.le, by rw [← HX2.out, ← HX1.out]; simp [bareQ, rqKS, rq0]⟩
  · have HC0 := Lib.hid ((HBX.out wS HK0.out).cells HX.out.dg.1)
    have g1 := ((HBX.out wS HK0.out).cells HX.out.dg.1).2.2.2.1
    have cl1 := (HR0.out.own.cells HR0.out.dx).2.2.2.1
    have fr1 := HR0.out.own.frozen 35
    obtain ⟨w1, hw1⟩ : ∃ W, wS.setCell ⟨w.heap.size + 1 + 1, 35, none⟩ (.slice p n c) = W := ⟨_, rfl⟩
    have HK1 : Hid (w1.heap[w.heap.size]? = wA.heap[w.heap.size]?) := Lib.hid ((keep_cell hw1 _ (by omega)).trans HK0.out)
    obtain ⟨X1, hX1⟩ : ∃ X, { (rqKS 2 s) with p := p, n := n, c := c, da := da } = X := ⟨_, rfl⟩
    have HR1 : Hid (Rd w w1 (w.heap.size + 1) (w.heap.size + 1 + 1) rq0 X1) := Lib.hid (by rw [← hw1, ← hX1]; exact HR0.out.setDa p n c da)
    have HX1 := Lib.hid hX1
    clear hX1
    have HLD := Lib.hid (Mx.loadDig (P := Try.prog) (HBX.out w1 HK1.out) 24 Try.underlying24 rfl (by rw [HX.out.dg.1]; exact size32) 2 rfl)
    have HTH : Hid (w1.there (w.heap.size + 1 + 1) 2 (bcs dg).size) := Lib.hid (by rw [bcs_size, HD.out.1]; exact Mx.there HR1.out.own 2 32 (by rw [HR1.out.dx]; simp [Rq.a, Rq.z]))
    obtain ⟨w2, hw2⟩ : ∃ W, w1.setCells (w.heap.size + 1 + 1) 2 (bcs dg).toList = W := ⟨_, rfl⟩
    have HK2 : Hid (w2.heap[w.heap.size]? = wA.heap[w.heap.size]?) := Lib.hid ((keep_cells hw2 _ (by omega)).trans HK1.out)
    have HWD := Lib.hid hw2
    obtain ⟨X2, hX2⟩ : ∃ X, { X1 with dg := dg } = X := ⟨_, rfl⟩
    have HR2 : Hid (Rd w w2 (w.heap.size + 1) (w.heap.size + 1 + 1) rq0 X2) := Lib.hid (by rw [← hw2, ← hX2]; exact HR1.out.setDg dg HD.out.1)
    have HX2 := Lib.hid hX2
    clear hw2
    clear hX2
    obtain ⟨e0, _⟩ := HC0.out
    clear HC0
    go_wp2_with (first
        | (refine wpList_ld rfl _ _ rfl _ rfl _ HLD.out ?_)
        | (refine wpList_store_mid rfl 24 _ _ rfl (w.heap.size + 1 + 1) 2 _ rfl rfl HTH.out (by rw [bcs_size, HD.out.1]; exact size32) (bcs_one _) ?_; rw [HWD.out])
        | (refine wpList_ld rfl _ _ rfl _ rfl _ (HR2.out.own.load HR2.out.dx) ?_)
        | (refine wpList_store_row rfl 27 _ _ rfl (w.heap.size + 1) _ rfl rfl 27 _ HR2.out.out (Rq.sizeOf X2 HR2.out.dx) (Rq.sizes rq0 X2 rfl HR2.out.dx) (Rq.one X2) ?_; generalize hwZ : World.setRow _ _ _ = wZ; have HZ : Hid (Rd w wZ (w.heap.size + 1) (w.heap.size + 1 + 1) X2 X2) := Lib.hid (by rw [← hwZ]; exact HR2.out.ans X2 HR2.out.dx); clear hwZ))
    refine bodyPost_ret (HZ.out.out.res1 HZ.out.dy rfl _ rfl) rfl ?_
    exact ⟨X2, rfl, by rw [← HX2.out, ← HX1.out]; exact ⟨(HFT.out _ HZ.out.le).bs, HX.out.pc, HX.out.nc, HX.out.cm, HD.out, (Nat.zero_le 140737488355328 : (0 : Nat) ≤ 140737488355328), hs, by show _ ≤ (2 : Int) ∧ (2 : Int) ≤ _; omega, i64_zero, i64_zero⟩, by rw [HBN.out, ← HX2.out, ← HX1.out]; unfold Rq.rc; simp [rqKS, rq0, dg0]; try rfl, HZ.out.le, by rw [← HX2.out, ← HX1.out]; simp [bareQ, rqKS, rq0]⟩
  · have HC0 := Lib.hid ((HBX.out wS HK0.out).cells HX.out.dg.1)
    have HLD := Lib.hid (Mx.loadDig (P := Try.prog) (HBX.out wS HK0.out) 24 Try.underlying24 rfl (by rw [HX.out.dg.1]; exact size32) 2 rfl)
    have HTH : Hid (wS.there (w.heap.size + 1 + 1) 2 (bcs dg).size) := Lib.hid (by rw [bcs_size, HD.out.1]; exact Mx.there HR0.out.own 2 32 (by rw [HR0.out.dx]; simp [Rq.a, Rq.z]))
    obtain ⟨w1, hw1⟩ : ∃ W, wS.setCells (w.heap.size + 1 + 1) 2 (bcs dg).toList = W := ⟨_, rfl⟩
    have HK1 : Hid (w1.heap[w.heap.size]? = wA.heap[w.heap.size]?) := Lib.hid ((keep_cells hw1 _ (by omega)).trans HK0.out)
    have HWD := Lib.hid hw1
    obtain ⟨X1, hX1⟩ : ∃ X, { (rqKS 3 s) with dg := dg } = X := ⟨_, rfl⟩
    have HR1 : Hid (Rd w w1 (w.heap.size + 1) (w.heap.size + 1 + 1) rq0 X1) := Lib.hid (by rw [← hw1, ← hX1]; exact HR0.out.setDg dg HD.out.1)
    have HX1 := Lib.hid hX1
    clear hw1
    clear hX1
    have g2 := ((HBX.out w1 HK1.out).cells HX.out.dg.1).2.2.1
    have cl2 := (HR1.out.own.cells HR1.out.dx).2.2.1
    have fr2 := HR1.out.own.frozen 34
    obtain ⟨w2, hw2⟩ : ∃ W, w1.setCell ⟨w.heap.size + 1 + 1, 34, none⟩ (.string nm) = W := ⟨_, rfl⟩
    have HK2 : Hid (w2.heap[w.heap.size]? = wA.heap[w.heap.size]?) := Lib.hid ((keep_cell hw2 _ (by omega)).trans HK1.out)
    obtain ⟨X2, hX2⟩ : ∃ X, { X1 with nm := nm } = X := ⟨_, rfl⟩
    have HR2 : Hid (Rd w w2 (w.heap.size + 1) (w.heap.size + 1 + 1) rq0 X2) := Lib.hid (by rw [← hw2, ← hX2]; exact HR1.out.setNm nm)
    have HX2 := Lib.hid hX2
    clear hX2
    obtain ⟨e0, _⟩ := HC0.out
    clear HC0
    go_wp2_with (first
        | (refine wpList_ld rfl _ _ rfl _ rfl _ HLD.out ?_)
        | (refine wpList_store_mid rfl 24 _ _ rfl (w.heap.size + 1 + 1) 2 _ rfl rfl HTH.out (by rw [bcs_size, HD.out.1]; exact size32) (bcs_one _) ?_; rw [HWD.out])
        | (refine wpList_ld rfl _ _ rfl _ rfl _ (HR2.out.own.load HR2.out.dx) ?_)
        | (refine wpList_store_row rfl 27 _ _ rfl (w.heap.size + 1) _ rfl rfl 27 _ HR2.out.out (Rq.sizeOf X2 HR2.out.dx) (Rq.sizes rq0 X2 rfl HR2.out.dx) (Rq.one X2) ?_; generalize hwZ : World.setRow _ _ _ = wZ; have HZ : Hid (Rd w wZ (w.heap.size + 1) (w.heap.size + 1 + 1) X2 X2) := Lib.hid (by rw [← hwZ]; exact HR2.out.ans X2 HR2.out.dx); clear hwZ))
    refine bodyPost_ret (HZ.out.out.res1 HZ.out.dy rfl _ rfl) rfl ?_
    exact ⟨X2, rfl, by rw [← HX2.out, ← HX1.out]; exact ⟨Bs.empty _ _, fun _ => rfl, Nat.le_refl _, Nat.zero_le _, HD.out, HX.out.nm, hs, by show _ ≤ (3 : Int) ∧ (3 : Int) ≤ _; omega, i64_zero, i64_zero⟩, by rw [HBN.out, ← HX2.out, ← HX1.out]; unfold Rq.rc; simp [rqKS, rq0, dg0]; try rfl, HZ.out.le, by rw [← HX2.out, ← HX1.out]; simp [bareQ, rqKS, rq0]⟩
  · have HC0 := Lib.hid ((HBX.out wS HK0.out).cells HX.out.dg.1)
    have g1 := ((HBX.out wS HK0.out).cells HX.out.dg.1).2.2.1
    have cl1 := (HR0.out.own.cells HR0.out.dx).2.2.1
    have fr1 := HR0.out.own.frozen 34
    obtain ⟨w1, hw1⟩ : ∃ W, wS.setCell ⟨w.heap.size + 1 + 1, 34, none⟩ (.string nm) = W := ⟨_, rfl⟩
    have HK1 : Hid (w1.heap[w.heap.size]? = wA.heap[w.heap.size]?) := Lib.hid ((keep_cell hw1 _ (by omega)).trans HK0.out)
    obtain ⟨X1, hX1⟩ : ∃ X, { (rqKS 4 s) with nm := nm } = X := ⟨_, rfl⟩
    have HR1 : Hid (Rd w w1 (w.heap.size + 1) (w.heap.size + 1 + 1) rq0 X1) := Lib.hid (by rw [← hw1, ← hX1]; exact HR0.out.setNm nm)
    have HX1 := Lib.hid hX1
    clear hX1
    obtain ⟨e0, _⟩ := HC0.out
    clear HC0
    go_wp2_with (first
        | (refine wpList_ld rfl _ _ rfl _ rfl _ (HR1.out.own.load HR1.out.dx) ?_)
        | (refine wpList_store_row rfl 27 _ _ rfl (w.heap.size + 1) _ rfl rfl 27 _ HR1.out.out (Rq.sizeOf X1 HR1.out.dx) (Rq.sizes rq0 X1 rfl HR1.out.dx) (Rq.one X1) ?_; generalize hwZ : World.setRow _ _ _ = wZ; have HZ : Hid (Rd w wZ (w.heap.size + 1) (w.heap.size + 1 + 1) X1 X1) := Lib.hid (by rw [← hwZ]; exact HR1.out.ans X1 HR1.out.dx); clear hwZ))
    refine bodyPost_ret (HZ.out.out.res1 HZ.out.dy rfl _ rfl) rfl ?_
    exact ⟨X1, rfl, by rw [← HX1.out]; exact ⟨Bs.empty _ _, fun _ => rfl, Nat.le_refl _, Nat.zero_le _, dok_zero, HX.out.nm, hs, by show _ ≤ (4 : Int) ∧ (4 : Int) ≤ _; omega, i64_zero, i64_zero⟩, by rw [HBN.out, ← HX1.out]; unfold Rq.rc; simp [rqKS, rq0, dg0]; try rfl, HZ.out.le, by rw [← HX1.out]; simp [bareQ, rqKS, rq0]⟩
  · have HC0 := Lib.hid ((HBX.out wS HK0.out).cells HX.out.dg.1)
    have HLD := Lib.hid (Mx.loadDig (P := Try.prog) (HBX.out wS HK0.out) 24 Try.underlying24 rfl (by rw [HX.out.dg.1]; exact size32) 2 rfl)
    have HTH : Hid (wS.there (w.heap.size + 1 + 1) 2 (bcs dg).size) := Lib.hid (by rw [bcs_size, HD.out.1]; exact Mx.there HR0.out.own 2 32 (by rw [HR0.out.dx]; simp [Rq.a, Rq.z]))
    obtain ⟨w1, hw1⟩ : ∃ W, wS.setCells (w.heap.size + 1 + 1) 2 (bcs dg).toList = W := ⟨_, rfl⟩
    have HK1 : Hid (w1.heap[w.heap.size]? = wA.heap[w.heap.size]?) := Lib.hid ((keep_cells hw1 _ (by omega)).trans HK0.out)
    have HWD := Lib.hid hw1
    obtain ⟨X1, hX1⟩ : ∃ X, { (rqKS 5 s) with dg := dg } = X := ⟨_, rfl⟩
    have HR1 : Hid (Rd w w1 (w.heap.size + 1) (w.heap.size + 1 + 1) rq0 X1) := Lib.hid (by rw [← hw1, ← hX1]; exact HR0.out.setDg dg HD.out.1)
    have HX1 := Lib.hid hX1
    clear hw1
    clear hX1
    obtain ⟨e0, _⟩ := HC0.out
    clear HC0
    go_wp2_with (first
        | (refine wpList_ld rfl _ _ rfl _ rfl _ HLD.out ?_)
        | (refine wpList_store_mid rfl 24 _ _ rfl (w.heap.size + 1 + 1) 2 _ rfl rfl HTH.out (by rw [bcs_size, HD.out.1]; exact size32) (bcs_one _) ?_; rw [HWD.out])
        | (refine wpList_ld rfl _ _ rfl _ rfl _ (HR1.out.own.load HR1.out.dx) ?_)
        | (refine wpList_store_row rfl 27 _ _ rfl (w.heap.size + 1) _ rfl rfl 27 _ HR1.out.out (Rq.sizeOf X1 HR1.out.dx) (Rq.sizes rq0 X1 rfl HR1.out.dx) (Rq.one X1) ?_; generalize hwZ : World.setRow _ _ _ = wZ; have HZ : Hid (Rd w wZ (w.heap.size + 1) (w.heap.size + 1 + 1) X1 X1) := Lib.hid (by rw [← hwZ]; exact HR1.out.ans X1 HR1.out.dx); clear hwZ))
    refine bodyPost_ret (HZ.out.out.res1 HZ.out.dy rfl _ rfl) rfl ?_
    exact ⟨X1, rfl, by rw [← HX1.out]; exact ⟨Bs.empty _ _, fun _ => rfl, Nat.le_refl _, Nat.zero_le _, HD.out, (Nat.zero_le 140737488355328 : (0 : Nat) ≤ 140737488355328), hs, by show _ ≤ (5 : Int) ∧ (5 : Int) ≤ _; omega, i64_zero, i64_zero⟩, by rw [HBN.out, ← HX1.out]; unfold Rq.rc; simp [rqKS, rq0, dg0]; try rfl, HZ.out.le, by rw [← HX1.out]; simp [bareQ, rqKS, rq0]⟩
  · have HC0 := Lib.hid ((HBX.out wS HK0.out).cells HX.out.dg.1)
    have g1 := ((HBX.out wS HK0.out).cells HX.out.dg.1).2.2.2.2.2
    have cl1 := (HR0.out.own.cells HR0.out.dx).2.2.2.2.2
    have fr1 := HR0.out.own.frozen 37
    obtain ⟨w1, hw1⟩ : ∃ W, wS.setCell ⟨w.heap.size + 1 + 1, 37, none⟩ (.int .i64 Z) = W := ⟨_, rfl⟩
    have HK1 : Hid (w1.heap[w.heap.size]? = wA.heap[w.heap.size]?) := Lib.hid ((keep_cell hw1 _ (by omega)).trans HK0.out)
    obtain ⟨X1, hX1⟩ : ∃ X, { (rqKS 6 s) with Z := Z } = X := ⟨_, rfl⟩
    have HR1 : Hid (Rd w w1 (w.heap.size + 1) (w.heap.size + 1 + 1) rq0 X1) := Lib.hid (by rw [← hw1, ← hX1]; exact HR0.out.setZ Z)
    have HX1 := Lib.hid hX1
    clear hX1
    have g2 := ((HBX.out w1 HK1.out).cells HX.out.dg.1).2.2.2.2.1
    have cl2 := (HR1.out.own.cells HR1.out.dx).2.2.2.2.1
    have fr2 := HR1.out.own.frozen 36
    obtain ⟨w2, hw2⟩ : ∃ W, w1.setCell ⟨w.heap.size + 1 + 1, 36, none⟩ (.int .i64 N) = W := ⟨_, rfl⟩
    have HK2 : Hid (w2.heap[w.heap.size]? = wA.heap[w.heap.size]?) := Lib.hid ((keep_cell hw2 _ (by omega)).trans HK1.out)
    obtain ⟨X2, hX2⟩ : ∃ X, { X1 with N := N } = X := ⟨_, rfl⟩
    have HR2 : Hid (Rd w w2 (w.heap.size + 1) (w.heap.size + 1 + 1) rq0 X2) := Lib.hid (by rw [← hw2, ← hX2]; exact HR1.out.setN N)
    have HX2 := Lib.hid hX2
    clear hX2
    obtain ⟨e0, _⟩ := HC0.out
    clear HC0
    go_wp2_with (first
        | (refine wpList_ld rfl _ _ rfl _ rfl _ (HR2.out.own.load HR2.out.dx) ?_)
        | (refine wpList_store_row rfl 27 _ _ rfl (w.heap.size + 1) _ rfl rfl 27 _ HR2.out.out (Rq.sizeOf X2 HR2.out.dx) (Rq.sizes rq0 X2 rfl HR2.out.dx) (Rq.one X2) ?_; generalize hwZ : World.setRow _ _ _ = wZ; have HZ : Hid (Rd w wZ (w.heap.size + 1) (w.heap.size + 1 + 1) X2 X2) := Lib.hid (by rw [← hwZ]; exact HR2.out.ans X2 HR2.out.dx); clear hwZ))
    refine bodyPost_ret (HZ.out.out.res1 HZ.out.dy rfl _ rfl) rfl ?_
    exact ⟨X2, rfl, by rw [← HX2.out, ← HX1.out]; exact ⟨Bs.empty _ _, fun _ => rfl, Nat.le_refl _, Nat.zero_le _, dok_zero, (Nat.zero_le 140737488355328 : (0 : Nat) ≤ 140737488355328), hs, by show _ ≤ (6 : Int) ∧ (6 : Int) ≤ _; omega, hN, hZ⟩, by rw [HBN.out, ← HX2.out, ← HX1.out]; unfold Rq.rc; simp [rqKS, rq0, dg0]; try rfl, HZ.out.le, by rw [← HX2.out, ← HX1.out]; simp [bareQ, rqKS, rq0]⟩
  · have HC0 := Lib.hid ((HBX.out wS HK0.out).cells HX.out.dg.1)
    have g1 := ((HBX.out wS HK0.out).cells HX.out.dg.1).2.2.2.2.1
    have cl1 := (HR0.out.own.cells HR0.out.dx).2.2.2.2.1
    have fr1 := HR0.out.own.frozen 36
    obtain ⟨w1, hw1⟩ : ∃ W, wS.setCell ⟨w.heap.size + 1 + 1, 36, none⟩ (.int .i64 N) = W := ⟨_, rfl⟩
    have HK1 : Hid (w1.heap[w.heap.size]? = wA.heap[w.heap.size]?) := Lib.hid ((keep_cell hw1 _ (by omega)).trans HK0.out)
    obtain ⟨X1, hX1⟩ : ∃ X, { (rqKS 7 s) with N := N } = X := ⟨_, rfl⟩
    have HR1 : Hid (Rd w w1 (w.heap.size + 1) (w.heap.size + 1 + 1) rq0 X1) := Lib.hid (by rw [← hw1, ← hX1]; exact HR0.out.setN N)
    have HX1 := Lib.hid hX1
    clear hX1
    obtain ⟨e0, _⟩ := HC0.out
    clear HC0
    go_wp2_with (first
        | (refine wpList_ld rfl _ _ rfl _ rfl _ (HR1.out.own.load HR1.out.dx) ?_)
        | (refine wpList_store_row rfl 27 _ _ rfl (w.heap.size + 1) _ rfl rfl 27 _ HR1.out.out (Rq.sizeOf X1 HR1.out.dx) (Rq.sizes rq0 X1 rfl HR1.out.dx) (Rq.one X1) ?_; generalize hwZ : World.setRow _ _ _ = wZ; have HZ : Hid (Rd w wZ (w.heap.size + 1) (w.heap.size + 1 + 1) X1 X1) := Lib.hid (by rw [← hwZ]; exact HR1.out.ans X1 HR1.out.dx); clear hwZ))
    refine bodyPost_ret (HZ.out.out.res1 HZ.out.dy rfl _ rfl) rfl ?_
    exact ⟨X1, rfl, by rw [← HX1.out]; exact ⟨Bs.empty _ _, fun _ => rfl, Nat.le_refl _, Nat.zero_le _, dok_zero, (Nat.zero_le 140737488355328 : (0 : Nat) ≤ 140737488355328), hs, by show _ ≤ (7 : Int) ∧ (7 : Int) ≤ _; omega, hN, i64_zero⟩, by rw [HBN.out, ← HX1.out]; unfold Rq.rc; simp [rqKS, rq0, dg0]; try rfl, HZ.out.le, by rw [← HX1.out]; simp [bareQ, rqKS, rq0]⟩
  · have HC0 := Lib.hid ((HBX.out wS HK0.out).cells HX.out.dg.1)
    have g1 := ((HBX.out wS HK0.out).cells HX.out.dg.1).2.2.2.2.2
    have cl1 := (HR0.out.own.cells HR0.out.dx).2.2.2.2.2
    have fr1 := HR0.out.own.frozen 37
    obtain ⟨w1, hw1⟩ : ∃ W, wS.setCell ⟨w.heap.size + 1 + 1, 37, none⟩ (.int .i64 Z) = W := ⟨_, rfl⟩
    have HK1 : Hid (w1.heap[w.heap.size]? = wA.heap[w.heap.size]?) := Lib.hid ((keep_cell hw1 _ (by omega)).trans HK0.out)
    obtain ⟨X1, hX1⟩ : ∃ X, { (rqKS 8 s) with Z := Z } = X := ⟨_, rfl⟩
    have HR1 : Hid (Rd w w1 (w.heap.size + 1) (w.heap.size + 1 + 1) rq0 X1) := Lib.hid (by rw [← hw1, ← hX1]; exact HR0.out.setZ Z)
    have HX1 := Lib.hid hX1
    clear hX1
    have g2 := ((HBX.out w1 HK1.out).cells HX.out.dg.1).2.2.2.2.1
    have cl2 := (HR1.out.own.cells HR1.out.dx).2.2.2.2.1
    have fr2 := HR1.out.own.frozen 36
    obtain ⟨w2, hw2⟩ : ∃ W, w1.setCell ⟨w.heap.size + 1 + 1, 36, none⟩ (.int .i64 N) = W := ⟨_, rfl⟩
    have HK2 : Hid (w2.heap[w.heap.size]? = wA.heap[w.heap.size]?) := Lib.hid ((keep_cell hw2 _ (by omega)).trans HK1.out)
    obtain ⟨X2, hX2⟩ : ∃ X, { X1 with N := N } = X := ⟨_, rfl⟩
    have HR2 : Hid (Rd w w2 (w.heap.size + 1) (w.heap.size + 1 + 1) rq0 X2) := Lib.hid (by rw [← hw2, ← hX2]; exact HR1.out.setN N)
    have HX2 := Lib.hid hX2
    clear hX2
    obtain ⟨e0, _⟩ := HC0.out
    clear HC0
    go_wp2_with (first
        | (refine wpList_ld rfl _ _ rfl _ rfl _ (HR2.out.own.load HR2.out.dx) ?_)
        | (refine wpList_store_row rfl 27 _ _ rfl (w.heap.size + 1) _ rfl rfl 27 _ HR2.out.out (Rq.sizeOf X2 HR2.out.dx) (Rq.sizes rq0 X2 rfl HR2.out.dx) (Rq.one X2) ?_; generalize hwZ : World.setRow _ _ _ = wZ; have HZ : Hid (Rd w wZ (w.heap.size + 1) (w.heap.size + 1 + 1) X2 X2) := Lib.hid (by rw [← hwZ]; exact HR2.out.ans X2 HR2.out.dx); clear hwZ))
    refine bodyPost_ret (HZ.out.out.res1 HZ.out.dy rfl _ rfl) rfl ?_
    exact ⟨X2, rfl, by rw [← HX2.out, ← HX1.out]; exact ⟨Bs.empty _ _, fun _ => rfl, Nat.le_refl _, Nat.zero_le _, dok_zero, (Nat.zero_le 140737488355328 : (0 : Nat) ≤ 140737488355328), hs, by show _ ≤ (8 : Int) ∧ (8 : Int) ≤ _; omega, hN, hZ⟩, by rw [HBN.out, ← HX2.out, ← HX1.out]; unfold Rq.rc; simp [rqKS, rq0, dg0]; try rfl, HZ.out.le, by rw [← HX2.out, ← HX1.out]; simp [bareQ, rqKS, rq0]⟩

set_option maxRecDepth 100000 in
set_option maxHeartbeats 4000000 in
theorem own_out (x : Rq) (w : World) (hx : x.Fit w) (hk : x.k < 1 ∨ x.k > 8) :
    Calls Try.prog 21 #[x.v] w fun e w' => e = .returned (rqKS x.k x.s).v ∧ Below w.heap.size w w' := by
  obtain ⟨wA, hA, hm, hb, c0, c1, c34, c35, c36, c37⟩ := box_rec w x hx.dg.1
  have hsA : wA.heap.size = w.heap.size + 1 := by rw [← hA]; simp
  have HX := Lib.hid hx
  have HBX := Lib.hid fun W (hW : W.heap[w.heap.size]? = wA.heap[w.heap.size]?) => show Rm W w.heap.size x from Mx.keep hm hW
  have HB := Lib.hid hb
  have HSA := Lib.hid hsA
  have HNW : Hid (∀ Z : Obj, ((wA.alloc Z).alloc Z).heap[w.heap.size + 1 + 1]? = some Z) := Lib.hid fun Z => by rw [← hsA]; exact heap_alloc2_new _ _ _
  have HFT := Lib.hid fun W (hW : Below w.heap.size w W) => hx.later hW
  have HD := Lib.hid hx.dg
  have hs := hx.s
  have hN := hx.N
  have hZ := hx.Z
  unfold Rq.v
  obtain ⟨k, s, dg, nm, p, n, c, da, N, Z⟩ := x
  dsimp only at *
  generalize hM : mixC _ _ _ = M at *
  clear hM hx hm hb c34 c35 c36 c37
  go_enter Try.func21, Try.ntmps21
  go_upto_region 2 with (first
    | (refine wpList_build_is rfl 27 _ rfl (mixC (rqKS k s).a (rqKS k s).dg (rqKS k s).z) ?_ ?_; kernel_rfl)
    | (refine wpList_store_row rfl 27 _ _ rfl (w.heap.size + 1 + 1) _ rfl rfl 27 _ (HNW.out _) ((rqKS k s).sizeOf rfl) (Rq.sizes rq0 (rqKS k s) rfl rfl) (rqKS k s).one ?_; generalize hwS : World.setRow _ _ _ = wS))
  have HR0 : Hid (Rd w wS (w.heap.size + 1) (w.heap.size + 1 + 1) rq0 (rqKS k s)) := Lib.hid (by
    rw [← hwS]
    have h1 : Rd wA ((wA.alloc (.cells (mixC rq0.a rq0.dg rq0.z) 27)).alloc (.cells (mixC rq0.a rq0.dg rq0.z) 27)) wA.heap.size (wA.heap.size + 1) rq0 rq0 := Rd.start wA
    rw [HSA.out] at h1
    exact Rd.put ⟨h1.ne, by omega, by omega, h1.out, h1.own, below_step HB.out h1.le, h1.dy, h1.dx⟩ (rqKS k s) rfl)
  have HK0 : Hid (wS.heap[w.heap.size]? = wA.heap[w.heap.size]?) := Lib.hid (by rw [keep_row hwS _ (by omega), heap_alloc_old _ _ (by simp; rw [HSA.out]; omega), heap_alloc_old _ _ (by rw [HSA.out]; omega)])
  clear hwS c0 c1
  obtain ⟨e0, e1, _⟩ := (HBX.out wS HK0.out).cells HX.out.dg.1
  have n1 : (k == 1) = false := by simp; omega
  have n2 : (k == 2) = false := by simp; omega
  have n3 : (k == 3) = false := by simp; omega
  have n4 : (k == 4) = false := by simp; omega
  have n5 : (k == 5) = false := by simp; omega
  have n6 : (k == 6) = false := by simp; omega
  have n7 : (k == 7) = false := by simp; omega
  have n8 : (k == 8) = false := by simp; omega
  clear hk
  go_wp2_with (first
        | (refine wpList_ld rfl _ _ rfl _ rfl _ (HR0.out.own.load HR0.out.dx) ?_)
        | (refine wpList_store_row rfl 27 _ _ rfl (w.heap.size + 1) _ rfl rfl 27 _ HR0.out.out (Rq.sizeOf (rqKS k s) HR0.out.dx) (Rq.sizes rq0 (rqKS k s) rfl HR0.out.dx) (Rq.one (rqKS k s)) ?_; generalize hwZ : World.setRow _ _ _ = wZ; have HZ : Hid (Rd w wZ (w.heap.size + 1) (w.heap.size + 1 + 1) (rqKS k s) (rqKS k s)) := Lib.hid (by rw [← hwZ]; exact HR0.out.ans (rqKS k s) HR0.out.dx); clear hwZ))
  refine bodyPost_ret (HZ.out.out.res1 HZ.out.dy rfl _ rfl) rfl ?_
  exact ⟨rfl, HZ.out.le⟩
end Go.Proofs.Ythnlfgaljkfhaaa

namespace Go.Proofs.Ythnlfgaljkfhaaa
set_option linter.unusedVariables false
open Go.RowKit Go.Lib

/-- the data of a record's frame, but for its own -/
def leadN (r : Rc) : List Int := if r.k ≤ 2 then r.dg else dataN r
theorem leadN_12 {r : Rc} (h : r.k = 1 ∨ r.k = 2) : leadN r = r.dg := by
  unfold leadN
  rw [if_pos (by omega)]
theorem leadN_bare {r : Rc} (hk : 1 ≤ r.k ∧ r.k ≤ 8) : leadN (bareN r) ++ (bareN r).da = dataN r := by
  obtain ⟨k, s, dg, nm, da, n, z⟩ := r
  dsimp only at hk
  unfold leadN dataN bareN
  dsimp only
  rcases kinds (k := k) with h1 | h1 | rfl | rfl | rfl | rfl | rfl | rfl | rfl | rfl
  · omega
  · omega
  all_goals simp
theorem textP_in {s : ByteArray} (h : s.size ≤ 255) : textP s = (s.size : Int) :: numsOf s := by
  unfold textP
  rw [if_pos h]
theorem putS_4 (n : Int) : putS n 4 = putN n 4 := rfl
theorem putS_8 (n : Int) : putS n 8 = putN n 8 := rfl

set_option maxRecDepth 100000 in
set_option maxHeartbeats 1000000 in
theorem lead_any (x : Rq) (w : World) (hx : x.Fit w) (hr : rightN x.rc = 0) :
    Calls Try.prog 23 #[x.v] w fun e w' => ∃ v, e = .returned v ∧ Ob w' w.heap.size 5 v (leadN x.rc) ∧ Below w.heap.size w w' := by
  obtain ⟨wA, hA, hm, hb, c0, c1, c34, c35, c36, c37⟩ := box_rec w x hx.dg.1
  have HB := Lib.hid hb
  have HD := Lib.hid (hm.dig hx.dg)
  have HDL := Lib.hid hx.dg.1
  have HK := Lib.hid (rightN_k hr)
  have HNM := Lib.hid fun (h : x.k = 3 ∨ x.k = 4) => tagP_len (rightN_nm hr h)
  have HNZ := Lib.hid fun (h : x.k = 6 ∨ x.k = 8) => rightN_nz hr h
  have HHD := Lib.hid fun (h : x.k = 7) => rightN_hd hr h
  have HC := Lib.hid fun W (hW : Below wA.heap.size wA W) => (hm.later hW).cells hx.dg.1
  obtain ⟨R, hR⟩ : ∃ R, leadN x.rc = R := ⟨_, rfl⟩
  rw [hR]
  have HR : Hid (R = leadN x.rc) := Lib.hid hR.symm
  clear hR
  unfold leadN dataN at HR
  unfold Rq.rc at HR HNM HNZ HHD HK
  dsimp only at HR HNM HNZ HHD HK
  have HNL := Lib.hid (numsOf_length x.nm)
  have HS := Lib.hid hb.size
  unfold Rq.v
  obtain ⟨k, s, dg, nm, p, n, c, da, N, Z⟩ := x
  dsimp only at *
  generalize mixC _ _ _ = M at *
  clear hb hx hm hr c1
  rcases kinds (k := k) with h | h | rfl | rfl | rfl | rfl | rfl | rfl | rfl | rfl
  · have := HK.out; omega
  · have := HK.out; omega
  · replace HR : Hid (R = dg) := Lib.hid (by rw [HR.out]; simp)
    clear c34 c35 c36 c37 HK HNM HNZ HHD
    go_enter Try.func23, Try.ntmps23
    go_wp2_with (refine wpList_append_bytes rfl _ _ 25 5 rfl Try.underlying25 info8 wA.heap.size _ [] rfl (Ob.nil _ _ _) (some ⟨w.heap.size, 2, none⟩) 32 32 dg rfl HD.out (fun h => by cases h) (by simp) (Nat.le_refl _) ?_; intro v1 w1 ho1 hg1; rw [List.nil_append] at ho1; have HB1 : Hid (Below wA.heap.size wA w1) := Lib.hid (below_new (e := 5) (Below.refl _ _) (Ob.nil _ _ _) hg1 (Nat.le_refl _)); have HO1 := Lib.hid ho1; clear ho1 hg1)
    go_ret
    exact ⟨_, rfl, by rw [HR.out]; exact HO1.out.mono HS.out, below_step HB.out HB1.out⟩
  · replace HR : Hid (R = dg) := Lib.hid (by rw [HR.out]; simp)
    clear c34 c35 c36 c37 HK HNM HNZ HHD
    go_enter Try.func23, Try.ntmps23
    go_wp2_with (refine wpList_append_bytes rfl _ _ 25 5 rfl Try.underlying25 info8 wA.heap.size _ [] rfl (Ob.nil _ _ _) (some ⟨w.heap.size, 2, none⟩) 32 32 dg rfl HD.out (fun h => by cases h) (by simp) (Nat.le_refl _) ?_; intro v1 w1 ho1 hg1; rw [List.nil_append] at ho1; have HB1 : Hid (Below wA.heap.size wA w1) := Lib.hid (below_new (e := 5) (Below.refl _ _) (Ob.nil _ _ _) hg1 (Nat.le_refl _)); have HO1 := Lib.hid ho1; clear ho1 hg1)
    go_ret
    exact ⟨_, rfl, by rw [HR.out]; exact HO1.out.mono HS.out, below_step HB.out HB1.out⟩
  · have hn := HNM.out (by omega)
    replace HR : Hid (R = ((nm.size : Int) :: numsOf nm) ++ dg) := Lib.hid (by rw [HR.out, HNL.out]; simp)
    rw [HNL.out] at hn
    have HTX := Lib.hid (textP_in (s := nm) (by omega))
    have HL2 : Hid (((nm.size : Int) :: numsOf nm).length + 32 ≤ 140737488355328) := Lib.hid (by rw [List.length_cons, HNL.out]; omega)
    clear c35 c36 c37 HK HNM HNZ HHD
    go_enter Try.func23, Try.ntmps23
    go_wp2_with (first
      | (go_at_call 37; refine (putText_any none 0 0 [] nm wA (Bs.empty _ _) (by omega) (by unfold maxLen; omega)).mono ?_; rintro e w1 ⟨v1, rfl, ho1, hb1⟩; rw [List.nil_append, HTX.out] at ho1; have HB1 := Lib.hid hb1; have HO1 := Lib.hid ho1; have HD1 := Lib.hid (HD.out.later hb1); clear ho1 hb1)
      | (refine wpList_append_bytes rfl _ _ 25 5 rfl Try.underlying25 info8 wA.heap.size _ ((nm.size : Int) :: numsOf nm) rfl HO1.out (some ⟨w.heap.size, 2, none⟩) 32 32 dg rfl HD1.out (fun h => by cases h) HL2.out HB1.out.size ?_; intro v2 w2 ho2 hg2; have HB2 := Lib.hid (below_new HB1.out HO1.out hg2 HB1.out.size); have HO2 := Lib.hid ho2; clear ho2 hg2))
    go_ret
    exact ⟨_, rfl, by rw [HR.out]; exact HO2.out.mono HS.out, below_step HB.out HB2.out⟩
  · have hn := HNM.out (by omega)
    replace HR : Hid (R = ((nm.size : Int) :: numsOf nm)) := Lib.hid (by rw [HR.out, HNL.out]; simp)
    rw [HNL.out] at hn
    have HTX := Lib.hid (textP_in (s := nm) (by omega))
    have HL2 : Hid (((nm.size : Int) :: numsOf nm).length + 32 ≤ 140737488355328) := Lib.hid (by rw [List.length_cons, HNL.out]; omega)
    clear c35 c36 c37 HK HNM HNZ HHD
    go_enter Try.func23, Try.ntmps23
    go_wp2_with (go_at_call 37; refine (putText_any none 0 0 [] nm wA (Bs.empty _ _) (by omega) (by unfold maxLen; omega)).mono ?_; rintro e w1 ⟨v1, rfl, ho1, hb1⟩; rw [List.nil_append, HTX.out] at ho1; have HB1 := Lib.hid hb1; have HO1 := Lib.hid ho1; have HD1 := Lib.hid (HD.out.later hb1); clear ho1 hb1)
    go_ret
    exact ⟨_, rfl, by rw [HR.out]; exact HO1.out.mono HS.out, below_step HB.out HB1.out⟩
  · replace HR : Hid (R = dg) := Lib.hid (by rw [HR.out]; simp)
    clear c34 c35 c36 c37 HK HNM HNZ HHD
    go_enter Try.func23, Try.ntmps23
    go_wp2_with (refine wpList_append_bytes rfl _ _ 25 5 rfl Try.underlying25 info8 wA.heap.size _ [] rfl (Ob.nil _ _ _) (some ⟨w.heap.size, 2, none⟩) 32 32 dg rfl HD.out (fun h => by cases h) (by simp) (Nat.le_refl _) ?_; intro v1 w1 ho1 hg1; rw [List.nil_append] at ho1; have HB1 : Hid (Below wA.heap.size wA w1) := Lib.hid (below_new (e := 5) (Below.refl _ _) (Ob.nil _ _ _) hg1 (Nat.le_refl _)); have HO1 := Lib.hid ho1; clear ho1 hg1)
    go_ret
    exact ⟨_, rfl, by rw [HR.out]; exact HO1.out.mono HS.out, below_step HB.out HB1.out⟩
  · have hn := HNZ.out (by omega)
    replace HR : Hid (R = ([] ++ putN N 4) ++ putN Z 4) := Lib.hid (by rw [HR.out]; simp)
    have hwN : IntKind.u64.wrap N = N := wrap_u64_in (by omega) (by omega)
    have hwZ : IntKind.u64.wrap Z = Z := wrap_u64_in (by omega) (by omega)
    obtain ⟨x1, e1⟩ : ∃ x, ([] : List Int) ++ putN N 4 = x := ⟨_, rfl⟩
    have l1 : x1.length = 4 := by rw [← e1]; simp [putN_length]
    rw [e1] at HR
    have E1 := Lib.hid e1
    have L1 := Lib.hid l1
    clear e1 l1 c34 c35 HK HNM HHD HNZ
    go_enter Try.func23, Try.ntmps23
    go_wp2_with (first
      | (go_at_call 38; (fail_if_success (have hh := HB1.out)); refine (put_any none 0 0 [] N 4 wA (Bs.empty _ _) (by omega) (by omega) (by omega)).mono ?_; rintro e w1 ⟨v1, rfl, ho1, hb1⟩; rw [putS_4, E1.out] at ho1; have HB1 := Lib.hid hb1; obtain ⟨p1, c1, hv1, hlc1, hcm1, hbs1, hpc1⟩ := ho1.open; rw [L1.out] at hv1 hlc1 hbs1; subst hv1; have HD1 := Lib.hid hbs1; obtain ⟨_, _, _, _, d36, d37⟩ := HC.out _ HB1.out; clear ho1 hb1 hbs1 hpc1 d36)
      | (go_at_call 38; refine (put_any p1 4 c1 x1 Z 4 w1 HD1.out (by omega) (by omega) (by omega)).mono ?_; rintro e w2 ⟨v2, rfl, ho2, hb2⟩; rw [putS_4] at ho2; have HB2 := Lib.hid (below_step HB1.out hb2); have HO2 := Lib.hid (ho2.mono HB1.out.size); clear ho2 hb2))
    go_ret
    exact ⟨_, rfl, by rw [HR.out]; exact HO2.out.mono HS.out, below_step HB.out HB2.out⟩
  · have hn := HHD.out rfl
    replace HR : Hid (R = magN ++ putN N 8) := Lib.hid (by rw [HR.out]; simp)
    have hwN : IntKind.u64.wrap N = N := wrap_u64_in (by omega) (by omega)
    have kc := fun (W : World) (C : Array Value) (n c : Nat) => Lib.run_convert_bytes_const (P := Try.prog) W 25 5 C n c Try.underlying25 Try.underlying5
    obtain ⟨wB, hB⟩ : ∃ W, wA.alloc (.cells #[.int .u8 115, .int .u8 116, .int .u8 105, .int .u8 108, .int .u8 108, .int .u8 97, .int .u8 103, .int .u8 101] 5 (8, 9)) = W := ⟨_, rfl⟩
    have HMB : Hid (Bs wB (some ⟨wA.heap.size, 0, none⟩) 8 magN) := Lib.hid (by rw [← hB]; exact bs_lit_fr wA 5 _ (8, 9) magN 8 rfl magN_byt rfl)
    have HBB : Hid (Below wA.heap.size wA wB) := Lib.hid (by rw [← hB]; exact (Below.refl _ _).alloc (Nat.le_refl _) _)
    obtain ⟨_, _, _, _, d36, _⟩ := HC.out _ HBB.out
    clear c34 c35 c37 HK HNM HNZ HHD
    go_enter Try.func23, Try.ntmps23
    go_wp2_with (go_at_call 38; refine (put_any _ 8 _ magN N 8 _ HMB.out (by omega) (by omega) (by omega)).mono ?_; rintro e w1 ⟨v1, rfl, ho1, hb1⟩; rw [putS_8] at ho1; have HB1 := Lib.hid (below_step HBB.out hb1); have HO1 := Lib.hid (ho1.mono HBB.out.size); clear ho1 hb1)
    go_ret
    exact ⟨_, rfl, by rw [HR.out]; exact HO1.out.mono HS.out, below_step HB.out HB1.out⟩
  · have hn := HNZ.out (by omega)
    replace HR : Hid (R = ([] ++ putN N 4) ++ putN Z 4) := Lib.hid (by rw [HR.out]; simp)
    have hwN : IntKind.u64.wrap N = N := wrap_u64_in (by omega) (by omega)
    have hwZ : IntKind.u64.wrap Z = Z := wrap_u64_in (by omega) (by omega)
    obtain ⟨x1, e1⟩ : ∃ x, ([] : List Int) ++ putN N 4 = x := ⟨_, rfl⟩
    have l1 : x1.length = 4 := by rw [← e1]; simp [putN_length]
    rw [e1] at HR
    have E1 := Lib.hid e1
    have L1 := Lib.hid l1
    clear e1 l1 c34 c35 HK HNM HHD HNZ
    go_enter Try.func23, Try.ntmps23
    go_wp2_with (first
      | (go_at_call 38; (fail_if_success (have hh := HB1.out)); refine (put_any none 0 0 [] N 4 wA (Bs.empty _ _) (by omega) (by omega) (by omega)).mono ?_; rintro e w1 ⟨v1, rfl, ho1, hb1⟩; rw [putS_4, E1.out] at ho1; have HB1 := Lib.hid hb1; obtain ⟨p1, c1, hv1, hlc1, hcm1, hbs1, hpc1⟩ := ho1.open; rw [L1.out] at hv1 hlc1 hbs1; subst hv1; have HD1 := Lib.hid hbs1; obtain ⟨_, _, _, _, d36, d37⟩ := HC.out _ HB1.out; clear ho1 hb1 hbs1 hpc1 d36)
      | (go_at_call 38; refine (put_any p1 4 c1 x1 Z 4 w1 HD1.out (by omega) (by omega) (by omega)).mono ?_; rintro e w2 ⟨v2, rfl, ho2, hb2⟩; rw [putS_4] at ho2; have HB2 := Lib.hid (below_step HB1.out hb2); have HO2 := Lib.hid (ho2.mono HB1.out.size); clear ho2 hb2))
    go_ret
    exact ⟨_, rfl, by rw [HR.out]; exact HO2.out.mono HS.out, below_step HB.out HB2.out⟩
end Go.Proofs.Ythnlfgaljkfhaaa
