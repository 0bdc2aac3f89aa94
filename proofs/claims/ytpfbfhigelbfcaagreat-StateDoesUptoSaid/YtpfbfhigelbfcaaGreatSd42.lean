/- Layer 20, the program: changeBy, Apply. (gen_ixea.py); Layer 20, the program: Keep. (gen_ixea.py) -/
import Derived.Test.YtpfbfhigelbfcaaGreatSd36
import Derived.Test.YtpfbfhigelbfcaaGreatSd40
import Derived.Test.YtpfbfhigelbfcaaGreatSd41
set_option linter.unusedSimpArgs false
set_option linter.unusedVariables false
namespace Go.Proofs.YtpfbfhigelbfcaaGreat
open Go.RowKit Go.Lib
/-- which change a record makes -/
def chgV (k : Int) (fb : Bool) : Value := if k = 1 ∨ k = 2 then .func (.func 110) #[] #[] else if k = 5 ∧ fb = true then .func (.func 111) #[] #[] else .nilFunc
set_option maxRecDepth 100000 in
theorem changeBy_any (k : Int) (fb : Bool) (w : World) : Calls Tryz.prog 78 #[.int .i64 k, .bool fb] w fun e w' => e = .returned (chgV k fb) ∧ w' = w := by
 by_cases h1 : k = 1
 ·subst h1
  go_enter Tryz.func78, Tryz.ntmps78
  go_wp2
  go_ret
  exact ⟨rfl, rfl⟩
 ·have b1 : (k == 1) = false := by simpa using h1
  by_cases h2 : k = 2
  ·subst h2
   clear h1
   go_enter Tryz.func78, Tryz.ntmps78
   go_wp2
   go_ret
   exact ⟨rfl, rfl⟩
  ·have b2 : (k == 2) = false := by simpa using h2
   by_cases h5 : k = 5
   ·subst h5
    clear h1 h2
    cases fb
    ·go_enter Tryz.func78, Tryz.ntmps78
     go_wp2
     go_ret
     exact ⟨rfl, rfl⟩
    ·go_enter Tryz.func78, Tryz.ntmps78
     go_wp2
     go_ret
     exact ⟨rfl, rfl⟩
   ·have b5 : (k == 5) = false := by simpa using h5
    have HV : Hid (chgV k fb = .nilFunc) := Lib.hid (by unfold chgV; rw [if_neg (fun h => h.elim h1 h2), if_neg (fun h => h5 h.1)])
    clear h1 h2 h5
    go_enter Tryz.func78, Tryz.ntmps78
    go_wp2
    go_ret
    exact ⟨by rw [HV.out]; rfl, rfl⟩
theorem neq_fn (W : World) (f : Fn) (a b : Array Value) : (binOp .neq 136 (.func f a b) .nilFunc).run Tryz.prog W = .ok (.bool true) W := run_neq_fn W _ f a b Tryz.underlying136
theorem neq_nf (W : World) : (binOp .neq 136 .nilFunc .nilFunc).run Tryz.prog W = .ok (.bool false) W := run_neq_nf W _ Tryz.underlying136
theorem OpB.pre {w W : World} {bI : Nat} {ST F : Nat → Prop} {v : Value} {L : List Pe} {e : Ending} {w' : World} (hb : Below w.heap.size w W) (h : OpB W bI ST F v L e w') : OpB w bI ST F v L e w' := by
 obtain ⟨ST', F', h1, h2, h3, h4, h5⟩ := h
 exact ⟨ST', F', h1, h2, (Chg.of_below hb).tr h3 (fun b h => Or.inl h), fun b hb2 => (h4 b hb2).imp id (Nat.le_trans hb.size), fun b hb2 => (h5 b hb2).imp id (Nat.le_trans hb.size)⟩
theorem OpB.none {w W : World} {bI : Nat} {ST F : Nat → Prop} {v : Value} {L : List Pe} (hb : Below w.heap.size w W) (h : IxB W bI ST F v L) : OpB w bI ST F v L (.returned (.tuple #[])) W :=
 ⟨ST, F, rfl, h, Chg.of_below hb, fun b h => Or.inl h, fun b h => Or.inl h⟩
theorem getR_dk {T : List (Tg.Pg Ex)} {L : List Pe} (h : IxP T L) (hd : ∀ x ∈ T, dok x.dg) (d : List Int) : dok (getR L d).1.dg := by
 unfold getR
 cases hg : getE L d with
 | none => exact dz32_ok
 | some x => exact ixp_dgs h hd x (getE_mem hg).1
set_option maxRecDepth 100000 in
set_option maxHeartbeats 4000000 in
theorem iapply_any (hG : Tg.GrowOk) {w : World} {bI : Nat} {ST F : Nat → Prop} {v : Value} {L : List Pe} (x : Wq) (h : IxB w bI ST F v L) (hx : dok x.dg) (hL : L.length ≤ 1048576) (hi : insLe L 2097151) :
 Calls Tryz.prog 45 #[.pointer (some ⟨bI, 0, none⟩), x.v] w fun r w' => OpB w bI ST F v (applyE L x) r w' := by
 have HH := Lib.hid h
 obtain ⟨T, sl, h, hp⟩ := h
 obtain ⟨w0, hw0⟩ : ∃ W, w.alloc (.cells (mixC x.a x.dg x.t) 39) = W := ⟨_, rfl⟩
 obtain ⟨B, hB⟩ : ∃ x, w.heap.size = x := ⟨_, rfl⟩
 have hb0 : Below B w w0 := by rw [← hw0, ← hB]; exact (Below.refl _ _).alloc (Nat.le_refl _) _
 have hm0 : Wm w0 B x := by rw [← hw0, ← hB]; exact heap_alloc_new _ _
 have HB0 : Hid (Below w.heap.size w w0) := Lib.hid (by rw [hB]; exact hb0)
 have HI0 := Lib.hid (h.later HB0.out)
 have HLD := Lib.hid fun W (hW : Below w0.heap.size w0 W) => (hm0.later hW).dig hx.1
 have HLW := Lib.hid fun W (hW : Below w0.heap.size w0 W) => (hm0.later hW).load hx.1
 have HKC := Lib.hid fun W (hW : Below w0.heap.size w0 W) => ((hm0.later hW).cells5 hx.1).1
 have HGR := Lib.hid (getR_of hp (tb_uq h.tb) x.dg)
 have HDK := Lib.hid (getR_dk hp (tb_dk h.tb) x.dg)
 have HIX := Lib.hid (ic_get HI0.out x.dg)
 have HLN := Lib.hid (getR_ins hi x.dg)
 have HBL : Hid (bI < w.heap.size) := Lib.hid h.bI_lt
 have HAE : Hid (applyE L x = _) := Lib.hid (by unfold applyE; rfl)
 obtain ⟨q, hq⟩ : ∃ q, (Tg.getN T x.dg).getD Tg.exZ = q := ⟨_, rfl⟩
 obtain ⟨fb, hfb⟩ : ∃ b, (Tg.getN T x.dg).isSome = b := ⟨_, rfl⟩
 have HG : Hid (∀ W, Below w0.heap.size w0 W → Calls Tryz.prog 77 #[v, .agg (bcs x.dg)] W fun e w' => e = .returned (.tuple #[enV q.e q.s, .bool fb]) ∧ Below W.heap.size W w') := Lib.hid fun W hW => by
  have h1 := Tg.get_any x.dg (HI0.out.later hW).tb hx
  unfold Tg.GetT at h1
  rw [hq, hfb] at h1
  exact h1
 rw [hq, hfb] at HGR
 rw [hq] at HIX
 rw [HGR.out] at HDK HLN HAE
 have HSS : Hid (∀ W, Below w0.heap.size w0 W → (fun W : World => W.cell? ⟨bI, 0, none⟩ = some v ∧ Below w0.heap.size w0 W) W) := Lib.hid fun W hW => ⟨(HI0.out.later hW).hd.cells.1, hW⟩
 have HX := Lib.hid hx
 have HLL := Lib.hid hL
 have HGG := Lib.hid hG
 have HW : Hid (x.v = .agg (mixC x.a x.dg x.t)) := Lib.hid rfl
 unfold Wq.v at *
 generalize hMX : mixC x.a x.dg x.t = MX at *
 have HMX := Lib.hid hMX
 generalize hM : bcs x.dg = M at *
 clear h hp hx hq hfb hi hL hG hb0 hm0 hMX hM
 go_enter Tryz.func45, Tryz.ntmps45
 go_upto_region 2 with fail
 clear hw0
 go_cut [4, 5] (fun g fq wx => ∃ G : Nat, g = .pointer (some ⟨G, 0, none⟩) ∧ fq = .bool fb ∧ Hid (Km wx G q.e q.s) ∧ Hid (w0.heap.size ≤ G) ∧ Hid (Below w0.heap.size w0 wx))
 case first =>
  refine wp_region_held_drew (S := (fun W : World => W.cell? ⟨bI, 0, none⟩ = some v ∧ Below w0.heap.size w0 W)) (by kernel_rfl) (HSS.out _ (Below.refl _ _).drew) (fun hHeld => ?_)
  refine tk 0 rfl ?_;(try simp only [PT]);refine tk 1 rfl ?_;(try simp only [PT]);refine tk 2 rfl ?_;(try simp only [PT]);refine tk 3 rfl ?_;(try simp only [PT]);refine tk 4 rfl ?_;(try simp only [PT])
  refine tkL 5 rfl (yieldsIf_ld (by rfl) 35 (.tmp 14) rfl (.pointer (some ⟨B, 2, none⟩)) rfl (.agg M) (fun W hW => HLD.out W hW.2)) ?_
  (try simp only [PT])
  obtain ⟨y0, hy0⟩ : ∃ X, w0.drew = X := ⟨_, rfl⟩
  have HY0 : Hid (Below w0.heap.size w0 y0) := Lib.hid (by rw [← hy0]; exact (Below.refl _ _).drew)
  rw [hy0]
  clear hy0 hHeld
  have hHeld := HSS.out _ HY0.out
  refine wpAnyH_ready (rs := [6, 10]) (by kernel_rfl) (by simp) (all_at 6 rfl (fun K hK => ?ofc) (all_at 10 rfl (fun K hK => ?ofa) AllReadyH.nil))
  case ofc =>
   go_simp
   refine (HG.out _ HY0.out).mono ?_
   rintro ex y1 ⟨rfl, hb⟩
   have HX6 : Hid (Below y0.heap.size y0 y1) := Lib.hid hb
   clear hb
   (try dsimp only)
   first
    | refine hK.out _ _ ?hS7 (fun hHeld => ?rr7)
    | (go_wp2_with fail; refine hK.out _ _ ?hS7 (fun hHeld => ?rr7))
   case hS7 => exact HSS.out _ (below_step HY0.out HX6.out)
   clear hK K
   (try simp only [PT])
   have HY1 := Lib.hid (below_step HY0.out HX6.out)
   clear hHeld
   have hHeld := HSS.out _ HY1.out
   refine tk 7 rfl ?_;(try simp only [PT]);refine tk 8 rfl ?_;(try simp only [PT]);refine tk 9 rfl ?_;(try simp only [PT])
   refine ready_at 10 rfl (by kernel_rfl) (fun K hK => ?_)
   go_simp
   first
    | refine hK.out _ _ ?hS12 (fun hHeld => ?rr12)
    | (go_wp2_with fail; refine hK.out _ _ ?hS12 (fun hHeld => ?rr12))
   case hS12 => exact HSS.out _ (HY1.out.alloc HY1.out.size _)
   clear hK K
   (try simp only [PT])
   obtain ⟨y2, hy⟩ : ∃ X, y1.alloc (.cells (enC zeroE (.slice none 0 0)) 124) = X := ⟨_, rfl⟩
   rw [enZero] at hy
   rw [hy]
   obtain ⟨G, hG⟩ : ∃ x, y1.heap.size = x := ⟨_, rfl⟩
   rw [hG]
   rw [← enZero] at hy
   have HX11 : Hid (Below y1.heap.size y1 y2) := Lib.hid (by rw [← hy]; exact (Below.refl _ _).alloc (Nat.le_refl _) _)
   have HZ11 : Hid (Km y2 G zeroE (.slice none 0 0)) := Lib.hid (by rw [← hG, ← hy]; exact heap_alloc_new _ _)
   have HGB : Hid (w0.heap.size ≤ G) := Lib.hid (by rw [← hG]; exact HY1.out.size)
   clear hy hG
   have HY2 := Lib.hid (below_step HY1.out HX11.out)
   clear hHeld
   have hHeld := HSS.out _ HY2.out
   refine ready_at 11 rfl (by kernel_rfl) (fun K hK => ?_)
   rw [if_pos (by rfl)]
   refine wp_store_row 124 _ _ rfl G (enC q.e q.s) rfl rfl 124 _ HZ11.out (knC_sizeOf q.e _ q.hd) ((enC_size _ _ rfl).trans (enC_size q.e _ q.hd).symm) (enC_one _ _ _ _) ?_
   have HZ13 := Lib.hid (Mx.row (a' := []) (dg' := q.e.dg) (z' := q.e.t q.s) HZ11.out)
   have HW13 := Lib.hid (below_setRow8 HY2.out G (enC q.e q.s) HGB.out)
   refine hK.out _ _ ?hS14 (fun hHeld => ?rr14)
   case hS14 => exact HSS.out _ HW13.out
   clear hK K
   (try simp only [PT])
   refine tk 12 rfl ?_;(try simp only [PT])
   refine wpAnyH_done (by kernel_rfl) ?_ _
   go_wp2_with fail
   go_meet
   exact ⟨G, rfl, rfl, HZ13, HGB, HW13⟩
  case ofa =>
   go_simp
   first
    | refine hK.out _ _ ?hS17 (fun hHeld => ?rr17)
    | (go_wp2_with fail; refine hK.out _ _ ?hS17 (fun hHeld => ?rr17))
   case hS17 => exact HSS.out _ (HY0.out.alloc HY0.out.size _)
   clear hK K
   (try simp only [PT])
   obtain ⟨y1, hy⟩ : ∃ X, y0.alloc (.cells (enC zeroE (.slice none 0 0)) 124) = X := ⟨_, rfl⟩
   rw [enZero] at hy
   rw [hy]
   obtain ⟨G, hG⟩ : ∃ x, y0.heap.size = x := ⟨_, rfl⟩
   rw [hG]
   rw [← enZero] at hy
   have HX16 : Hid (Below y0.heap.size y0 y1) := Lib.hid (by rw [← hy]; exact (Below.refl _ _).alloc (Nat.le_refl _) _)
   have HZ16 : Hid (Km y1 G zeroE (.slice none 0 0)) := Lib.hid (by rw [← hG, ← hy]; exact heap_alloc_new _ _)
   have HGB : Hid (w0.heap.size ≤ G) := Lib.hid (by rw [← hG]; exact HY0.out.size)
   clear hy hG
   have HY1 := Lib.hid (below_step HY0.out HX16.out)
   clear hHeld
   have hHeld := HSS.out _ HY1.out
   refine ready_at 6 rfl (by kernel_rfl) (fun K hK => ?_)
   go_simp
   refine (HG.out _ HY1.out).mono ?_
   rintro ex y2 ⟨rfl, hb⟩
   have HX18 : Hid (Below y1.heap.size y1 y2) := Lib.hid hb
   clear hb
   (try dsimp only)
   first
    | refine hK.out _ _ ?hS19 (fun hHeld => ?rr19)
    | (go_wp2_with fail; refine hK.out _ _ ?hS19 (fun hHeld => ?rr19))
   case hS19 => exact HSS.out _ (below_step HY1.out HX18.out)
   clear hK K
   (try simp only [PT])
   have HY2 := Lib.hid (below_step HY1.out HX18.out)
   clear hHeld
   have hHeld := HSS.out _ HY2.out
   refine tk 7 rfl ?_;(try simp only [PT]);refine tk 8 rfl ?_;(try simp only [PT]);refine tk 9 rfl ?_;(try simp only [PT])
   have HZL := Lib.hid (Mx.later HZ16.out HX18.out)
   refine ready_at 11 rfl (by kernel_rfl) (fun K hK => ?_)
   rw [if_pos (by rfl)]
   refine wp_store_row 124 _ _ rfl G (enC q.e q.s) rfl rfl 124 _ HZL.out (knC_sizeOf q.e _ q.hd) ((enC_size _ _ rfl).trans (enC_size q.e _ q.hd).symm) (enC_one _ _ _ _) ?_
   have HZ23 := Lib.hid (Mx.row (a' := []) (dg' := q.e.dg) (z' := q.e.t q.s) HZL.out)
   have HW23 := Lib.hid (below_setRow8 HY2.out G (enC q.e q.s) HGB.out)
   refine hK.out _ _ ?hS24 (fun hHeld => ?rr24)
   case hS24 => exact HSS.out _ HW23.out
   clear hK K
   (try simp only [PT])
   refine tk 12 rfl ?_;(try simp only [PT])
   refine wpAnyH_done (by kernel_rfl) ?_ _
   go_wp2_with fail
   go_meet
   exact ⟨G, rfl, rfl, HZ23, HGB, HW23⟩
 case rest =>
  obtain ⟨G, rfl, rfl, HKM, HGB, HBC⟩ := hcut
  have k0 := HKC.out _ HBC.out
  have HCB := Lib.hid fun W => changeBy_any x.k fb W
  have HLK := Lib.hid (HKM.out.load q.hd)
  have HWL := Lib.hid (HLW.out _ HBC.out)
  have HBW := Lib.hid (below_step HB0.out HBC.out)
  have HIW := Lib.hid (HIX.out.later HBC.out)
  obtain ⟨cv, hcv⟩ : ∃ c, chgV x.k fb = c := ⟨_, rfl⟩
  rw [hcv] at HCB
  have HCV := Lib.hid hcv
  have hnf := neq_fn
  have hnn := neq_nf
  clear hB hcv
  go_upto_region 4 with (go_at_call 78; refine (HCB.out _).mono ?_; rintro r w3 ⟨rfl, rfl⟩)
  by_cases h1 : x.k = 1 ∨ x.k = 2
  ·have HC1 : Hid (cv = .func (.func 110) #[] #[]) := Lib.hid (by rw [← HCV.out]; unfold chgV; rw [if_pos h1])
   have HA1 : Hid (applyE L x = setE L (putE q.e x)) := Lib.hid (by rw [HAE.out, if_pos h1])
   have hc1 := HC1.out
   subst hc1
   have HPU := Lib.hid (kput_any q.e q.s x _ HIW.out HDK.out HX.out (by have := HLN.out; omega))
   unfold enV Wq.v at HPU
   rw [HMX.out] at HPU
   clear k0 h1
   go_upto_region 5 with fail
   go_wp2_with (first
    | (refine wpList_ld rfl 124 _ rfl _ rfl _ HLK.out ?_)
    | (refine wpList_ld rfl 39 _ rfl _ rfl _ HWL.out ?_)
    | (go_at_call 110; refine HPU.out.mono ?_; rintro r w5 ⟨u, rfl, hg5, hb5⟩; have HB5 := Lib.hid (below_step HBW.out hb5); have HSE := (Lib.hid (set_any HGG.out (putE q.e x) u (HH.out.later HB5.out) hg5.is (fun _ k hk e => by have h7 := (World.ownsRow.lt hg5 k hk).1; have h8 := HBL.out; have h9 := HBW.out.size; omega) HX.out (Nat.le_trans (putrow_length _ _) (by have := HLN.out; omega)) HLL.out)); clear hg5 hb5; unfold enV at HSE; unfold enV)
    | (go_at_call 73; refine HSE.out.mono ?_; rintro r w6 hop; have HOP := Lib.hid hop; have hr := hop.choose_spec.choose_spec.1; subst hr; clear hop))
   refine bodyPost_end (results_none rfl _ _ _) rfl ?_
   rw [HA1.out]
   exact HOP.out.pre HB5.out
  ·by_cases h5 : x.k = 5 ∧ fb = true
   ·have HC1 : Hid (cv = .func (.func 111) #[] #[]) := Lib.hid (by rw [← HCV.out]; unfold chgV; rw [if_neg h1, if_pos h5])
    have HA1 : Hid (applyE L x = setE L (delE q.e x)) := Lib.hid (by rw [HAE.out, if_neg h1, if_pos h5])
    have hc1 := HC1.out
    subst hc1
    have HPU := Lib.hid (kdel_any q.e q.s x _ HIW.out HDK.out HX.out (by have := HLN.out; omega))
    unfold enV Wq.v at HPU
    rw [HMX.out] at HPU
    clear k0 h1 h5
    go_upto_region 5 with fail
    go_wp2_with (first
     | (refine wpList_ld rfl 124 _ rfl _ rfl _ HLK.out ?_)
     | (refine wpList_ld rfl 39 _ rfl _ rfl _ HWL.out ?_)
     | (go_at_call 111; refine HPU.out.mono ?_; rintro r w5 ⟨u, rfl, hg5, hb5⟩; have HB5 := Lib.hid (below_step HBW.out hb5); have HSE := (Lib.hid (set_any HGG.out (delE q.e x) u (HH.out.later HB5.out) hg5.is (fun _ k hk e => by have h7 := (World.ownsRow.lt hg5 k hk).1; have h8 := HBL.out; have h9 := HBW.out.size; omega) HDK.out (Nat.le_trans (rowI_length _) (by have := HLN.out; omega)) HLL.out)); clear hg5 hb5; unfold enV at HSE; unfold enV)
     | (go_at_call 73; refine HSE.out.mono ?_; rintro r w6 hop; have HOP := Lib.hid hop; have hr := hop.choose_spec.choose_spec.1; subst hr; clear hop))
    refine bodyPost_end (results_none rfl _ _ _) rfl ?_
    rw [HA1.out]
    exact HOP.out.pre HB5.out
   ·have HC1 : Hid (cv = .nilFunc) := Lib.hid (by rw [← HCV.out]; unfold chgV; rw [if_neg h1, if_neg h5])
    have HA1 : Hid (applyE L x = L) := Lib.hid (by rw [HAE.out, if_neg h1, if_neg h5])
    have hc1 := HC1.out
    subst hc1
    clear h1 h5 k0
    go_wp2
    refine bodyPost_end (results_none rfl _ _ _) rfl ?_
    rw [HA1.out]
    exact OpB.none HBW.out (HH.out.later HBW.out)
theorem Ds.hold {W W' : World} {p : Option Addr} {n : Nat} {L : List (List Int)} (h : Ds W p n L) (hk : n ≠ 0 → ∀ b off, p = some ⟨b, off, none⟩ → W'.heap[b]? = W.heap[b]?) : Ds W' p n L := by
 obtain ⟨h1, h2, h3⟩ := h
 refine ⟨h1, h2, ?_⟩
 rcases h3 with h3 | ⟨b, off, hp, hc⟩
 ·exact Or.inl h3
 ·by_cases hn : n = 0
  ·exact Or.inl hn
  ·refine Or.inr ⟨b, off, hp, fun j k hj hk2 => ?_⟩
   rw [World.cell?_of_block (a := ⟨b, off + (j * 32 + k), none⟩) (hk hn b off hp)]
   exact hc j k hj hk2
/-- amid Keep's loop -/
structure KpI (w W : World) (bI : Nat) (ST F ST' F' : Nat → Prop) (v : Value) (L : List Pe) (p1 : Option Addr) (n : Nat) (K : List (List Int)) (p2 : Option Addr) (m2 : Nat) (B : List Int) : Prop where
 ix : IxB W bI ST' F' v L
 ds : Ds W p1 n K
 dn : n ≠ 0 → ∀ b off, p1 = some ⟨b, off, none⟩ → ¬ ST' b ∧ b ≠ bI ∧ b < W.heap.size
 gs : Gs encI W p2 m2 B
 gn : m2 ≠ 0 → ∀ b off, p2 = some ⟨b, off, none⟩ → ¬ ST' b ∧ b ≠ bI ∧ b < W.heap.size
 ch : Chg (fun k => k = bI ∨ ST k) w W
 sn : ∀ b, ST' b → ST b ∨ w.heap.size ≤ b
 fn : ∀ b, F' b → F b ∨ w.heap.size ≤ b
section
variable {w W V : World} {bI : Nat} {ST F ST' F' : Nat → Prop} {v : Value} {L L' : List Pe} {p1 : Option Addr} {n : Nat} {K : List (List Int)} {p2 : Option Addr} {m2 : Nat} {B : List Int}
theorem KpI.later (h : KpI w W bI ST F ST' F' v L p1 n K p2 m2 B) (hb : Below W.heap.size W V) : KpI w V bI ST F ST' F' v L p1 n K p2 m2 B :=
 ⟨h.ix.later hb, h.ds.later hb, fun hn b off e => ⟨(h.dn hn b off e).1, (h.dn hn b off e).2.1, Nat.lt_of_lt_of_le (h.dn hn b off e).2.2 hb.size⟩, h.gs.later hb, fun hn b off e => ⟨(h.gn hn b off e).1, (h.gn hn b off e).2.1, Nat.lt_of_lt_of_le (h.gn hn b off e).2.2 hb.size⟩,
  h.ch.tr (Chg.of_below (S := fun k => k = bI ∨ ST k) hb) (fun b h => Or.inl h), h.sn, h.fn⟩
theorem KpI.op {e : Ending} (h : KpI w W bI ST F ST' F' v L p1 n K p2 m2 B) (ho : OpB W bI ST' F' v L' e V) : e = .returned (.tuple #[]) ∧ ∃ S2 F2, KpI w V bI ST F S2 F2 v L' p1 n K p2 m2 B := by
 obtain ⟨S2, F2, h1, h2, h3, h4, h5⟩ := ho
 have hk : ∀ b, ¬ ST' b ∧ b ≠ bI ∧ b < W.heap.size → V.heap[b]? = W.heap[b]? := fun b hb => h3.block b hb.2.2 (fun e => e.elim hb.2.1 hb.1)
 have hn2 : ∀ b, ¬ ST' b ∧ b ≠ bI ∧ b < W.heap.size → ¬ S2 b ∧ b ≠ bI ∧ b < V.heap.size := fun b hb => ⟨fun e => (h4 b e).elim hb.1 (fun e2 => absurd hb.2.2 (Nat.not_lt.2 e2)), hb.2.1, Nat.lt_of_lt_of_le hb.2.2 h3.size⟩
 exact ⟨h1, S2, F2, h2, h.ds.hold fun hn b off e => hk b (h.dn hn b off e), fun hn b off e => hn2 b (h.dn hn b off e), h.gs.hold fun hn b off e => hk b (h.gn hn b off e), fun hn b off e => hn2 b (h.gn hn b off e),
  h.ch.tr h3 (fun b hb => hb.elim (fun e => Or.inl (Or.inl e)) (fun e => (h.sn b e).imp Or.inr id)), fun b hb => (h4 b hb).elim (h.sn b) (fun e => Or.inr (Nat.le_trans h.ch.size e)), fun b hb => (h5 b hb).elim (h.fn b) (fun e => Or.inr (Nat.le_trans h.ch.size e))⟩
end
/-- what Get of the table answers of an entry that is there -/
theorem IxB.table {w : World} {bI : Nat} {ST F : Nat → Prop} {v : Value} {L : List Pe} (h : IxB w bI ST F v L) {x : Pe} (hx : getE L x.dg = some x) :
 ∃ q : Ex, q.e = x ∧ Is w q.s q.e.ins ∧ ∀ W, Below w.heap.size w W → Calls Tryz.prog 77 #[v, .agg (bcs x.dg)] W fun e w' => e = .returned (.tuple #[enV q.e q.s, .bool true]) ∧ Below W.heap.size W w' := by
 have hd : Go.Proofs.YtpfbfhigelbfcaaGreat.dok x.dg := h.dok x (getE_mem hx).1
 obtain ⟨T, sl, h, hp⟩ := h
 have h1 := hp.get (tb_uq h.tb) x.dg
 rw [hx] at h1
 obtain ⟨q, hq, hqe⟩ := Option.map_eq_some_iff.1 h1
 refine ⟨q, hqe, h.is _ (Tg.getN_some hq), fun W hW => ?_⟩
 have h2 := Tg.get_any x.dg (h.later hW).tb hd
 unfold Tg.GetT at h2
 rw [hq] at h2
 exact h2
set_option maxRecDepth 100000 in
set_option maxHeartbeats 8000000 in
theorem ikeep_any (hG : Tg.GrowOk) (hR : RowOk) {w : World} {bI : Nat} {ST F : Nat → Prop} {v : Value} {L : List Pe} (p2 : Option Addr) (m2 c2 : Nat) (B : List Int) (h : IxB w bI ST F v L) (hu : Gs encI w p2 m2 B) (hub : m2 ≠ 0 → ∀ b off, p2 = some ⟨b, off, none⟩ → ¬ ST b ∧ b ≠ bI) (hm : m2 ≤ 2097152) (hL : L.length ≤ 1048576) (hi : insLe L 2097152) :
 Calls Tryz.prog 49 #[.pointer (some ⟨bI, 0, none⟩), .slice p2 m2 c2] w fun r w' => OpB w bI ST F v (keepR L B) r w' := by
 have HH := Lib.hid h
 have HIL := Lib.hid hi
 have HLL := Lib.hid hL
 have HGG := Lib.hid hG
 have HM2 := Lib.hid hm
 have c0 := h.cell
 have HK := Lib.hid (h.keys hR hL)
 have HRW := Lib.hid h.row
 have HDK := Lib.hid h.dok
 have HDG : Hid (dgsOk L) := Lib.hid fun x hx => (h.dok x hx).1
 have HLM : Hid ((L.map (·.dg)).length = L.length) := Lib.hid (List.length_map _)
 have HST : Hid (∀ b, ST b ∨ b = bI → b < w.heap.size) := Lib.hid fun b hb => by
  obtain ⟨T, sl, h, _⟩ := h
  exact h.all_lt b (hb.elim (fun e => Or.inr (Or.inl e)) Or.inl)
 have HU := Lib.hid hu
 have HUB : Hid (m2 ≠ 0 → ∀ b off, p2 = some ⟨b, off, none⟩ → ¬ ST b ∧ b ≠ bI ∧ b < w.heap.size) := Lib.hid fun hn b off e => ⟨(hub hn b off e).1, (hub hn b off e).2, by subst e; exact hu.block_lt (by omega)⟩
 have HKP : Hid (keepR L B = keepR L B) := Lib.hid rfl
 clear h hi hR hG hu hub hm
 go_enter Tryz.func49, Tryz.ntmps49
 go_wp2_with (go_at_call 85; refine HK.out.mono ?_; rintro e w1 ⟨u, rfl, ho1, hb1⟩; obtain ⟨p1, k1, hv1, h1, h2, h3, h4, _⟩ := ho1.open; rw [HLM.out] at hv1 h1; obtain ⟨n, hn⟩ : ∃ n, L.length = n := ⟨_, rfl⟩; rw [hn] at hv1 h1; subst hv1)
 have HN := Lib.hid hn
 have HPT := Lib.hid fun (h : 0 < n) => ho1.ptr h
 have HKI : Hid (KpI w w1 bI ST F ST F v (keepR (L.take 0) B ++ L.drop 0) p1 n (L.map (·.dg)) p2 m2 B) := Lib.hid
  ⟨by simpa [keepR] using HH.out.later hb1, ho1.ds, fun hne b off e => by
   have h5 := World.ownsRow.lt ho1.2 b (by rw [e]; rfl)
   exact ⟨fun e2 => by have := HST.out b (Or.inl e2); omega, fun e2 => by have := HST.out b (Or.inr e2); omega, h5.2⟩,
   HU.out.later hb1, fun hne b off e => ⟨(HUB.out hne b off e).1, (HUB.out hne b off e).2.1, Nat.lt_of_lt_of_le (HUB.out hne b off e).2.2 hb1.size⟩, Chg.of_below hb1, fun b hb => Or.inl hb, fun b hb => Or.inl hb⟩
 have hnl : n ≤ 1048576 := by rw [← hn]; exact hL
 clear ho1 hb1 h1 h2 h3 h4 c0 hn hL
 go_loopw [18] (fun j wr => ∃ (k : Nat) (S1 F1 : Nat → Prop), k ≤ n ∧ j = .int .i64 (k : Int) ∧ Hid (KpI w wr bI ST F S1 F1 v (keepR (L.take k) B ++ L.drop k) p1 n (L.map (·.dg)) p2 m2 B)) (fun j _ => n - (intOf j).toNat)
 case atStart => exact ⟨0, ST, F, by omega, rfl, HKI⟩
 case round =>
  obtain ⟨k, S1, F1, hkn, rfl, HI⟩ := hrel
  by_cases hlt : k < n
  ·have hx : L[k]? = some (L[k]'(by rw [HN.out]; exact hlt)) := List.getElem?_eq_getElem _
   obtain ⟨x, hxx⟩ : ∃ x, L[k]'(by rw [HN.out]; exact hlt) = x := ⟨_, rfl⟩
   rw [hxx] at hx
   have hxm : x ∈ L := List.mem_of_getElem? hx
   have HXD := Lib.hid (HDK.out x hxm)
   obtain ⟨b1, off, hp1⟩ : ∃ b off, p1 = some ⟨b, off, none⟩ := by
    obtain ⟨g, hg⟩ := HPT.out (Nat.lt_of_le_of_lt (Nat.zero_le k) hlt)
    exact ⟨g, 0, hg⟩
   subst hp1
   have hgd : (L.map (·.dg)).getD k [] = x.dg := by
    rw [List.getD_eq_getElem?_getD, List.getElem?_map, hx]
    rfl
   have HLD := Lib.hid (HI.out.ds.load k hlt)
   rw [hgd] at HLD
   have HXI : Hid (x.ins.length ≤ 2097152) := Lib.hid (HIL.out x hxm)
   have HGE := Lib.hid (keep_get (b := B) HRW.out hx)
   have HSET := Lib.hid fun (h : (keepE x B).2 = true) => keep_set (b := B) HRW.out HDG.out hx h
   have HCUT := Lib.hid fun (h : (keepE x B).2 = false) => keep_cut (b := B) HRW.out hx h
   have HLK : Hid ((keepR (L.take k) B ++ L.drop k).length ≤ 1048576) := Lib.hid (by
    have h5 := keepR_length (L.take k) B
    rw [List.length_append, List.length_drop]
    rw [List.length_take] at h5
    have := HLL.out
    omega)
   have hki : (k : Int) < (n : Int) := by omega
   have hk0 : (0 : Int) ≤ (k : Int) := by omega
   have HZX : Hid ((Tryz.prog.info? 35).map (·.size) = some (bcs x.dg).size) := Lib.hid (by rw [bcs_size, HXD.out.1]; exact sizeD32)
   have HZ3 : Hid ((bcs dzero).size = (bcs x.dg).size) := Lib.hid (by rw [bcs_size, bcs_size, HXD.out.1]; rfl)
   clear hx hxx hxm hgd
   go_upto_region 4 with (first
    | (refine wpList_ld rfl 35 _ rfl _ rfl _ HLD.out ?_)
    | (refine wpList_store_row rfl 35 _ _ rfl wr.heap.size (bcs x.dg) rfl rfl 35 _ (heap_alloc_new _ _) HZX.out HZ3.out (bcs_one _) ?_; generalize hw2 : World.setRow _ _ _ = w2))
   obtain ⟨hy2, hb2⟩ := lay_dgE rfl hw2
   obtain ⟨g2, hg2⟩ : ∃ g, wr.heap.size = g := ⟨_, rfl⟩
   rw [hg2] at hy2
   rw [hg2]
   have HI2 := Lib.hid (HI.out.later hb2)
   have HL2 := Lib.hid fun W (hW : Below w2.heap.size w2 W) => Tg.yw_dig (hy2.later hW) HXD.out.1
   obtain ⟨q, hqe, hqi, hqc⟩ := HI2.out.ix.table HGE.out
   have HQE := Lib.hid hqe
   have HQI := Lib.hid hqi
   have HG := Lib.hid hqc
   have HSS : Hid (∀ W, Below w2.heap.size w2 W → (fun W : World => W.cell? ⟨bI, 0, none⟩ = some v ∧ Below w2.heap.size w2 W) W) := Lib.hid fun W hW => ⟨(HI2.out.ix.later hW).cell, hW⟩
   clear hy2 hb2 hw2 hg2 hqe hqi hqc
   generalize hM : bcs x.dg = M at *
   have HM := Lib.hid hM
   clear hM
   simp only [Act.put]
   go_cut [6, 7] (fun g fq wx => ∃ G : Nat, g = .pointer (some ⟨G, 0, none⟩) ∧ fq = .bool true ∧ Hid (Km wx G q.e q.s) ∧ Hid (w2.heap.size ≤ G) ∧ Hid (Below w2.heap.size w2 wx))
   case first =>
    refine wp_region_held_drew (S := (fun W : World => W.cell? ⟨bI, 0, none⟩ = some v ∧ Below w2.heap.size w2 W)) (by kernel_rfl) (HSS.out _ (Below.refl _ _).drew) (fun hHeld => ?_)
    refine tk 0 rfl ?_;(try simp only [PT]);refine tk 1 rfl ?_;(try simp only [PT]);refine tk 2 rfl ?_;(try simp only [PT]);refine tk 3 rfl ?_;(try simp only [PT])
    refine tkL 4 rfl (yieldsIf_ld (by rfl) 35 (.tmp 5) rfl (.pointer (some ⟨g2, 0, none⟩)) rfl (.agg M) (fun W hW => HL2.out W hW.2)) ?_
    (try simp only [PT])
    obtain ⟨y0, hy0⟩ : ∃ X, w2.drew = X := ⟨_, rfl⟩
    have HY0 : Hid (Below w2.heap.size w2 y0) := Lib.hid (by rw [← hy0]; exact (Below.refl _ _).drew)
    rw [hy0]
    clear hy0 hHeld
    have hHeld := HSS.out _ HY0.out
    refine wpAnyH_ready (rs := [5, 9]) (by kernel_rfl) (by simp) (all_at 5 rfl (fun K hK => ?ofc) (all_at 9 rfl (fun K hK => ?ofa) AllReadyH.nil))
    case ofc =>
     go_simp
     refine (HG.out _ HY0.out).mono ?_
     rintro ex y1 ⟨rfl, hb⟩
     have HX30 : Hid (Below y0.heap.size y0 y1) := Lib.hid hb
     clear hb
     (try dsimp only)
     first
      | refine hK.out _ _ ?hS31 (fun hHeld => ?rr31)
      | (go_wp2_with fail; refine hK.out _ _ ?hS31 (fun hHeld => ?rr31))
     case hS31 => exact HSS.out _ (below_step HY0.out HX30.out)
     clear hK K
     (try simp only [PT])
     have HY1 := Lib.hid (below_step HY0.out HX30.out)
     clear hHeld
     have hHeld := HSS.out _ HY1.out
     refine tk 6 rfl ?_;(try simp only [PT]);refine tk 7 rfl ?_;(try simp only [PT]);refine tk 8 rfl ?_;(try simp only [PT])
     refine ready_at 9 rfl (by kernel_rfl) (fun K hK => ?_)
     go_simp
     first
      | refine hK.out _ _ ?hS36 (fun hHeld => ?rr36)
      | (go_wp2_with fail; refine hK.out _ _ ?hS36 (fun hHeld => ?rr36))
     case hS36 => exact HSS.out _ (HY1.out.alloc HY1.out.size _)
     clear hK K
     (try simp only [PT])
     obtain ⟨y2, hy⟩ : ∃ X, y1.alloc (.cells (enC zeroE (.slice none 0 0)) 124) = X := ⟨_, rfl⟩
     rw [enZero] at hy
     rw [hy]
     obtain ⟨G, hG⟩ : ∃ x, y1.heap.size = x := ⟨_, rfl⟩
     rw [hG]
     rw [← enZero] at hy
     have HX35 : Hid (Below y1.heap.size y1 y2) := Lib.hid (by rw [← hy]; exact (Below.refl _ _).alloc (Nat.le_refl _) _)
     have HZ35 : Hid (Km y2 G zeroE (.slice none 0 0)) := Lib.hid (by rw [← hG, ← hy]; exact heap_alloc_new _ _)
     have HGB : Hid (w2.heap.size ≤ G) := Lib.hid (by rw [← hG]; exact HY1.out.size)
     clear hy hG
     have HY2 := Lib.hid (below_step HY1.out HX35.out)
     clear hHeld
     have hHeld := HSS.out _ HY2.out
     refine ready_at 10 rfl (by kernel_rfl) (fun K hK => ?_)
     rw [if_pos (by rfl)]
     refine wp_store_row 124 _ _ rfl G (enC q.e q.s) rfl rfl 124 _ HZ35.out (knC_sizeOf q.e _ q.hd) ((enC_size _ _ rfl).trans (enC_size q.e _ q.hd).symm) (enC_one _ _ _ _) ?_
     have HZ37 := Lib.hid (Mx.row (a' := []) (dg' := q.e.dg) (z' := q.e.t q.s) HZ35.out)
     have HW37 := Lib.hid (below_setRow8 HY2.out G (enC q.e q.s) HGB.out)
     refine hK.out _ _ ?hS38 (fun hHeld => ?rr38)
     case hS38 => exact HSS.out _ HW37.out
     clear hK K
     (try simp only [PT])
     refine tk 11 rfl ?_;(try simp only [PT])
     refine wpAnyH_done (by kernel_rfl) ?_ _
     go_wp2_with fail
     go_meet
     exact ⟨G, rfl, rfl, HZ37, HGB, HW37⟩
    case ofa =>
     go_simp
     first
      | refine hK.out _ _ ?hS41 (fun hHeld => ?rr41)
      | (go_wp2_with fail; refine hK.out _ _ ?hS41 (fun hHeld => ?rr41))
     case hS41 => exact HSS.out _ (HY0.out.alloc HY0.out.size _)
     clear hK K
     (try simp only [PT])
     obtain ⟨y1, hy⟩ : ∃ X, y0.alloc (.cells (enC zeroE (.slice none 0 0)) 124) = X := ⟨_, rfl⟩
     rw [enZero] at hy
     rw [hy]
     obtain ⟨G, hG⟩ : ∃ x, y0.heap.size = x := ⟨_, rfl⟩
     rw [hG]
     rw [← enZero] at hy
     have HX40 : Hid (Below y0.heap.size y0 y1) := Lib.hid (by rw [← hy]; exact (Below.refl _ _).alloc (Nat.le_refl _) _)
     have HZ40 : Hid (Km y1 G zeroE (.slice none 0 0)) := Lib.hid (by rw [← hG, ← hy]; exact heap_alloc_new _ _)
     have HGB : Hid (w2.heap.size ≤ G) := Lib.hid (by rw [← hG]; exact HY0.out.size)
     clear hy hG
     have HY1 := Lib.hid (below_step HY0.out HX40.out)
     clear hHeld
     have hHeld := HSS.out _ HY1.out
     refine ready_at 5 rfl (by kernel_rfl) (fun K hK => ?_)
     go_simp
     refine (HG.out _ HY1.out).mono ?_
     rintro ex y2 ⟨rfl, hb⟩
     have HX42 : Hid (Below y1.heap.size y1 y2) := Lib.hid hb
     clear hb
     (try dsimp only)
     first
      | refine hK.out _ _ ?hS43 (fun hHeld => ?rr43)
      | (go_wp2_with fail; refine hK.out _ _ ?hS43 (fun hHeld => ?rr43))
     case hS43 => exact HSS.out _ (below_step HY1.out HX42.out)
     clear hK K
     (try simp only [PT])
     have HY2 := Lib.hid (below_step HY1.out HX42.out)
     clear hHeld
     have hHeld := HSS.out _ HY2.out
     refine tk 6 rfl ?_;(try simp only [PT]);refine tk 7 rfl ?_;(try simp only [PT]);refine tk 8 rfl ?_;(try simp only [PT])
     have HZL := Lib.hid (Mx.later HZ40.out HX42.out)
     refine ready_at 10 rfl (by kernel_rfl) (fun K hK => ?_)
     rw [if_pos (by rfl)]
     refine wp_store_row 124 _ _ rfl G (enC q.e q.s) rfl rfl 124 _ HZL.out (knC_sizeOf q.e _ q.hd) ((enC_size _ _ rfl).trans (enC_size q.e _ q.hd).symm) (enC_one _ _ _ _) ?_
     have HZ47 := Lib.hid (Mx.row (a' := []) (dg' := q.e.dg) (z' := q.e.t q.s) HZL.out)
     have HW47 := Lib.hid (below_setRow8 HY2.out G (enC q.e q.s) HGB.out)
     refine hK.out _ _ ?hS48 (fun hHeld => ?rr48)
     case hS48 => exact HSS.out _ HW47.out
     clear hK K
     (try simp only [PT])
     refine tk 11 rfl ?_;(try simp only [PT])
     refine wpAnyH_done (by kernel_rfl) ?_ _
     go_wp2_with fail
     go_meet
     exact ⟨G, rfl, rfl, HZ47, HGB, HW47⟩
   case rest =>
    obtain ⟨G, rfl, rfl, HKM, HGB, HBC⟩ := hcut
    have HIC := Lib.hid (HI2.out.later HBC.out)
    have HL3 := Lib.hid (HL2.out _ HBC.out)
    have HLK3 := Lib.hid (HKM.out.load q.hd)
    have HLY := Lib.hid fun W (hW : Below _ _ W) => HL2.out W (below_step HBC.out hW)
    have HKE := Lib.hid (pkeep_any q.e q.s p2 m2 c2 B _ (HQI.out.later HBC.out) HIC.out.gs (by rw [HQE.out]; exact HXD.out) (by rw [HQE.out]; exact HXI.out) HM2.out)
    rw [HQE.out] at HKE HLK3
    have HYD := Lib.hid (keepE_dok20 HXD.out B)
    have HYL := Lib.hid (keepE_length x B)
    obtain ⟨R, hR⟩ : ∃ R, keepE x B = R := ⟨_, rfl⟩
    rw [hR] at HKE HSET HCUT HYD HYL
    obtain ⟨R, ok⟩ := R
    dsimp only at HKE HSET HCUT HYD HYL
    unfold enV at HKE
    obtain ⟨MQ, hMQ⟩ : ∃ M, enC x q.s = M := ⟨_, rfl⟩
    rw [hMQ] at HKE HLK3
    clear hR hMQ
    go_upto_region 6 with (first
     | (refine wpList_ld rfl 124 _ rfl _ rfl _ HLK3.out ?_)
     | (go_at_call 86; refine HKE.out.mono ?_; rintro e w3 ⟨u3, rfl, hg3, hb3⟩; have HG3 := Lib.hid hg3; have HB3 := Lib.hid hb3; obtain ⟨q3, d3, hv3, _⟩ := hg3.open; subst hv3; clear hg3 hb3; unfold enV)
     | (refine wpList_store_row rfl 59 _ _ rfl w3.heap.size (enC R _) rfl rfl 59 _ (heap_alloc_new _ _) (enC_sizeOf R _ HYD.out.1) ((enC_size zeroE _ rfl).trans (enC_size R _ HYD.out.1).symm) (enC_one _ _ _ _) ?_; generalize hv4 : World.setRow _ _ _ = w4))
    obtain ⟨he4, hb4⟩ := enC_lay rfl hv4
    obtain ⟨g4, hg4⟩ : ∃ g, w3.heap.size = g := ⟨_, rfl⟩
    rw [hg4] at he4
    rw [hg4]
    have HB4 := Lib.hid (below_step HB3.out hb4)
    have HI4 := Lib.hid (HIC.out.later HB4.out)
    have HLE := Lib.hid (he4.load HYD.out.1)
    have HLD4 := Lib.hid (HLY.out _ HB4.out)
    have HIS := Lib.hid (HG3.out.later hb4).is
    have HBI : Hid (bI < w2.heap.size) := Lib.hid (by obtain ⟨T, sl, h5, _⟩ := HI2.out.ix; exact h5.bI_lt)
    have HNB := Lib.hid fun b (hb : (Value.slice q3 R.ins.length d3).ownBlock = some b) => Nat.lt_of_lt_of_le (Nat.lt_of_lt_of_le HBI.out HBC.out.size) (World.ownsRow.lt HG3.out b hb).1
    clear he4 hb4 hv4 hg4
    cases ok with
    | true =>
      have HSE := Lib.hid (set_any HGG.out R _ HI4.out.ix HIS.out (fun _ b hb e => by have := HNB.out b hb; omega) HYD.out (by have h5 := HYL.out; have h6 := HXI.out; omega) HLK.out)
      rw [HSET.out rfl] at HSE
      unfold enV at HSE
      go_wp2_with (first
       | (refine wpList_ld rfl 59 _ rfl _ rfl _ HLE.out ?_)
       | (go_at_call 73; refine HSE.out.mono ?_; rintro r w5 hop; obtain ⟨hr5, S5, F5, hn5⟩ := HI4.out.op hop; subst hr5; have HN5 := Lib.hid hn5; clear hop hn5))
      exact ⟨⟨k + 1, S5, F5, by omega, by go_num, HN5⟩, by simp [intOf] <;> omega⟩
    | false =>
      have HSE := Lib.hid (cutI_any x.dg HI4.out.ix HXD.out HLK.out)
      rw [HCUT.out rfl, HM.out] at HSE
      go_wp2_with (first
       | (refine wpList_ld rfl 35 _ rfl _ rfl _ HLD4.out ?_)
       | (go_at_call 87; refine HSE.out.mono ?_; rintro r w5 hop; obtain ⟨hr5, S5, F5, hn5⟩ := HI4.out.op hop; subst hr5; have HN5 := Lib.hid hn5; clear hop hn5))
      exact ⟨⟨k + 1, S5, F5, by omega, by go_num, HN5⟩, by simp [intOf] <;> omega⟩
  ·obtain rfl : k = n := by omega
   have HF := HI.out
   rw [List.take_of_length_le (by rw [HN.out]; exact Nat.le_refl _), List.drop_of_length_le (by rw [HN.out]; exact Nat.le_refl _), List.append_nil] at HF
   have HF := Lib.hid HF
   go_wp2
   refine bodyPost_end (results_none rfl _ _ _) rfl ?_
   exact ⟨S1, F1, rfl, HF.out.ix, HF.out.ch, HF.out.sn, HF.out.fn⟩
end Go.Proofs.YtpfbfhigelbfcaaGreat

