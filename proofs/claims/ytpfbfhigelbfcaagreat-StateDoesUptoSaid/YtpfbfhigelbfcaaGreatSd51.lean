/- Layer 21, the program: New, Apply, Keep; Layer 21, the program: Keep; Layer 21, the program: what the laws want of package tags (cut out of TagZ) -/
import Derived.Test.YtpfbfhigelbfcaaGreatSd40
import Derived.Test.YtpfbfhigelbfcaaGreatSd50
set_option linter.unusedSimpArgs false
set_option linter.unusedVariables false
namespace Go.Proofs.YtpfbfhigelbfcaaGreat
open Go.RowKit Go.Lib
/-- a table in the making -/
structure NwT (w W : World) (bT : Nat) (F : Nat → Prop) (v : Value) (L : List Pt) : Prop where
 tg : TgB W bT F v L
 i : w.heap.size ≤ bT
 s : ∀ b, v.ownBlock = some b → w.heap.size ≤ b
 f : ∀ b, F b → w.heap.size ≤ b
 le : Below w.heap.size w W
theorem NwT.op {w W V : World} {bT : Nat} {F : Nat → Prop} {v : Value} {L L' : List Pt} {e : Ending} (h : NwT w W bT F v L) (ho : OpT W bT F v L' e V) : e = .returned (.tuple #[]) ∧ ∃ v' F', NwT w V bT F' v' L' := by
 obtain ⟨v', F', h1, h2, h3, h4, h5⟩ := ho
 refine ⟨h1, v', F', h2, h.i, fun b hb => (h4 b hb).elim (h.s b) (Nat.le_trans h.le.size), fun b hb => (h5 b hb).elim (h.f b) (Nat.le_trans h.le.size), h.le.trans (h3.below (fun b hb => hb.elim (fun e => by rw [e]; exact h.i) (h.s b)) h.le.size)⟩
theorem NwT.later {w W V : World} {bT : Nat} {F : Nat → Prop} {v : Value} {L : List Pt} (h : NwT w W bT F v L) (hb : Below W.heap.size W V) : NwT w V bT F v L := ⟨h.tg.later hb, h.i, h.s, h.f, below_step h.le hb⟩
theorem nwt_start (w : World) : NwT w (w.alloc (.cells #[.slice none 0 0, .int .i64 0] 130)) w.heap.size (fun _ => False) (.slice none 0 0) [] :=
 ⟨⟨[], ⟨heap_alloc_new _ _, Gw.nil _ _ _, (fun k hk => by cases hk), (fun q hq => by cases hq), fun k hk => hk.elim, fun k hk => hk.elim⟩, rfl, List.Pairwise.nil⟩, Nat.le_refl _, (fun b hb => by cases hb), fun b hb => hb.elim, (Below.refl _ _).alloc (Nat.le_refl _) _⟩
theorem newT_take {L : List Pt} {k : Nat} {x : Pt} (h : L[k]? = some x) : newT (L.take (k + 1)) = setT (newT (L.take k)) x := by
 obtain ⟨h2, h3⟩ := List.getElem?_eq_some_iff.1 h
 rw [List.take_succ_eq_append_getElem h2, h3, newT_snoc]
set_option maxRecDepth 100000 in
set_option maxHeartbeats 4000000 in
theorem tnew_any {w : World} {N : Nat → Prop} {p : Option Addr} {n c : Nat} {Ls : List Tx} (h : ReT w N p n Ls) (hn : n ≤ 1048576) (hi : insLeT (ptL Ls) 2097200) :
 Calls Tryz.prog 41 #[.slice p n c] w fun e w' => ∃ bT F v, e = .returned (.pointer (some ⟨bT, 0, none⟩)) ∧ NwT w w' bT F v (newT (ptL Ls)) := by
 have HR := Lib.hid h
 have HLN : Hid ((ptL Ls).length = n) := Lib.hid (by rw [ptL_length, h.gs.len])
 have HIL := Lib.hid hi
 have HNI := Lib.hid (nwt_start w)
 clear h hi
 go_enter Tryz.func41, Tryz.ntmps41
 go_upto_region 2 with fail
 obtain ⟨bT, hbT⟩ : ∃ b, w.heap.size = b := ⟨_, rfl⟩
 have HBT := Lib.hid hbT
 rw [hbT] at HNI
 rw [hbT]
 generalize World.alloc _ _ = w2 at *
 clear hbT
 go_wp2
 go_loopw [10] (fun j wr => ∃ (k : Nat) (F : Nat → Prop) (v : Value), k ≤ n ∧ j = .int .i64 (k : Int) ∧ Hid (NwT w wr bT F v (newT ((ptL Ls).take k)))) (fun j _ => n - (intOf j).toNat)
 case atStart => exact ⟨0, _, _, by omega, rfl, HNI⟩
 case round =>
  obtain ⟨k, F1, v1, hkn, rfl, HI⟩ := hrel
  by_cases hlt : k < n
  ·obtain ⟨b1, off, y, rfl, hy1, hy3, hr⟩ := (HR.out.later HI.out.le).gs.tn k hlt
   have HYD := Lib.hid (HR.out.dk y hy3)
   have HYS := Lib.hid ((HR.out.later HI.out.le).is y hy3)
   have HYN : Hid (y.e.ins.length ≤ 2097200) := Lib.hid (HIL.out y.e (List.mem_map.2 ⟨y, hy3, rfl⟩))
   have HT := Lib.hid (newT_take (ptL_get hy1))
   have HLL : Hid ((newT ((ptL Ls).take k)).length ≤ 1048576) := Lib.hid (by have h1 := newT_length ((ptL Ls).take k); rw [List.length_take] at h1; omega)
   have HLY := Lib.hid (tn_load hr)
   have hki : (k : Int) < (n : Int) := by omega
   have hk0 : (0 : Int) ≤ (k : Int) := by omega
   clear hr hy1 hy3
   go_upto_region 5 with (first
    | (refine wpList_ld rfl 64 _ rfl _ rfl _ HLY.out ?_)
    | (refine wpList_store_row rfl 64 _ _ rfl wr.heap.size (tnC y.e y.s) rfl rfl 64 _ (heap_alloc_new _ _) (tnC_sizeOf y.e _ y.hd) ((tnC_size zeroT _ rfl).trans (tnC_size y.e _ y.hd).symm) (tnC_one _ _ _ _) ?_; generalize hw3 : World.setRow _ _ _ = w3))
   obtain ⟨he3, hb3⟩ := tnC_lay rfl hw3
   obtain ⟨g3, hg3⟩ : ∃ g, wr.heap.size = g := ⟨_, rfl⟩
   rw [hg3] at he3
   rw [hg3]
   have HI3 := Lib.hid (HI.out.later hb3)
   have HL3 := Lib.hid (he3.load y.hd)
   have HSE := Lib.hid (setT_any y.e y.s HI3.out.tg (HYS.out.later hb3) HYD.out HYN.out HLL.out)
   rw [← HT.out] at HSE
   unfold tnV at HSE
   clear he3 hb3 hw3 hg3
   go_wp2_with (first
    | (refine wpList_ld rfl 64 _ rfl _ rfl _ HL3.out ?_)
    | (go_at_call 74; refine HSE.out.mono ?_; rintro r w4 hop; obtain ⟨hr4, v4, F4, hn4⟩ := HI3.out.op hop; subst hr4; have HN4 := Lib.hid hn4; clear hop hn4))
   exact ⟨⟨k + 1, F4, v4, by omega, by go_num, HN4⟩, by simp [intOf] <;> omega⟩
  ·obtain rfl : k = n := by omega
   have HF := HI.out
   rw [List.take_of_length_le (by rw [HLN.out]; exact Nat.le_refl _)] at HF
   have HF := Lib.hid HF
   go_wp2
   go_ret
   exact ⟨bT, F1, v1, rfl, HF.out⟩
theorem OpT.none {w w' : World} {bT : Nat} {F : Nat → Prop} {v : Value} {L : List Pt} (hb : Below w.heap.size w w') (h : TgB w' bT F v L) : OpT w bT F v L (.returned (.tuple #[])) w' :=
 ⟨v, F, rfl, h, Chg.of_below hb, fun b hb => Or.inl hb, fun b hb => Or.inl hb⟩
theorem OpT.pre {w w1 w' : World} {bT : Nat} {F : Nat → Prop} {v : Value} {L : List Pt} {e : Ending} (hb : Below w.heap.size w w1) (h : OpT w1 bT F v L e w') : OpT w bT F v L e w' := by
 obtain ⟨v', F', h1, h2, h3, h4, h5⟩ := h
 exact ⟨v', F', h1, h2, (Chg.of_below (S := fun k => k = bT ∨ v.ownBlock = some k) hb).tr h3 (fun b hb => Or.inl hb), fun b hb2 => (h4 b hb2).imp id (Nat.le_trans hb.size), fun b hb2 => (h5 b hb2).imp id (Nat.le_trans hb.size)⟩
theorem OpT.unit {w w' : World} {bT : Nat} {F : Nat → Prop} {v : Value} {L : List Pt} {e : Ending} (h : OpT w bT F v L e w') : e = .returned (.tuple #[]) := by
 obtain ⟨v', F', h1, _⟩ := h
 exact h1
set_option maxRecDepth 100000 in
set_option maxHeartbeats 8000000 in
theorem tapply_any {w : World} {bT : Nat} {F : Nat → Prop} {v : Value} {L : List Pt} (x : Wq) (h : TgB w bT F v L) (hx : dok x.dg) (hL : L.length ≤ 1048576) (hi : insLeT L 2097151) :
 Calls Tryz.prog 46 #[.pointer (some ⟨bT, 0, none⟩), x.v] w fun r w' => OpT w bT F v (applyT L x) r w' := by
 obtain ⟨w0, hw0⟩ : ∃ W, w.alloc (.cells (mixC x.a x.dg x.t) 39) = W := ⟨_, rfl⟩
 have hb0 : Below w.heap.size w w0 := by rw [← hw0]; exact (Below.refl _ _).alloc (Nat.le_refl _) _
 have hm0 : Wm w0 w.heap.size x := by rw [← hw0]; exact heap_alloc_new _ _
 have HB0 := Lib.hid hb0
 have H0 := Lib.hid (h.later hb0)
 have HX := Lib.hid hx
 have HLW := Lib.hid fun W (hW : Below w0.heap.size w0 W) => (hm0.later hW).load hx.1
 have HCW := Lib.hid fun W (hW : Below w0.heap.size w0 W) => (hm0.later hW).cells5 hx.1
 have HLL := Lib.hid hL
 have HGT := Lib.hid (tget_any x.nm H0.out (fun y hy => Nat.le_trans (hi y hy) (by decide)) (Nat.le_trans hL (by decide)))
 have HGI := Lib.hid (getTR_ins hi x.nm)
 have HGD : Hid (dok (getTR L x.nm).1.dg) := Lib.hid (by
  obtain ⟨Ls, h, rfl, hr⟩ := h
  unfold getTR
  cases hg : getT (ptP Ls) x.nm with
  | none => exact dz32_ok
  | some y => exact h.dok y (getT_mem hg).1)
 have HAP : Hid (applyT L x = _) := Lib.hid (by unfold applyT; rfl)
 obtain ⟨E, hE⟩ : ∃ E, (getTR L x.nm).1 = E := ⟨_, rfl⟩
 obtain ⟨fb, hfb⟩ : ∃ E, (getTR L x.nm).2 = E := ⟨_, rfl⟩
 have HGQ : Hid (getTR L x.nm = (E, fb)) := Lib.hid (by rw [← hE, ← hfb])
 rw [HGQ.out] at HGT
 rw [hE] at HGI HGD HAP
 rw [hfb] at HAP
 obtain ⟨k0, k3, _⟩ := HCW.out w0 (Below.refl _ _)
 obtain ⟨MX, hMX⟩ : ∃ x1, mixC x.a x.dg x.t = x1 := ⟨_, rfl⟩
 have HMX := Lib.hid hMX
 unfold Wq.v at *
 rw [hMX] at HLW hw0 ⊢
 clear h hx hb0 hm0 hL hi hE hfb hMX
 go_enter Tryz.func46, Tryz.ntmps46
 by_cases h3 : x.k = 3
 ·have HA1 : Hid (applyT L x = setT L (tagT E x)) := Lib.hid (by rw [HAP.out, if_pos h3])
  rw [h3] at k0
  clear h3
  go_upto_region 5 with (first
   | (go_at_call 65; refine HGT.out.mono ?_; rintro e w3 ⟨u, rfl, hg3, hb3⟩; obtain ⟨q3, d3, hv3, _⟩ := hg3.open; subst hv3; have HU3 := Lib.hid hg3; have HB3 := Lib.hid hb3; clear hg3 hb3; unfold tnV)
   | (refine wpList_store_row rfl 64 _ _ rfl w3.heap.size (tnC E _) rfl rfl 64 _ (heap_alloc_new _ _) (tnC_sizeOf E _ HGD.out.1) ((tnC_size zeroT _ rfl).trans (tnC_size E _ HGD.out.1).symm) (tnC_one _ _ _ _) ?_; generalize hw4 : World.setRow _ _ _ = w4))
  obtain ⟨he4, hb4⟩ := tnC_lay rfl hw4
  obtain ⟨g4, hg4⟩ : ∃ g, w3.heap.size = g := ⟨_, rfl⟩
  rw [hg4] at he4
  rw [hg4]
  have HB4 := Lib.hid (below_step HB3.out hb4)
  have HL4 := Lib.hid (he4.load HGD.out.1)
  have HW4 := Lib.hid (HLW.out _ HB4.out)
  have HIS4 : Hid (Is w4 (.slice q3 E.ins.length d3) E.ins) := Lib.hid (HU3.out.is.later hb4)
  have HPT := Lib.hid (ptag_any E (.slice q3 E.ins.length d3) x w4 HIS4.out HGD.out HX.out (Nat.le_trans HGI.out (by decide)))
  unfold tnV Wq.v at HPT
  rw [HMX.out] at HPT
  obtain ⟨m3, hm3⟩ : ∃ m, E.ins.length = m := ⟨_, rfl⟩
  rw [hm3] at HL4 HPT
  clear he4 hb4 hw4 hg4 hw0 k0 k3
  go_wp2_with (first
   | (refine wpList_ld rfl 64 _ rfl _ rfl _ HL4.out ?_)
   | (refine wpList_ld rfl 39 _ rfl _ rfl _ HW4.out ?_)
   | (go_at_call 79; refine HPT.out.mono ?_; rintro r w5 ⟨u5, rfl, hg5, hb5⟩; have HB5 := Lib.hid (below_step HB4.out hb5); have HSE := (Lib.hid (setT_any (tagT E x) u5 (H0.out.later HB5.out) hg5.is HX.out (Nat.le_trans (putrow_length _ _) (by have := HGI.out; omega)) HLL.out)); clear hg5 hb5; unfold tnV at HSE; unfold tnV)
   | (go_at_call 74; refine HSE.out.mono ?_; rintro r w6 hop; have HOP := Lib.hid hop; have hr := hop.unit; subst hr; clear hop))
  refine bodyPost_end (results_none rfl _ _ _) rfl ?_
  rw [HA1.out]
  exact HOP.out.pre (below_step HB0.out HB5.out)
 ·have hk3 : (x.k == 3) = false := by simpa using h3
  have HK3 := Lib.hid h3
  clear h3
  by_cases h4 : x.k = 4
  ·have HA4 : Hid (fb = true → applyT L x = setT L (untT E x)) := Lib.hid fun hf => by rw [HAP.out, if_neg HK3.out, if_pos ⟨h4, hf⟩]
   have HA5 : Hid (fb = false → applyT L x = L) := Lib.hid fun hf => by rw [HAP.out, if_neg HK3.out, if_neg (fun h => by rw [hf] at h; cases h.2)]
   rw [h4] at k0
   clear h4 hk3
   go_upto_region 8 with (first
    | (go_at_call 65; refine HGT.out.mono ?_; rintro e w3 ⟨u, rfl, hg3, hb3⟩; obtain ⟨q3, d3, hv3, _⟩ := hg3.open; subst hv3; have HU3 := Lib.hid hg3; have HB3 := Lib.hid hb3; clear hg3 hb3; unfold tnV)
    | (refine wpList_store_row rfl 64 _ _ rfl w3.heap.size (tnC E _) rfl rfl 64 _ (heap_alloc_new _ _) (tnC_sizeOf E _ HGD.out.1) ((tnC_size zeroT _ rfl).trans (tnC_size E _ HGD.out.1).symm) (tnC_one _ _ _ _) ?_; generalize hw4 : World.setRow _ _ _ = w4))
   obtain ⟨he4, hb4⟩ := tnC_lay rfl hw4
   obtain ⟨g4, hg4⟩ : ∃ g, w3.heap.size = g := ⟨_, rfl⟩
   rw [hg4] at he4
   rw [hg4]
   have HB4 := Lib.hid (below_step HB3.out hb4)
   have HL4 := Lib.hid (he4.load HGD.out.1)
   have HW4 := Lib.hid (HLW.out _ HB4.out)
   have HIS4 : Hid (Is w4 (.slice q3 E.ins.length d3) E.ins) := Lib.hid (HU3.out.is.later hb4)
   have HPT := Lib.hid (punt_any E (.slice q3 E.ins.length d3) x w4 HIS4.out HGD.out HX.out (Nat.le_trans HGI.out (by decide)))
   unfold tnV Wq.v at HPT
   rw [HMX.out] at HPT
   obtain ⟨m3, hm3⟩ : ∃ m, E.ins.length = m := ⟨_, rfl⟩
   rw [hm3] at HL4 HPT
   clear he4 hb4 hw4 hg4 hw0 k0 k3
   cases fb with
   | true =>
     have HA1 := Lib.hid (HA4.out (by first | rfl | trivial))
     go_wp2_with (first
      | (refine wpList_ld rfl 64 _ rfl _ rfl _ HL4.out ?_)
      | (refine wpList_ld rfl 39 _ rfl _ rfl _ HW4.out ?_)
      | (go_at_call 80; refine HPT.out.mono ?_; rintro r w5 ⟨u5, rfl, hg5, hb5⟩; have HB5 := Lib.hid (below_step HB4.out hb5); have HSE := (Lib.hid (setT_any (untT E x) u5 (H0.out.later HB5.out) hg5.is dz32_ok (Nat.le_trans (rowI_length _) (by have := HGI.out; omega)) HLL.out)); clear hg5 hb5; unfold tnV at HSE; unfold tnV)
      | (go_at_call 74; refine HSE.out.mono ?_; rintro r w6 hop; have HOP := Lib.hid hop; have hr := hop.unit; subst hr; clear hop))
     refine bodyPost_end (results_none rfl _ _ _) rfl ?_
     rw [HA1.out]
     exact HOP.out.pre (below_step HB0.out HB5.out)
   | false =>
     have HA1 := Lib.hid (HA5.out (by first | rfl | trivial))
     go_wp2
     refine bodyPost_end (results_none rfl _ _ _) rfl ?_
     rw [HA1.out]
     exact OpT.none (below_step HB0.out HB4.out) (H0.out.later HB4.out)
  ·have hk4 : (x.k == 4) = false := by simpa using h4
   have HA1 : Hid (applyT L x = L) := Lib.hid (by rw [HAP.out, if_neg HK3.out, if_neg (fun h => h4 h.1)])
   clear h4
   go_wp2
   refine bodyPost_end (results_none rfl _ _ _) rfl ?_
   rw [HA1.out]
   exact OpT.none HB0.out H0.out
/-- a table's content is put into another header -/
theorem tgb_move {W V : World} {b2 bT : Nat} {F : Nat → Prop} {v : Value} {L : List Pt} (h : TgB W b2 F v L) (hd : Th V bT v (cntT L : Int)) (hk : ∀ k, k ≠ bT → V.heap[k]? = W.heap[k]?) (hs : W.heap.size ≤ V.heap.size) (hv : ∀ k, v.ownBlock = some k → k ≠ bT) (hF : ∀ k, F k → k ≠ bT) : TgB V bT F v L := by
 obtain ⟨Ls, h, rfl, hr⟩ := h
 exact ⟨Ls, ⟨hd, h.row.holdP fun k hb => hk k (hv k hb), hv, fun q hq => (h.en q hq).keep fun k hF2 => hk k (hF k hF2), fun k hF2 => Nat.lt_of_lt_of_le (h.lt k hF2) hs, fun k hF2 => ⟨(h.dis k hF2).1, hF k hF2⟩⟩, rfl, hr⟩
set_option maxRecDepth 100000 in
set_option maxHeartbeats 4000000 in
theorem tkeep_any {w : World} {bT : Nat} {F : Nat → Prop} {v : Value} {L : List Pt} (p2 : Option Addr) (m2 c2 : Nat) (B : List Int) (h : TgB w bT F v L) (hu : Gs encI w p2 m2 B) (hm : m2 ≤ 2097152) (hL : L.length ≤ 1048576) (hi : insLeT L 2097152) :
 Calls Tryz.prog 50 #[.pointer (some ⟨bT, 0, none⟩), .slice p2 m2 c2] w fun r w' => OpT w bT F v (keepTs L B) r w' := by
 obtain ⟨Ls, h, rfl, hr⟩ := h
 have H := Lib.hid h
 have HR := Lib.hid hr
 have HIN := Lib.hid hi
 have HU := Lib.hid hu
 have HM2 := Lib.hid hm
 have HLL : Hid ((ptP Ls).length = Ls.length) := Lib.hid (ptP_length Ls)
 have hnl : Ls.length ≤ 1048576 := by rw [← ptP_length]; exact hL
 have HLN := Lib.hid hL
 obtain ⟨p, c, rfl, hlc, hcm, hgs⟩ := h.pt
 have c0 := h.hd.cells.1
 have HGS := Lib.hid hgs
 obtain ⟨n, hn⟩ : ∃ n, Ls.length = n := ⟨_, rfl⟩
 rw [hn] at c0 HGS hlc hnl HLL H ⊢
 have HNN := Lib.hid hn
 clear h hr hL hgs hn hi hu hm
 go_enter Tryz.func50, Tryz.ntmps50
 go_wp2
 go_loopw [4, 16] (fun ov j wr => ∃ (k : Nat) (q : Option Addr) (m d : Nat) (o : List Tx), k ≤ n ∧ j = .int .i64 (k : Int) ∧ ov = .slice q m d ∧ Hid (ptL o = keepTs ((ptP Ls).take k) B) ∧ Hid (Gw encTn wr w.heap.size (.slice q m d) o) ∧ Hid (∀ x ∈ o, dok x.e.dg ∧ Gw encI wr w.heap.size x.s x.e.ins) ∧ Hid (Below w.heap.size w wr)) (fun _ j _ => n - (intOf j).toNat)
 case atStart => exact ⟨0, none, 0, 0, [], by omega, rfl, rfl, Lib.hid rfl, Lib.hid (Gw.nil _ _ _), Lib.hid (fun x hx => by cases hx), Lib.hid (Below.refl _ _)⟩
 case round =>
  obtain ⟨k, q, m, d, o, hkn, rfl, rfl, HE, HO, HM, HB⟩ := hrel
  by_cases hlt : k < n
  ·obtain ⟨b1, off, y, rfl, hy1, hy3, cq⟩ := (HGS.out.later HB.out).tp k hlt
   have HY := Lib.hid ((H.out.later HB.out).en y hy3)
   have HLY := Lib.hid (HY.out.tn.load HY.out.dk.1)
   have HC := Lib.hid (pkeept_any y.x.e y.x.s p2 m2 c2 B wr HY.out.is (HU.out.later HB.out) HY.out.dk (HIN.out _ (List.mem_map.2 ⟨y, hy3, rfl⟩)) HM2.out)
   have HT := Lib.hid (keepTs_take (ptP_get hy1) B)
   have HYD := Lib.hid (keepT_dok21 HY.out.dk B)
   have HOL : Hid (o.length + 1 ≤ 2097216) := Lib.hid (by
    have h5 := congrArg List.length HE.out
    have h6 := keepTs_length ((ptP Ls).take k) B
    rw [ptL_length] at h5
    rw [List.length_take] at h6
    omega)
   have hki : (k : Int) < (n : Int) := by omega
   have hk0 : (0 : Int) ≤ (k : Int) := by omega
   obtain ⟨bq, hbq⟩ : ∃ x, y.b = x := ⟨_, rfl⟩
   rw [hbq] at cq HLY
   obtain ⟨R, hR⟩ : ∃ x, (keepT y.x.e B).1 = x := ⟨_, rfl⟩
   obtain ⟨ok, hok⟩ : ∃ x, (keepT y.x.e B).2 = x := ⟨_, rfl⟩
   have hRR : keepT y.x.e B = (R, ok) := by rw [← hR, ← hok]
   rw [hRR] at HC
   rw [hR] at HT HYD
   rw [hok] at HT
   unfold tnV at HC
   obtain ⟨ME, hME⟩ : ∃ x, tnC y.x.e y.x.s = x := ⟨_, rfl⟩
   rw [hME] at HLY HC
   clear hy1 hy3 hbq hR hok hRR hME HY
   go_upto_region 6 with (first
    | (refine wpList_ld rfl 64 _ rfl _ rfl _ HLY.out ?_)
    | (go_at_call 88; refine HC.out.mono ?_; rintro e w2 ⟨u2, rfl, hg2, hb2⟩; have HG2 := Lib.hid hg2; have HB2 := Lib.hid hb2; obtain ⟨q2, d2, hv2, _⟩ := hg2.open; subst hv2; clear hg2 hb2; unfold tnV)
    | (refine wpList_store_row rfl 64 _ _ rfl w2.heap.size (tnC R _) rfl rfl 64 _ (heap_alloc_new _ _) (tnC_sizeOf R _ HYD.out.1) ((tnC_size zeroT _ rfl).trans (tnC_size R _ HYD.out.1).symm) (tnC_one _ _ _ _) ?_; generalize hv3 : World.setRow _ _ _ = w3))
   obtain ⟨he3, hb3⟩ := tnC_lay rfl hv3
   obtain ⟨g3, hg3⟩ : ∃ g, w2.heap.size = g := ⟨_, rfl⟩
   rw [hg3] at he3
   rw [hg3]
   obtain ⟨X, hX⟩ : ∃ X : Tx, X = ⟨R, q2, d2, HYD.out.1⟩ := ⟨_, rfl⟩
   have HXG : Hid (Gw encI w3 w.heap.size X.s X.e.ins) := Lib.hid (by rw [hX]; exact (HG2.out.later hb3).mono HB.out.size)
   have HXE : Hid (X.e = R) := Lib.hid (by rw [hX])
   have HXC : Hid (tnC R (.slice q2 R.ins.length d2) = tnC X.e X.s) := Lib.hid (by rw [hX]; rfl)
   have HO3 := Lib.hid (HO.out.later (below_step HB2.out hb3))
   have HM3 : Hid (∀ x ∈ o, dok x.e.dg ∧ Gw encI w3 w.heap.size x.s x.e.ins) := Lib.hid fun x hx => ⟨(HM.out x hx).1, (HM.out x hx).2.later (below_step HB2.out hb3)⟩
   have HB3 := Lib.hid (below_step HB.out (below_step HB2.out hb3))
   have HLV := Lib.hid (he3.load HYD.out.1)
   rw [HXC.out] at HLV
   clear he3 hb3 hv3 hg3 hX
   cases ok with
   | true =>
     have HE2 : Hid (ptL (o ++ [X]) = keepTs ((ptP Ls).take (k + 1)) B) := Lib.hid (by rw [HT.out, if_pos rfl, ptL_append, HE.out, ← HXE.out]; rfl)
     go_wp2_with (first
      | (refine wpList_ld rfl 64 _ rfl _ rfl _ HLV.out ?_)
      | (refine wpList_build_tn rfl 24 30 rfl Tryz.underlying24 X rfl ?_)
      | (refine wpList_append_gen encTn rfl _ _ 24 rfl Tryz.underlying24 tzero 104 infoTn tzero_size (by decide) w.heap.size _ o rfl (HO3.out.alloc _) _ 1 1 [X] rfl (Gs.oneTn _ X) (fun h => by cases h) HOL.out (by have h1 := HB3.out.size; rw [World.size_alloc]; omega) ?_; intro v8 w8 ho8 hg8; obtain ⟨p8, c8, hv8, _⟩ := ho8.open; obtain ⟨m8, hm8⟩ : ∃ x, (o ++ [X]).length = x := ⟨_, rfl⟩; rw [hm8] at hv8; subst hv8; have HO8 := Lib.hid ho8; have HB8 := Lib.hid (below_appT (HB3.out.alloc HB3.out.size (.cells (tnC X.e X.s) 64)) (HO3.out.alloc _) (Nat.le_refl _) hg8); have HM8 : Hid (∀ x ∈ o ++ [X], dok x.e.dg ∧ Gw encI w8 w.heap.size x.s x.e.ins) := (Lib.hid (fun x hx => (List.mem_append.1 hx).elim (fun h => ⟨(HM3.out x h).1, ((HM3.out x h).2.alloc _).besideTn (HO3.out.alloc _) hg8⟩) (fun h => (List.mem_singleton.1 h) ▸ ⟨(by rw [HXE.out]; exact HYD.out), (HXG.out.alloc _).besideTn (HO3.out.alloc _) hg8⟩))); clear ho8 hg8 hm8))
     exact ⟨⟨k + 1, p8, m8, c8, o ++ [X], by omega, by go_num, rfl, HE2, HO8, HM8, HB8⟩, by simp [intOf] <;> omega⟩
   | false =>
     have HE2 : Hid (ptL o = keepTs ((ptP Ls).take (k + 1)) B) := Lib.hid (by rw [HT.out, HE.out]; simp)
     go_wp2
     exact ⟨⟨k + 1, q, m, d, o, by omega, by go_num, rfl, HE2, HO3, HM3, HB3⟩, by simp [intOf] <;> omega⟩
  ·obtain rfl : k = n := by omega
   have HF : Hid (ptL o = keepTs (ptP Ls) B) := Lib.hid (by have h1 := HE.out; rwa [List.take_of_length_le (by rw [HLL.out]; exact Nat.le_refl _)] at h1)
   obtain ⟨q9, d9, hv9, h5, h6, h7, h8⟩ := gwTn_open HO.out
   simp only [Value.slice.injEq] at hv9
   obtain ⟨rfl, hmo, rfl⟩ := hv9
   have HRE : Hid (ReT wr (fun b => False ∨ (w.heap.size ≤ b ∧ b < wr.heap.size)) q m o) := Lib.hid ((ReT.none w).next HB.out HO.out.gs (fun _ b off e => Or.inr (h8 b off e)) (fun x hx => Or.inr (HM.out x hx)))
   have HNW := Lib.hid (tnew_any (c := d) HRE.out (by rw [hmo, ← ptL_length, HF.out]; exact Nat.le_trans (keepTs_length _ _) HLN.out) (by rw [HF.out]; exact fun y hy => Nat.le_trans (keepTs_ins HIN.out B y hy) (by decide)))
   rw [HF.out, newT_self (keepTs_row HR.out B)] at HNW
   have HHR := Lib.hid ((H.out.later HB.out).hd)
   clear hmo h5 h6 h7 h8 c0
   go_wp2_with fail
   refine HNW.out.mono ?_
   rintro r w5 ⟨b5, F5, v5, rfl, hn5⟩
   have HN5 := Lib.hid hn5
   have HH5 : Hid (Th w5 bT (.slice p k c) (cntT (ptP Ls) : Int)) := (Lib.hid ((hn5.le.block bT HHR.out.lt).trans HHR.out))
   obtain ⟨x0, x1⟩ := HH5.out.cells
   have f0 := HH5.out.frozen 0
   have f1 := HH5.out.frozen 1
   obtain ⟨L5, ht5, hp5, _⟩ := hn5.tg
   obtain ⟨y0, y1⟩ := ht5.hd.cells
   obtain ⟨p5, c5, hv5, _⟩ := ht5.pt
   obtain ⟨n5, hn5'⟩ : ∃ x, L5.length = x := ⟨_, rfl⟩
   rw [hn5'] at hv5
   subst hv5
   clear hn5 ht5 hp5 hn5'
   go_wp2
   refine bodyPost_end (results_none rfl _ _ _) rfl ?_
   have HLB := HHR.out.lt
   have hV1 := HH5.out.setV (.slice p5 n5 c5)
   have hV := hV1.setN (cntT (keepTs (ptP Ls) B) : Int)
   have hc1 := HH5.out.chg 0 (.slice p5 n5 c5)
   have hc2 := hV1.chg 1 (.int .i64 (cntT (keepTs (ptP Ls) B) : Int))
   have hk : ∀ b, b ≠ bT → ((w5.setCell ⟨bT, 0, none⟩ (.slice p5 n5 c5)).setCell ⟨bT, 1, none⟩ (.int .i64 (cntT (keepTs (ptP Ls) B) : Int))).heap[b]? = w5.heap[b]? := fun b hb => (heap_setCell_other _ ⟨bT, 1, none⟩ b _ hb).trans (heap_setCell_other _ ⟨bT, 0, none⟩ b _ hb)
   have hs : w5.heap.size ≤ ((w5.setCell ⟨bT, 0, none⟩ (.slice p5 n5 c5)).setCell ⟨bT, 1, none⟩ (.int .i64 (cntT (keepTs (ptP Ls) B) : Int))).heap.size := by rw [World.size_setCell, World.size_setCell]; exact Nat.le_refl _
   have hsz := HB.out.size
   exact ⟨.slice p5 n5 c5, F5, rfl, tgb_move HN5.out.tg hV hk hs (fun b hb e => by have := HN5.out.s b hb; omega) (fun b hb e => by have := HN5.out.f b hb; omega),
    (((Chg.of_below (S := fun b => b = bT ∨ (Value.slice p k c).ownBlock = some b) HB.out).tr (Chg.of_below (S := fun b => b = bT) HN5.out.le) (fun b hb => Or.inl (Or.inl hb))).tr hc1 (fun b hb => Or.inl (Or.inl hb))).tr hc2 (fun b hb => Or.inl (Or.inl hb)),
    fun b hb => Or.inr (Nat.le_trans hsz (HN5.out.s b hb)), fun b hb => Or.inr (Nat.le_trans hsz (HN5.out.f b hb))⟩
/-- a table in memory: its own blocks are its header and its row of pointers; it reads besides its entries and their rows of segments -/
def Tx0 (w : World) (S F : Nat → Prop) (v : Value) (L : List Pt) : Prop := ∃ bT vr, v = .pointer (some ⟨bT, 0, none⟩) ∧ S = (fun k => k = bT ∨ vr.ownBlock = some k) ∧ TgB w bT F vr L ∧ insLeT L 2097152 ∧ L.length ≤ 1048577
theorem op0T {w w' : World} {bT : Nat} {F : Nat → Prop} {vr : Value} {L : List Pt} {e : Ending} (h : OpT w bT F vr L e w') (hi : insLeT L 2097152 ∧ L.length ≤ 1048577) : OpGQ Tx0 w (fun k => k = bT ∨ vr.ownBlock = some k) F (.pointer (some ⟨bT, 0, none⟩)) L e w' := by
 obtain ⟨v', F', h1, h2, h3, h4, h5⟩ := h
 exact ⟨fun k => k = bT ∨ v'.ownBlock = some k, F', h1, ⟨bT, v', rfl, rfl, h2, hi⟩, h3, fun b hb => hb.elim (fun e => Or.inl (Or.inl e)) (fun e => (h4 b e).imp Or.inr id), h5⟩
theorem insLeT.up {L : List Pt} {k m : Nat} (h : insLeT L k) (hk : k ≤ m) : insLeT L m := fun x hx => Nat.le_trans (h x hx) hk
theorem tags_ok : TagOk Tx0 where
 keep := by
  rintro w w' S F v L ⟨bT, vr, rfl, rfl, ⟨Ls, h, h1, h2⟩, hi⟩ hk hs
  exact ⟨bT, vr, rfl, rfl, ⟨Ls, h.keep (fun k hk2 => hk k (hk2.elim (fun e => Or.inl (Or.inl e)) (fun e => e.elim (fun e => Or.inl (Or.inr e)) Or.inr))) hs, h1, h2⟩, hi⟩
 lt := by
  rintro w S F v L ⟨bT, vr, rfl, rfl, ⟨Ls, h, h1, h2⟩, hi⟩ b hb
  exact h.all_lt b (hb.elim (fun e => e.elim Or.inl (fun e => Or.inr (Or.inl e))) (fun e => Or.inr (Or.inr e)))
 dis := by
  rintro w S F v L ⟨bT, vr, rfl, rfl, ⟨Ls, h, h1, h2⟩, hi⟩ b hb hf
  exact hb.elim (h.dis b hf).2 (h.dis b hf).1
 ok := by
  rintro w S F v L ⟨bT, vr, rfl, rfl, ⟨Ls, h, rfl, h2⟩, hi⟩
  exact ⟨h2, h.dok⟩
 new := by
  intro w N p n c Ls h hpc hnc hcm hn hi
  refine (tnew_any h hn (hi.up (by decide))).mono ?_
  rintro e w' ⟨bT, F, vr, h1, h2⟩
  exact ⟨_, _, F, h1, ⟨bT, vr, rfl, rfl, h2.tg, (newT_ins hi).up (by decide), Nat.le_trans (newT_length _) (by rw [ptL_length, h.gs.len]; omega)⟩, fun b hb => hb.elim (fun e => by rw [e]; exact h2.i) (h2.s b), fun b hb => Or.inr (h2.f b hb), h2.le⟩
 apply := by
  rintro w S F v L x ⟨bT, vr, rfl, rfl, h, hi0⟩ hx hL hi
  exact (tapply_any x h hx hL hi).mono fun e w' ho => op0T ho ⟨applyT_ins hi, Nat.le_trans (applyT_length _ _) (by omega)⟩
 keepS := by
  rintro w S F v u L B ⟨bT, vr, rfl, rfl, h, hi0⟩ hu hub hB hL hi
  obtain ⟨p2, c2, rfl, hg, _⟩ := hu
  exact (tkeep_any p2 B.length c2 B h hg hB hL hi0.1).mono fun e w' ho => op0T ho ⟨keepTs_ins hi0.1 B, Nat.le_trans (keepTs_length _ _) hi0.2⟩
 row := by
  rintro w S F v L ⟨bT, vr, rfl, rfl, h, hi⟩ hL
  exact trow_any h (hi.1.up (by decide)) (Nat.le_trans hL (by decide))
end Go.Proofs.YtpfbfhigelbfcaaGreat

