/- Layer 20, the program: apart; Layer 20, the program: set, cut. (gen_ixes.py); Layer 20, the program: Count, Get. (gen_ixeg.py); Layer 20, the program: Row. (gen_ixeg.py); Layer 20, the program: New. (gen_ixea.py) -/
import Derived.Test.YtpfbfhigelbfcaaGreatSd23
import Derived.Test.YtpfbfhigelbfcaaGreatSd35
set_option linter.unusedSimpArgs false
set_option linter.unusedVariables false
namespace Go.Proofs.YtpfbfhigelbfcaaGreat
open Go.RowKit Go.Lib
set_option maxRecDepth 100000 in
set_option maxHeartbeats 1000000 in
theorem apart_any (e : Pe) (s : Value) (w : World) (h : Is w s e.ins) (hd : e.dg.length = 32) (hn : e.ins.length ≤ 2097200) :
 Calls Tryz.prog 101 #[enV e s] w fun r w' => EnG w e r w' := by
 obtain ⟨w0, w2, g1, h0, h2, hg1, hB⟩ := box2 w (enC e s) (enC zeroE (.slice none 0 0)) 124 124
 have HE : Hid (Km w2 w.heap.size e s) := Lib.hid hB.a
 have HZ : Hid (Km w2 g1 zeroE (.slice none 0 0)) := Lib.hid hB.z
 have HB := Lib.hid hB.le
 have HLT := Lib.hid hB.lt
 obtain ⟨p, c, rfl, hs, hpc, hnc, _⟩ := h.later hB.le
 have HCL := Lib.hid (cloneI_any p e.ins.length c e.ins w2 hs hpc hnc hn)
 have HD := Lib.hid hd
 obtain ⟨_, _, _, cs⟩ := HE.out.cells hd
 obtain ⟨m, hm⟩ : ∃ m, e.ins.length = m := ⟨_, rfl⟩
 rw [hm] at HCL cs
 rw [enZero] at h2
 unfold enV
 generalize hMC : enC e (Value.slice p e.ins.length c) = MC at *
 rw [hm] at hMC
 clear hMC hs hpc hnc h hd hB hm hn
 go_enter Tryz.func101, Tryz.ntmps101
 go_upto_region 1 with fail
 clear h0 h2 hg1
 have hfr := Mx.frozen HE.out 37
 go_upto_region 2 with (go_at_call 122
                        refine HCL.out.mono ?_
                        rintro r w3 ⟨q, d, rfl, hg3, hb3⟩
                        have HG3 := Lib.hid hg3
                        have HB3 := Lib.hid hb3
                        have HE3 := Lib.hid (HE.out.later hb3)
                        have HZ3 := Lib.hid (HZ.out.later hb3)
                        have ft := (HE3.out.cells HD.out).2.2.2
                        have hfr3 := Mx.frozen HE3.out 37
                        have HSZ : Hid (w2.heap.size ≤ w3.heap.size) := Lib.hid hb3.size
                        clear hg3 hb3)
 have HLT3 : Hid (w.heap.size < g1 ∧ g1 < w2.heap.size) := HLT
 have HE4 := Lib.hid (show Km _ w.heap.size e (.slice q m d) from Mx.setLast HE3.out HD.out 5 (.slice q m d))
 have HZ4 := Lib.hid (show Km _ g1 zeroE (.slice none 0 0) from Mx.other HZ3.out ⟨w.heap.size, 37, none⟩ (.slice q m d) (by have := HLT.out; show g1 ≠ w.heap.size; omega))
 have HK4 : Hid (∀ b, b ≠ w.heap.size → (w3.setCell ⟨w.heap.size, 37, none⟩ (.slice q m d)).heap[b]? = w3.heap[b]?) := Lib.hid fun b hb => heap_setCell_other w3 ⟨w.heap.size, 37, none⟩ b _ hb
 have HB4 : Hid (Below w.heap.size w (w3.setCell ⟨w.heap.size, 37, none⟩ (.slice q m d))) := Lib.hid ((below_step HB.out HB3.out).setCell (Nat.le_refl _) _)
 have e0 : ([] : List Value).length + 32 + 5 = 37 := rfl
 rw [e0] at HE4
 generalize World.setCell _ _ _ = w5 at *
 clear ft hfr3 hfr cs e0
 go_wp2_with (first
  | (refine wpList_ld rfl 124 _ rfl _ rfl _ (HE4.out.load HD.out) ?_)
  | (refine wpList_store_row rfl 124 _ _ rfl g1 (enC e (.slice q m d)) rfl rfl 124 _ HZ4.out (knC_sizeOf e _ HD.out) ((enC_size _ _ rfl).trans (enC_size e _ HD.out).symm) (enC_one _ _ _ _) ?_; generalize hw6 : World.setRow _ _ _ = w6))
 have HM6 : Km w6 g1 e (.slice q m d) := by rw [← hw6]; exact Mx.row HZ4.out
 refine bodyPost_ret (HM6.res1 HD.out rfl _ rfl) rfl ?_
 refine ⟨_, rfl, ?_, by rw [← hw6]; exact below_setRow8 HB4.out _ _ (by have := HLT.out; omega)⟩
 exact Gw.mono (B := w2.heap.size) (HG3.out.iskeep fun b hb => by rw [← hw6, setRow_other _ _ _ _ (by have := HLT.out; omega)]; exact HK4.out b (by have := HLT.out; omega)) (by have := HLT.out; omega)
/-- an index that holds the row L -/
def IxB (w : World) (bI : Nat) (ST F : Nat → Prop) (v : Value) (L : List Pe) : Prop := ∃ T sl, Ic w bI ST F v T sl (cntE L : Int) (IntKind.i64.wrap (sumE L)) ∧ IxP T L
def OpB (w : World) (bI : Nat) (ST F : Nat → Prop) (v : Value) (L : List Pe) (e : Ending) (w' : World) : Prop :=
 ∃ ST' F', e = .returned (.tuple #[]) ∧ IxB w' bI ST' F' v L ∧ Chg (fun k => k = bI ∨ ST k) w w' ∧ (∀ b, ST' b → ST b ∨ w.heap.size ≤ b) ∧ ∀ b, F' b → F b ∨ w.heap.size ≤ b
theorem cntE_len (L : List Pe) : cntE L ≤ L.length := by unfold cntE; exact List.length_filter_le _ _
theorem cnt_off {T : List (Tg.Pg Ex)} {L : List Pe} (h : IxP T L) (hu : Tg.Uniq T) (d : List Int) : (cntE L : Int) + -1 * oT wgC T d = cntE (cutEn L d) := by
 rw [h.oT hu, cntE_sum, cntE_sum, sumQ_cut wgC h.row d]; omega
theorem sum_off {T : List (Tg.Pg Ex)} {L : List Pe} (h : IxP T L) (hu : Tg.Uniq T) (d : List Int) : sumE L + -1 * oT wgZ T d = sumE (cutEn L d) := by
 rw [h.oT hu, sumE_sum, sumE_sum, sumQ_cut wgZ h.row d]; omega
theorem cnt_on {T : List (Tg.Pg Ex)} {L : List Pe} {e : Pe} (h : IxP T (setE L e)) (hu : Tg.Uniq T) : (cntE (cutEn L e.dg) : Int) + 1 * oT wgC T e.dg = cntE (setE L e) := by
 rw [h.oT hu, getE_is h.row (mem_setE.2 (Or.inl rfl)), cntE_sum, cntE_sum, sumQ_setE]
 show _ + 1 * wgC e = _
 omega
theorem sum_on {T : List (Tg.Pg Ex)} {L : List Pe} {e : Pe} (h : IxP T (setE L e)) (hu : Tg.Uniq T) : sumE (cutEn L e.dg) + 1 * oT wgZ T e.dg = sumE (setE L e) := by
 rw [h.oT hu, getE_is h.row (mem_setE.2 (Or.inl rfl)), sumE_sum, sumE_sum, sumQ_setE]
 show _ + 1 * wgZ e = _
 omega
theorem ixp_dgs {T : List (Tg.Pg Ex)} {L : List Pe} (h : IxP T L) (hd : ∀ x ∈ T, dok x.dg) : ∀ x ∈ L, dok x.dg := fun e he => by
 obtain ⟨x, hx, rfl⟩ := (h.mem e).1 he
 rw [h.dg x hx]
 exact hd x hx
/-- behind Put: an entry whose row lies in a block of its own -/
theorem ic_put {W W2 : World} {bI : Nat} {ST F ST' : Nat → Prop} {v : Value} {T : List (Tg.Pg Ex)} {sl sl' a b : Int} {d : List Int} {X : Ex} {B : Nat}
 (h : Ic W bI ST F v T sl a b) (hX : Gw encI W B X.s X.e.ins) (hB : ∀ k, ST k ∨ F k ∨ k = bI → k < B) (ht : Tg.Tb Tg.vtE W2 ST' v (Tg.putN T d X) sl') (hc : Chg ST W W2) (hs : ∀ k, ST' k → ST k ∨ W.heap.size ≤ k) :
 Ic W2 bI ST' (fun k => F k ∨ X.s.ownBlock = some k) v (Tg.putN T d X) sl' a b := by
 have hol : ∀ k, X.s.ownBlock = some k → B ≤ k ∧ k < W.heap.size := fun k hk => World.ownsRow.lt hX k hk
 have hnS : ∀ k, X.s.ownBlock = some k → ¬ ST k := fun k hk hS => absurd (hB k (Or.inl hS)) (Nat.not_lt.2 (hol k hk).1)
 refine ⟨(hc.block bI h.bI_lt h.ne).trans h.hd, ht, fun e => (hs bI e).elim h.ne (fun e2 => absurd h.bI_lt (Nat.not_lt.2 e2)), fun x hx => ?_, fun x hx hne k hk => ?_, fun k hk => ?_, fun k hk => ?_⟩
 ·rcases List.mem_append.1 hx with hx | hx
  ·have hx1 := (Tg.cutN_mem.1 hx).1
   exact (h.is x hx1).hold fun hne k hk => hc.block k (h.lt k (h.bl x hx1 hne k hk)) (h.dis k (h.bl x hx1 hne k hk)).1
  ·rw [List.mem_singleton] at hx
   subst hx
   exact hX.is.hold fun hne k hk => hc.block k (hol k hk).2 (hnS k hk)
 ·rcases List.mem_append.1 hx with hx | hx
  ·exact Or.inl (h.bl x (Tg.cutN_mem.1 hx).1 hne k hk)
  ·rw [List.mem_singleton] at hx
   subst hx
   exact Or.inr hk
 ·refine Nat.lt_of_lt_of_le ?_ hc.size
  exact hk.elim (h.lt k) fun e => (hol k e).2
 ·rcases hk with hk | hk
  ·exact ⟨fun e => (hs k e).elim (h.dis k hk).1 (fun e2 => absurd (h.lt k hk) (Nat.not_lt.2 e2)), (h.dis k hk).2⟩
  ·exact ⟨fun e => (hs k e).elim (hnS k hk) (fun e2 => absurd (hol k hk).2 (Nat.not_lt.2 e2)), fun e => by have h1 := hB k (Or.inr (Or.inr e)); have h2 := (hol k hk).1; omega⟩
theorem ic_cut {W W2 : World} {bI : Nat} {ST F ST' : Nat → Prop} {v : Value} {T : List (Tg.Pg Ex)} {sl sl' a b : Int} {d : List Int}
 (h : Ic W bI ST F v T sl a b) (ht : Tg.Tb Tg.vtE W2 ST' v (Tg.cutN T d) sl') (hc : Chg ST W W2) (hs : ∀ k, ST' k → ST k ∨ W.heap.size ≤ k) :
 Ic W2 bI ST' F v (Tg.cutN T d) sl' a b := by
 refine ⟨(hc.block bI h.bI_lt h.ne).trans h.hd, ht, fun e => (hs bI e).elim h.ne (fun e2 => absurd h.bI_lt (Nat.not_lt.2 e2)), fun x hx => ?_, fun x hx hne k hk => ?_, fun k hk => ?_, fun k hk => ?_⟩
 ·have hx1 := (Tg.cutN_mem.1 hx).1
  exact (h.is x hx1).hold fun hne k hk => hc.block k (h.lt k (h.bl x hx1 hne k hk)) (h.dis k (h.bl x hx1 hne k hk)).1
 ·exact h.bl x (Tg.cutN_mem.1 hx).1 hne k hk
 ·exact Nat.lt_of_lt_of_le (h.lt k hk) hc.size
 ·exact ⟨fun e => (hs k e).elim (h.dis k hk).1 (fun e2 => absurd (h.lt k hk) (Nat.not_lt.2 e2)), (h.dis k hk).2⟩
set_option maxRecDepth 100000 in
set_option maxHeartbeats 4000000 in
theorem set_any (hG : Tg.GrowOk) {w : World} {bI : Nat} {ST F : Nat → Prop} {v : Value} {L : List Pe} (e : Pe) (s : Value) (h : IxB w bI ST F v L) (hi : Is w s e.ins) (hsb : e.ins ≠ [] → ∀ k, s.ownBlock = some k → k ≠ bI) (hd : dok e.dg) (hn : e.ins.length ≤ 2097200) (hL : L.length ≤ 1048576) :
 Calls Tryz.prog 73 #[.pointer (some ⟨bI, 0, none⟩), enV e s] w fun r w' => OpB w bI ST F v (setE L e) r w' := by
 obtain ⟨T, sl, h, hp⟩ := h
 obtain ⟨w0, hw0⟩ : ∃ W, w.alloc (.cells (enC e s) 124) = W := ⟨_, rfl⟩
 obtain ⟨B, hB⟩ : ∃ x, w.heap.size = x := ⟨_, rfl⟩
 have hb0 : Below B w w0 := by rw [← hw0, ← hB]; exact (Below.refl _ _).alloc (Nat.le_refl _) _
 have hm0 : Km w0 B e s := by rw [← hw0, ← hB]; exact heap_alloc_new _ _
 have HI0 := Lib.hid (h.later (by rw [hB]; exact hb0))
 have HC0 : Hid (Chg (fun k => k = bI ∨ ST k) w w0) := Lib.hid (Chg.of_below (by rw [hB]; exact hb0))
 have HBL : Hid (bI < B) := Lib.hid (by rw [← hB]; exact h.bI_lt)
 have HTL : Hid (∀ k, ST k ∨ F k ∨ k = bI → k < B) := Lib.hid fun k hk => by rw [← hB]; exact h.all_lt k (hk.elim (fun e => Or.inr (Or.inl e)) (fun e => e.elim (fun e => Or.inr (Or.inr e)) Or.inl))
 have HM0 := Lib.hid hm0
 have HIS := Lib.hid (hi.later (by rw [hB]; exact hb0))
 have HSB := Lib.hid hsb
 have HSL : Hid (e.ins ≠ [] → ∀ k, s.ownBlock = some k → k < w0.heap.size) := Lib.hid fun hne k hk => HIS.out.lt hne hk
 have HD := Lib.hid hd
 have HN := Lib.hid hn
 have HP := Lib.hid hp
 have HU := Lib.hid (tb_uq h.tb)
 have HBW := Lib.hid hB
 have HTN : Hid (T.length ≤ 1048576) := Lib.hid (by rw [hp.length (tb_uq h.tb)]; exact hL)
 have HGR := Lib.hid hG
 have HLD := Lib.hid fun W (hW : Chg (fun k => k = bI ∨ ST k) w0 W) => Km.dig (show Km W B e s from (hW.block B (Mx.lt hm0) (fun e => e.elim (fun e => by have := HBL.out; omega) (fun e => absurd (HTL.out B (Or.inl e)) (Nat.lt_irrefl _)))).trans hm0) hd.1
 have HLE := Lib.hid fun W (hW : Chg (fun k => k = bI ∨ ST k) w0 W) => Km.load (show Km W B e s from (hW.block B (Mx.lt hm0) (fun e => e.elim (fun e => by have := HBL.out; omega) (fun e => absurd (HTL.out B (Or.inl e)) (Nat.lt_irrefl _)))).trans hm0) hd.1
 have HCN := Lib.hid (count_any e.dg (-1) HI0.out hd (Or.inr rfl) (by have := cntE_len L; omega))
 have HA : Hid (-2 ≤ (cntE L : Int) ∧ (cntE L : Int) ≤ 1048576) := Lib.hid (by have := cntE_len L; omega)
 have HR0 : Hid (Chg (fun k => k = bI ∨ ST k) w0 w0) := Lib.hid (Chg.refl _ _)
 unfold enV at *
 obtain ⟨MX, hMX⟩ : ∃ x, enC e s = x := ⟨_, rfl⟩
 obtain ⟨M, hM⟩ : ∃ x, bcs e.dg = x := ⟨_, rfl⟩
 rw [hMX] at HLE hw0 ⊢
 rw [hM] at HLD HCN
 have HMX := Lib.hid hMX
 have HMM := Lib.hid hM
 clear hMX hM h hp hi hsb hd hn hL hG hb0 hm0
 go_enter Tryz.func73, Tryz.ntmps73
 go_upto_region 2 with (first
  | (refine wpList_ld rfl 35 _ rfl _ rfl _ (HLD.out _ HR0.out) ?_)
  | (go_at_call 105; refine HCN.out.mono ?_; rintro r w1 ⟨rfl, hi1, hc1⟩))
 clear hw0 hB
 rw [cnt_off HP.out HU.out, sum_off HP.out HU.out] at hi1
 have HI1 := Lib.hid hi1
 have HC1 : Hid (Chg (fun k => k = bI ∨ ST k) w0 w1) := Lib.hid ((Chg.refl _ _).tr hc1 (fun b hb => Or.inl (Or.inl hb)))
 have HIS1 : Hid (Is w1 s e.ins) := Lib.hid (HIS.out.hold fun hne k hk => hc1.block k (HSL.out hne k hk) (HSB.out hne k hk))
 clear hi1 hc1
 have HSS : Hid (∀ W, Chg ST w1 W → (fun W : World => W.cell? ⟨bI, 0, none⟩ = some v ∧ Chg ST w1 W) W) := Lib.hid fun W hW => ⟨(Hx.cells (show Hx W bI v _ _ from (hW.block bI HI1.out.bI_lt HI1.out.ne).trans HI1.out.hd)).1, hW⟩
 have HUP : Hid (∀ W, Chg ST w1 W → Chg (fun k => k = bI ∨ ST k) w0 W) := Lib.hid fun W hW => HC1.out.tr hW (fun b hb => Or.inl (Or.inr hb))
 have HSZ : Hid (w.heap.size ≤ w1.heap.size) := Lib.hid (Nat.le_trans HC0.out.size HC1.out.size)
 obtain ⟨y0, hy0⟩ : ∃ X, w1.drew = X := ⟨_, rfl⟩
 have HY0 : Hid (Below w1.heap.size w1 y0) := Lib.hid (by rw [← hy0]; exact (Below.refl _ _).drew)
 have HAP := Lib.hid (apart_any e s y0 (HIS1.out.later HY0.out) HD.out.1 HN.out)
 unfold enV at HAP
 rw [HMX.out] at HAP
 refine wp_region_held_drew (S := (fun W : World => W.cell? ⟨bI, 0, none⟩ = some v ∧ Chg ST w1 W)) (by kernel_rfl) (HSS.out _ (Chg.of_below ((Below.refl _ _).drew))) (fun hHeld => ?_)
 refine tk 0 rfl ?_;(try simp only [PT]);refine tk 1 rfl ?_;(try simp only [PT]);refine tk 2 rfl ?_;(try simp only [PT]);refine tk 3 rfl ?_;(try simp only [PT]);refine tk 4 rfl ?_;(try simp only [PT])
 refine tkL 5 rfl (yieldsIf_ld (by rfl) 35 (.tmp 12) rfl (.pointer (some ⟨B, 0, none⟩)) rfl (.agg M) (fun W hW => HLD.out W (HUP.out W hW.2))) ?_
 (try simp only [PT])
 refine tkL 6 rfl (yieldsIf_ld (by rfl) 124 (.tmp 3) rfl (.pointer (some ⟨B, 0, none⟩)) rfl (.agg MX) (fun W hW => HLE.out W (HUP.out W hW.2))) ?_
 (try simp only [PT])
 refine ready_at 7 rfl (by kernel_rfl) (fun K hK => ?_)
 go_simp
 (try rw [hy0])
 refine HAP.out.mono ?_
 rintro r y1 ⟨u, rfl, hg1, hb1⟩
 have HG1 := Lib.hid hg1
 have HB1 : Hid (Below w1.heap.size w1 y1) := Lib.hid (below_step HY0.out hb1)
 have HY1 : Hid (y0.heap.size ≤ y1.heap.size) := Lib.hid hb1.size
 have HI2 := Lib.hid (HI1.out.later HB1.out)
 obtain ⟨X, hX1, hX2, _⟩ := hg1.is.ex HD.out.1
 have HXE := Lib.hid hX1
 have HXS := Lib.hid hX2
 have HPU := Lib.hid (Tg.put_any HGR.out e.dg X HI2.out.tb HD.out HTN.out)
 rw [hX1, hX2, HMM.out] at HPU
 unfold enV
 clear hg1 hb1 hX1 hX2
 first
  | refine hK.out _ _ ?hS8 (fun hHeld => ?rest8)
  | (go_wp2_with fail; refine hK.out _ _ ?hS8 (fun hHeld => ?rest8))
 case hS8 => exact HSS.out _ (Chg.of_below HB1.out)
 clear hK K
 (try simp only [PT])
 refine ready_at 8 rfl (by kernel_rfl) (fun K hK => ?_)
 go_simp
 refine HPU.out.mono ?_
 rintro r y2 ⟨ST2, rfl, htb2, hc2, hs2⟩
 have HG2 := Lib.hid HG1.out
 rw [← HXE.out, ← HXS.out] at HG2
 have HI3 := Lib.hid (ic_put HI2.out HG2.out (fun k hk => Nat.lt_of_lt_of_le (HTL.out k hk) (by rw [← HBW.out]; exact Nat.le_trans HSZ.out HY0.out.size)) htb2 hc2 hs2)
 have HC3 : Hid (Chg ST w1 y2) := Lib.hid ((Chg.of_below (S := ST) HB1.out).tr hc2 (fun b hb => Or.inl hb))
 have HS3 : Hid (∀ b, ST2 b → ST b ∨ w.heap.size ≤ b) := Lib.hid fun b hb => (hs2 b hb).imp id fun h => Nat.le_trans (Nat.le_trans HSZ.out HB1.out.size) h
 clear htb2 hc2 hs2
 first
  | refine hK.out _ _ ?hS9 (fun hHeld => ?rest9)
  | (go_wp2_with fail; refine hK.out _ _ ?hS9 (fun hHeld => ?rest9))
 case hS9 => exact HSS.out _ HC3.out
 clear hK K
 (try simp only [PT])
 refine wpAnyH_done (by kernel_rfl) ?_ _
 have HPX := Lib.hid (HP.out.put (fun x hx => (ixp_dgs HP.out (tb_dk HI1.out.tb) x hx).1) X)
 rw [HXE.out] at HPX
 have HC4 := Lib.hid (HUP.out _ HC3.out)
 have HCN2 := Lib.hid (count_any e.dg 1 HI3.out HD.out (Or.inl rfl) (by have h1 := cntE_len (cutEn L e.dg); have h2 : (cutEn L e.dg).length ≤ L.length := List.length_filter_le _ _; have h3 := HP.out.length HU.out; have h4 := HTN.out; omega))
 rw [HMM.out] at HCN2
 clear hHeld
 go_wp2_with (first
  | (refine wpList_ld rfl 35 _ rfl _ rfl _ (HLD.out _ HC4.out) ?_)
  | (go_at_call 105; refine HCN2.out.mono ?_; rintro r w5 ⟨rfl, hi5, hc5⟩))
 refine bodyPost_end (results_none rfl _ _ _) rfl ?_
 rw [cnt_on HPX.out (tb_uq HI3.out.tb), sum_on HPX.out (tb_uq HI3.out.tb)] at hi5
 refine ⟨_, _, rfl, ⟨_, _, hi5, HPX.out⟩, (HC0.out.tr HC4.out (fun b hb => Or.inl hb)).tr hc5 (fun b hb => Or.inl (Or.inl hb)), HS3.out, fun b hb => hb.imp id fun hk => ?_⟩
 have h1 := (World.ownsRow.lt HG1.out b (by rw [← HXS.out]; exact hk)).1
 exact Nat.le_trans (Nat.le_trans HSZ.out HY0.out.size) h1
set_option maxRecDepth 100000 in
set_option maxHeartbeats 2000000 in
theorem cutI_any {w : World} {bI : Nat} {ST F : Nat → Prop} {v : Value} {L : List Pe} (d : List Int) (h : IxB w bI ST F v L) (hd : dok d) (hL : L.length ≤ 1048576) :
 Calls Tryz.prog 87 #[.pointer (some ⟨bI, 0, none⟩), .agg (bcs d)] w fun r w' => OpB w bI ST F v (cutEn L d) r w' := by
 obtain ⟨T, sl, h, hp⟩ := h
 obtain ⟨w0, hw0⟩ : ∃ W, w.alloc (.cells (bcs d) 35) = W := ⟨_, rfl⟩
 obtain ⟨B, hB⟩ : ∃ x, w.heap.size = x := ⟨_, rfl⟩
 have hb0 : Below B w w0 := by rw [← hw0, ← hB]; exact (Below.refl _ _).alloc (Nat.le_refl _) _
 have hy : Yw w0 B 35 d := by rw [← hw0, ← hB]; exact heap_alloc_new _ _
 have HI0 := Lib.hid (h.later (by rw [hB]; exact hb0))
 have HC0 : Hid (Chg (fun k => k = bI ∨ ST k) w w0) := Lib.hid (Chg.of_below (by rw [hB]; exact hb0))
 have HBL : Hid (bI < B ∧ ∀ k, ST k → k < B) := Lib.hid (by rw [← hB]; exact ⟨h.bI_lt, fun k hk => h.all_lt k (Or.inr (Or.inl hk))⟩)
 have HD := Lib.hid hd
 have HP := Lib.hid hp
 have HU := Lib.hid (tb_uq h.tb)
 have HBS : Hid (B < w0.heap.size) := Lib.hid (Array.getElem?_eq_some_iff.1 hy).1
 have HLD := Lib.hid fun W (hW : Chg (fun k => k = bI ∨ ST k) w0 W) => Tg.yw_dig (show Yw W B 35 d from (hW.block B HBS.out (fun e => e.elim (fun e => by have := HBL.out.1; omega) (fun e => absurd (HBL.out.2 B e) (Nat.lt_irrefl _)))).trans hy) hd.1
 have HCN := Lib.hid (count_any d (-1) HI0.out hd (Or.inr rfl) (by have := cntE_len L; omega))
 have HR0 : Hid (Chg (fun k => k = bI ∨ ST k) w0 w0) := Lib.hid (Chg.refl _ _)
 obtain ⟨M, hM⟩ : ∃ x, bcs d = x := ⟨_, rfl⟩
 rw [hM] at HLD HCN hw0 ⊢
 have HMM := Lib.hid hM
 clear hM h hp hd hL hb0 hy
 go_enter Tryz.func87, Tryz.ntmps87
 go_upto_region 2 with (first
  | (refine wpList_ld rfl 35 _ rfl _ rfl _ (HLD.out _ HR0.out) ?_)
  | (go_at_call 105; refine HCN.out.mono ?_; rintro r w1 ⟨rfl, hi1, hc1⟩))
 clear hw0 hB
 rw [cnt_off HP.out HU.out, sum_off HP.out HU.out] at hi1
 have HI1 := Lib.hid hi1
 have HC1 : Hid (Chg (fun k => k = bI ∨ ST k) w0 w1) := Lib.hid ((Chg.refl _ _).tr hc1 (fun b hb => Or.inl (Or.inl hb)))
 clear hi1 hc1
 have HSS : Hid (∀ W, Chg ST w1 W → (fun W : World => W.cell? ⟨bI, 0, none⟩ = some v ∧ Chg ST w1 W) W) := Lib.hid fun W hW => ⟨(Hx.cells (show Hx W bI v _ _ from (hW.block bI HI1.out.bI_lt HI1.out.ne).trans HI1.out.hd)).1, hW⟩
 have HUP : Hid (∀ W, Chg ST w1 W → Chg (fun k => k = bI ∨ ST k) w0 W) := Lib.hid fun W hW => HC1.out.tr hW (fun b hb => Or.inl (Or.inr hb))
 have HSZ : Hid (w.heap.size ≤ w1.heap.size) := Lib.hid (Nat.le_trans HC0.out.size HC1.out.size)
 have HB1 : Hid (Below w1.heap.size w1 w1.drew) := Lib.hid ((Below.refl _ _).drew)
 have HI2 := Lib.hid (HI1.out.later HB1.out)
 have HCU := Lib.hid (Tg.cut_any d HI2.out.tb HD.out)
 rw [HMM.out] at HCU
 refine wp_region_held_drew (S := (fun W : World => W.cell? ⟨bI, 0, none⟩ = some v ∧ Chg ST w1 W)) (by kernel_rfl) (HSS.out _ (Chg.of_below ((Below.refl _ _).drew))) (fun hHeld => ?_)
 refine tk 0 rfl ?_;(try simp only [PT]);refine tk 1 rfl ?_;(try simp only [PT]);refine tk 2 rfl ?_;(try simp only [PT]);refine tk 3 rfl ?_;(try simp only [PT])
 refine tkL 4 rfl (yieldsIf_ld (by rfl) 35 (.tmp 3) rfl (.pointer (some ⟨B, 0, none⟩)) rfl (.agg M) (fun W hW => HLD.out W (HUP.out W hW.2))) ?_
 (try simp only [PT])
 refine ready_at 5 rfl (by kernel_rfl) (fun K hK => ?_)
 go_simp
 refine HCU.out.mono ?_
 rintro r y2 ⟨ST2, rfl, htb2, hc2, hs2⟩
 have HI3 := Lib.hid (ic_cut HI2.out htb2 hc2 hs2)
 have HC3 : Hid (Chg ST w1 y2) := Lib.hid ((Chg.of_below (S := ST) HB1.out).tr hc2 (fun b hb => Or.inl hb))
 have HS3 : Hid (∀ b, ST2 b → ST b ∨ w.heap.size ≤ b) := Lib.hid fun b hb => (hs2 b hb).imp id fun h => Nat.le_trans (Nat.le_trans HSZ.out HB1.out.size) h
 clear htb2 hc2 hs2
 first
  | refine hK.out _ _ ?hS15 (fun hHeld => ?rest15)
  | (go_wp2_with fail; refine hK.out _ _ ?hS15 (fun hHeld => ?rest15))
 case hS15 => exact HSS.out _ HC3.out
 clear hK K
 (try simp only [PT])
 refine wpAnyH_done (by kernel_rfl) ?_ _
 have HC4 := Lib.hid (HUP.out _ HC3.out)
 clear hHeld
 go_wp2
 refine bodyPost_end (results_none rfl _ _ _) rfl ?_
 exact ⟨_, _, rfl, ⟨_, _, HI3.out, HP.out.cut d⟩, HC0.out.tr HC4.out (fun b hb => Or.inl hb), HS3.out, fun b hb => Or.inl hb⟩
theorem getR_of {T : List (Tg.Pg Ex)} {L : List Pe} (h : IxP T L) (hu : Tg.Uniq T) (d : List Int) : getR L d = (((Tg.getN T d).getD Tg.exZ).e, (Tg.getN T d).isSome) := by
 unfold getR
 rw [← h.get hu d]
 cases Tg.getN T d <;> rfl
theorem ic_get {w : World} {bI : Nat} {ST F : Nat → Prop} {v : Value} {T : List (Tg.Pg Ex)} {sl a b : Int} (h : Ic w bI ST F v T sl a b) (d : List Int) : Is w ((Tg.getN T d).getD Tg.exZ).s ((Tg.getN T d).getD Tg.exZ).e.ins := by
 cases hg : Tg.getN T d with
 | none => exact Is.nil w
 | some x => exact h.is _ (Tg.getN_some hg)
set_option maxRecDepth 100000 in
set_option maxHeartbeats 4000000 in
theorem iget_any {w : World} {bI : Nat} {ST F : Nat → Prop} {v : Value} {L : List Pe} (d : List Int) (h : IxB w bI ST F v L) (hi : insLe L 2097200) (hd : dok d) :
 Calls Tryz.prog 64 #[.pointer (some ⟨bI, 0, none⟩), .agg (bcs d)] w fun e w' => KeG w (getR L d) e w' := by
 obtain ⟨T, sl, h, hp⟩ := h
 obtain ⟨w0, w2, g1, hw0, hw2, hg1, hX⟩ := box2 w (bcs d) (enC zeroE (.slice none 0 0)) 35 59
 have HI0 := Lib.hid (h.later hX.le)
 have HBB := Lib.hid hX.le
 have HLT := Lib.hid hX.lt
 have HZ := Lib.hid fun W (hW : Below w2.heap.size w2 W) => (obj_later hX.z hW : Em W g1 zeroE (.slice none 0 0))
 have HLD : Hid (∀ W, Below w2.heap.size w2 W → (Instr.loadAt 35 (.pointer (some ⟨w.heap.size, 0, none⟩))).run Tryz.prog W = .ok (.agg (bcs d)) W) := Lib.hid fun W hW => Yw.load (show Yw W w.heap.size 35 d from obj_later hX.a hW) hd.1
 have HGR := Lib.hid (getR_of hp (tb_uq h.tb) d)
 have HIX := Lib.hid (ic_get HI0.out d)
 have hlen : ((Tg.getN T d).getD Tg.exZ).e.ins.length ≤ 2097200 := by
  have h1 := HGR.out
  have h2 := getR_ins hi d
  rw [h1] at h2
  exact h2
 obtain ⟨x, hx⟩ : ∃ x, (Tg.getN T d).getD Tg.exZ = x := ⟨_, rfl⟩
 obtain ⟨fb, hfb⟩ : ∃ b, (Tg.getN T d).isSome = b := ⟨_, rfl⟩
 have HG : Hid (∀ W, Below w2.heap.size w2 W → Calls Tryz.prog 77 #[v, .agg (bcs d)] W fun e w' => e = .returned (.tuple #[enV x.e x.s, .bool fb]) ∧ Below W.heap.size W w') := Lib.hid fun W hW => by
  have h1 := Tg.get_any d (HI0.out.later hW).tb hd
  unfold Tg.GetT at h1
  rw [hx, hfb] at h1
  exact h1
 rw [hx, hfb] at HGR
 rw [hx] at HIX hlen
 have HLN := Lib.hid hlen
 have HSS : Hid (∀ W, Below w2.heap.size w2 W → (fun W : World => W.cell? ⟨bI, 0, none⟩ = some v ∧ Below w2.heap.size w2 W) W) := Lib.hid fun W hW => ⟨(HI0.out.later hW).hd.cells.1, hW⟩
 rw [enZero] at hw2
 clear h hp hd hx hfb hi hlen hX
 generalize hM : bcs d = M at *
 clear hM
 go_enter Tryz.func64, Tryz.ntmps64
 go_upto_region 3 with fail
 clear hw0 hw2 hg1
 go_cut [6, 7] (fun g fq wx => ∃ G : Nat, g = .pointer (some ⟨G, 0, none⟩) ∧ fq = .bool fb ∧ Hid (Km wx G x.e x.s) ∧ Hid (w2.heap.size ≤ G) ∧ Hid (Below w2.heap.size w2 wx))
 case first =>
  refine wp_region_held_drew (S := (fun W : World => W.cell? ⟨bI, 0, none⟩ = some v ∧ Below w2.heap.size w2 W)) (by kernel_rfl) (HSS.out _ (Below.refl _ _).drew) (fun hHeld => ?_)
  refine tk 0 rfl ?_;(try simp only [PT]);refine tk 1 rfl ?_;(try simp only [PT]);refine tk 2 rfl ?_;(try simp only [PT]);refine tk 3 rfl ?_;(try simp only [PT])
  refine tkL 4 rfl (yieldsIf_ld (by rfl) 35 (.tmp 3) rfl (.pointer (some ⟨w.heap.size, 0, none⟩)) rfl (.agg M) (fun W hW => HLD.out W hW.2)) ?_
  (try simp only [PT])
  obtain ⟨y0, hy0⟩ : ∃ X, w2.drew = X := ⟨_, rfl⟩
  have HY0 : Hid (Below w2.heap.size w2 y0) := Lib.hid (by rw [← hy0]; exact (Below.refl _ _).drew)
  rw [hy0]
  clear hy0 hHeld
  have hHeld := HSS.out _ HY0.out
  refine wpAnyH_ready (rs := [5, 9]) (by kernel_rfl) (by simp) (all_at 5 rfl (fun K hK => ?ofc) (all_at 9 rfl (fun K hK => ?ofa) AllReadyH.nil))
  case ofc =>
   go_simp
   refine (HG.out _ HY0.out).mono ?_
   rintro ex y1 ⟨rfl, hb⟩
   have HX5 : Hid (Below y0.heap.size y0 y1) := Lib.hid hb
   clear hb
   (try dsimp only)
   first
    | refine hK.out _ _ ?hS6 (fun hHeld => ?rr6)
    | (go_wp2_with fail; refine hK.out _ _ ?hS6 (fun hHeld => ?rr6))
   case hS6 => exact HSS.out _ (below_step HY0.out HX5.out)
   clear hK K
   (try simp only [PT])
   have HY1 := Lib.hid (below_step HY0.out HX5.out)
   clear hHeld
   have hHeld := HSS.out _ HY1.out
   refine tk 6 rfl ?_;(try simp only [PT]);refine tk 7 rfl ?_;(try simp only [PT]);refine tk 8 rfl ?_;(try simp only [PT])
   refine ready_at 9 rfl (by kernel_rfl) (fun K hK => ?_)
   go_simp
   first
    | refine hK.out _ _ ?hS11 (fun hHeld => ?rr11)
    | (go_wp2_with fail; refine hK.out _ _ ?hS11 (fun hHeld => ?rr11))
   case hS11 => exact HSS.out _ (HY1.out.alloc HY1.out.size _)
   clear hK K
   (try simp only [PT])
   obtain ⟨y2, hy⟩ : ∃ X, y1.alloc (.cells (enC zeroE (.slice none 0 0)) 124) = X := ⟨_, rfl⟩
   rw [enZero] at hy
   rw [hy]
   obtain ⟨G, hG⟩ : ∃ x, y1.heap.size = x := ⟨_, rfl⟩
   rw [hG]
   rw [← enZero] at hy
   have HX10 : Hid (Below y1.heap.size y1 y2) := Lib.hid (by rw [← hy]; exact (Below.refl _ _).alloc (Nat.le_refl _) _)
   have HZ10 : Hid (Km y2 G zeroE (.slice none 0 0)) := Lib.hid (by rw [← hG, ← hy]; exact heap_alloc_new _ _)
   have HGB : Hid (w2.heap.size ≤ G) := Lib.hid (by rw [← hG]; exact HY1.out.size)
   clear hy hG
   have HY2 := Lib.hid (below_step HY1.out HX10.out)
   clear hHeld
   have hHeld := HSS.out _ HY2.out
   refine ready_at 10 rfl (by kernel_rfl) (fun K hK => ?_)
   rw [if_pos (by rfl)]
   refine wp_store_row 124 _ _ rfl G (enC x.e x.s) rfl rfl 124 _ HZ10.out (knC_sizeOf x.e _ x.hd) ((enC_size _ _ rfl).trans (enC_size x.e _ x.hd).symm) (enC_one _ _ _ _) ?_
   have HZ12 := Lib.hid (Mx.row (a' := []) (dg' := x.e.dg) (z' := x.e.t x.s) HZ10.out)
   have HW12 := Lib.hid (below_setRow8 HY2.out G (enC x.e x.s) HGB.out)
   refine hK.out _ _ ?hS13 (fun hHeld => ?rr13)
   case hS13 => exact HSS.out _ HW12.out
   clear hK K
   (try simp only [PT])
   refine tk 11 rfl ?_;(try simp only [PT])
   refine wpAnyH_done (by kernel_rfl) ?_ _
   go_wp2_with fail
   go_meet
   exact ⟨G, rfl, rfl, HZ12, HGB, HW12⟩
  case ofa =>
   go_simp
   first
    | refine hK.out _ _ ?hS16 (fun hHeld => ?rr16)
    | (go_wp2_with fail; refine hK.out _ _ ?hS16 (fun hHeld => ?rr16))
   case hS16 => exact HSS.out _ (HY0.out.alloc HY0.out.size _)
   clear hK K
   (try simp only [PT])
   obtain ⟨y1, hy⟩ : ∃ X, y0.alloc (.cells (enC zeroE (.slice none 0 0)) 124) = X := ⟨_, rfl⟩
   rw [enZero] at hy
   rw [hy]
   obtain ⟨G, hG⟩ : ∃ x, y0.heap.size = x := ⟨_, rfl⟩
   rw [hG]
   rw [← enZero] at hy
   have HX15 : Hid (Below y0.heap.size y0 y1) := Lib.hid (by rw [← hy]; exact (Below.refl _ _).alloc (Nat.le_refl _) _)
   have HZ15 : Hid (Km y1 G zeroE (.slice none 0 0)) := Lib.hid (by rw [← hG, ← hy]; exact heap_alloc_new _ _)
   have HGB : Hid (w2.heap.size ≤ G) := Lib.hid (by rw [← hG]; exact HY0.out.size)
   clear hy hG
   have HY1 := Lib.hid (below_step HY0.out HX15.out)
   clear hHeld
   have hHeld := HSS.out _ HY1.out
   refine ready_at 5 rfl (by kernel_rfl) (fun K hK => ?_)
   go_simp
   refine (HG.out _ HY1.out).mono ?_
   rintro ex y2 ⟨rfl, hb⟩
   have HX17 : Hid (Below y1.heap.size y1 y2) := Lib.hid hb
   clear hb
   (try dsimp only)
   first
    | refine hK.out _ _ ?hS18 (fun hHeld => ?rr18)
    | (go_wp2_with fail; refine hK.out _ _ ?hS18 (fun hHeld => ?rr18))
   case hS18 => exact HSS.out _ (below_step HY1.out HX17.out)
   clear hK K
   (try simp only [PT])
   have HY2 := Lib.hid (below_step HY1.out HX17.out)
   clear hHeld
   have hHeld := HSS.out _ HY2.out
   refine tk 6 rfl ?_;(try simp only [PT]);refine tk 7 rfl ?_;(try simp only [PT]);refine tk 8 rfl ?_;(try simp only [PT])
   have HZL := Lib.hid (Mx.later HZ15.out HX17.out)
   refine ready_at 10 rfl (by kernel_rfl) (fun K hK => ?_)
   rw [if_pos (by rfl)]
   refine wp_store_row 124 _ _ rfl G (enC x.e x.s) rfl rfl 124 _ HZL.out (knC_sizeOf x.e _ x.hd) ((enC_size _ _ rfl).trans (enC_size x.e _ x.hd).symm) (enC_one _ _ _ _) ?_
   have HZ22 := Lib.hid (Mx.row (a' := []) (dg' := x.e.dg) (z' := x.e.t x.s) HZL.out)
   have HW22 := Lib.hid (below_setRow8 HY2.out G (enC x.e x.s) HGB.out)
   refine hK.out _ _ ?hS23 (fun hHeld => ?rr23)
   case hS23 => exact HSS.out _ HW22.out
   clear hK K
   (try simp only [PT])
   refine tk 11 rfl ?_;(try simp only [PT])
   refine wpAnyH_done (by kernel_rfl) ?_ _
   go_wp2_with fail
   go_meet
   exact ⟨G, rfl, rfl, HZ22, HGB, HW22⟩
 case rest =>
  obtain ⟨G, rfl, rfl, HKM, HGB, HBC⟩ := hcut
  have HLK := Lib.hid (HKM.out.load x.hd)
  have HAP := Lib.hid (apart_any x.e x.s _ (HIX.out.later HBC.out) x.hd HLN.out)
  have HZX := Lib.hid (show Em _ g1 zeroE (.slice none 0 0) from HZ.out _ HBC.out)
  unfold enV at HAP
  go_wp2_with (first
   | (refine wpList_ld rfl 124 _ rfl _ rfl _ HLK.out ?_)
   | (go_at_call 101; (refine HAP.out.mono ?_; rintro r w5 ⟨u, rfl, hg5, hb5⟩; obtain ⟨q5, c5, hu5, _⟩ := hg5.open; obtain ⟨m5, hm5⟩ : ∃ m, x.e.ins.length = m := ⟨_, rfl⟩; rw [hm5] at hu5; subst hu5; have HG5 := Lib.hid hg5; have HB5 := Lib.hid hb5; have HZ5 := Lib.hid (HZX.out.later hb5); clear hg5 hb5 hm5; unfold enV))
   | (refine wpList_store_row rfl 59 _ _ rfl g1 (enC x.e (.slice q5 m5 c5)) rfl rfl 59 _ HZ5.out (enC_sizeOf x.e _ x.hd) ((enC_size _ _ rfl).trans (enC_size x.e _ x.hd).symm) (enC_one _ _ _ _) ?_; generalize hw6 : World.setRow _ _ _ = w6))
  have HM6 : Em w6 g1 x.e (.slice q5 m5 c5) := by rw [← hw6]; exact Mx.row HZ5.out
  refine bodyPost_ret (HM6.res2 x.hd rfl _ rfl) rfl ?_
  rw [HGR.out]
  refine ⟨_, rfl, ?_, by rw [← hw6]; exact below_setRow8 (below_step (below_step HBB.out HBC.out) HB5.out) _ _ (by have := HLT.out; omega)⟩
  exact Gw.mono (HG5.out.iskeep fun b hb => by rw [← hw6]; exact setRow_other _ _ _ _ (by have h1 := HLT.out; have h2 := HBC.out.size; omega)) (by have h1 := HBB.out.size; have h2 := HBC.out.size; omega)
theorem IxB.later {w W : World} {bI : Nat} {ST F : Nat → Prop} {v : Value} {L : List Pe} (h : IxB w bI ST F v L) (hb : Below w.heap.size w W) : IxB W bI ST F v L := by
 obtain ⟨T, sl, h, hp⟩ := h
 exact ⟨T, sl, h.later hb, hp⟩
theorem IxB.dok {w : World} {bI : Nat} {ST F : Nat → Prop} {v : Value} {L : List Pe} (h : IxB w bI ST F v L) : ∀ x ∈ L, Go.Proofs.YtpfbfhigelbfcaaGreat.dok x.dg := by
 obtain ⟨T, sl, h, hp⟩ := h
 exact ixp_dgs hp (tb_dk h.tb)
theorem IxB.cell {w : World} {bI : Nat} {ST F : Nat → Prop} {v : Value} {L : List Pe} (h : IxB w bI ST F v L) : w.cell? ⟨bI, 0, none⟩ = some v := by
 obtain ⟨T, sl, h, hp⟩ := h
 exact h.hd.cells.1
theorem IxB.row {w : World} {bI : Nat} {ST F : Nat → Prop} {v : Value} {L : List Pe} (h : IxB w bI ST F v L) : rowE L := by
 obtain ⟨T, sl, h, hp⟩ := h
 exact hp.row
/-- the table's row of digests is that of the entries -/
theorem IxB.keys (hR : RowOk) {w : World} {bI : Nat} {ST F : Nat → Prop} {v : Value} {L : List Pe} (h : IxB w bI ST F v L) (hL : L.length ≤ 1048576) : Calls Tryz.prog 85 #[v] w fun e w' =>
 ∃ u, e = .returned u ∧ Od w' w.heap.size u (L.map (·.dg)) ∧ Below w.heap.size w w' := by
 obtain ⟨T, sl, h, hp⟩ := h
 have h1 := Tg.row_any hR h.tb (by rw [hp.length (tb_uq h.tb)]; exact hL)
 rw [hp.drow fun x hx => (tb_dk h.tb x hx).1] at h1
 exact h1
theorem getR_is {L : List Pe} (hr : rowE L) {x : Pe} (hx : x ∈ L) : getR L x.dg = (x, true) := by
 unfold getR
 rw [getE_is hr hx]
theorem lay_dgE {w W : World} {x : List Int} {b : Nat} (hb : w.heap.size = b) (h : (w.alloc (.cells (bcs dzero) 35)).setRow b (bcs x) = W) : Yw W b 35 x ∧ Below w.heap.size w W := by
 subst hb
 rw [← h]
 exact ⟨setRow_heap _ _ _ _ _ _ (heap_alloc_new _ _), below_setRow8 ((Below.refl _ _).alloc (Nat.le_refl _) _) _ _ (Nat.le_refl _)⟩
set_option maxRecDepth 100000 in
set_option maxHeartbeats 4000000 in
theorem irow_any (hR : RowOk) {w : World} {bI : Nat} {ST F : Nat → Prop} {v : Value} {L : List Pe} (h : IxB w bI ST F v L) (hi : insLe L 2097200) (hL : L.length ≤ 1048576) :
 Calls Tryz.prog 54 #[.pointer (some ⟨bI, 0, none⟩)] w fun e w' => RowIQ w F L e w' := by
 have HI := Lib.hid h
 have HIL := Lib.hid hi
 have HLL := Lib.hid hL
 have c0 := h.cell
 have HK := Lib.hid (h.keys hR hL)
 have hlm : (L.map (·.dg)).length = L.length := List.length_map _
 have HLM := Lib.hid hlm
 clear h hi hR hlm
 go_enter Tryz.func54, Tryz.ntmps54
 go_wp2_with (go_at_call 85; refine HK.out.mono ?_; rintro e w1 ⟨u, rfl, ho1, hb1⟩; obtain ⟨p1, k1, hv1, h1, h2, h3, h4, _⟩ := ho1.open; rw [HLM.out] at hv1 h1; obtain ⟨n, hn⟩ : ∃ n, L.length = n := ⟨_, rfl⟩; rw [hn] at hv1 h1; subst hv1)
 have HN := Lib.hid hn
 have HO1 := Lib.hid ho1
 have HB1 := Lib.hid hb1
 have HDS := Lib.hid ho1.ds
 have hnl : n ≤ 1048576 := by rw [← hn]; exact hL
 clear ho1 hb1 h1 h2 h3 h4 c0 hn hL
 go_loopw [3, 16] (fun ov j wr => ∃ (k : Nat) (q : Option Addr) (m c' : Nat) (o : List Ex), k ≤ n ∧ j = .int .i64 (k : Int) ∧ ov = .slice q m c' ∧ Hid (peL o = L.take k) ∧ Hid (Gw encEn wr w1.heap.size (.slice q m c') o) ∧ Hid (∀ x ∈ o, dok x.e.dg ∧ Gw encI wr w1.heap.size x.s x.e.ins) ∧ Hid (Below w1.heap.size w1 wr)) (fun _ j _ => n - (intOf j).toNat)
 case atStart => exact ⟨0, none, 0, 0, [], by omega, rfl, rfl, Lib.hid rfl, Lib.hid (Gw.nil _ _ _), Lib.hid (fun x hx => by cases hx), Lib.hid (Below.refl _ _)⟩
 case round =>
  obtain ⟨k, q, m, c', o, hkn, rfl, rfl, HE, HO, HM, HB⟩ := hrel
  by_cases hlt : k < n
  ·have hx : L[k]? = some (L[k]'(by rw [HN.out]; exact hlt)) := List.getElem?_eq_getElem _
   obtain ⟨x, hxx⟩ : ∃ x, L[k]'(by rw [HN.out]; exact hlt) = x := ⟨_, rfl⟩
   rw [hxx] at hx
   have hxm : x ∈ L := List.mem_of_getElem? hx
   have HXD := Lib.hid (HI.out.dok x hxm)
   obtain ⟨b1, off, hp1⟩ : ∃ b off, p1 = some ⟨b, off, none⟩ := by
    obtain ⟨g, hg⟩ := HO1.out.ptr (Nat.lt_of_le_of_lt (Nat.zero_le k) hlt)
    exact ⟨g, 0, hg⟩
   subst hp1
   have hgd : (L.map (·.dg)).getD k [] = x.dg := by
    rw [List.getD_eq_getElem?_getD, List.getElem?_map, hx]
    rfl
   have HLD := Lib.hid fun W (hW : Below w1.heap.size w1 W) => (HDS.out.later hW).load k hlt
   rw [hgd] at HLD
   have HXI : Hid (x.ins.length ≤ 2097200) := Lib.hid (HIL.out x hxm)
   have HGT := Lib.hid fun W (hW : Below w1.heap.size w1 W) => iget_any x.dg ((HI.out.later HB1.out).later hW) HIL.out HXD.out
   rw [getR_is HI.out.row hxm] at HGT
   have HT : Hid (L.take (k + 1) = L.take k ++ [x]) := Lib.hid (by
    obtain ⟨h5, h6⟩ := List.getElem?_eq_some_iff.1 hx
    rw [List.take_succ_eq_append_getElem h5, h6])
   have HOL : Hid (o.length ≤ 1048576) := Lib.hid (by have h5 := congrArg List.length HE.out; rw [peL_length, List.length_take] at h5; omega)
   have hki : (k : Int) < (n : Int) := by omega
   have hk0 : (0 : Int) ≤ (k : Int) := by omega
   have HZX : Hid ((Tryz.prog.info? 35).map (·.size) = some (bcs x.dg).size) := Lib.hid (by rw [bcs_size, HXD.out.1]; exact sizeD32)
   have HZ3 : Hid ((bcs dzero).size = (bcs x.dg).size) := Lib.hid (by rw [bcs_size, bcs_size, HXD.out.1]; rfl)
   clear hx hxx hxm hgd
   go_upto_region 7 with (first
    | (refine wpList_ld rfl 35 _ rfl _ rfl _ (HLD.out _ HB.out) ?_)
    | (refine wpList_store_row rfl 35 _ _ rfl wr.heap.size (bcs x.dg) rfl rfl 35 _ (heap_alloc_new _ _) HZX.out HZ3.out (bcs_one _) ?_; generalize hw2 : World.setRow _ _ _ = w2))
   obtain ⟨hy2, hb2⟩ := lay_dgE rfl hw2
   obtain ⟨g2, hg2⟩ : ∃ g, wr.heap.size = g := ⟨_, rfl⟩
   rw [hg2] at hy2
   rw [hg2]
   have HL2 := Lib.hid (hy2.load HXD.out.1)
   have HB2 := Lib.hid (below_step HB.out hb2)
   have HBR := Lib.hid hb2
   clear hy2 hb2 hw2 hg2
   go_upto_region 8 with (first
    | (refine wpList_ld rfl 35 _ rfl _ rfl _ HL2.out ?_)
    | (go_at_call 64; refine (HGT.out _ HB2.out).mono ?_; rintro e w3 ⟨u3, rfl, hg3, hb3⟩; have HG3 := Lib.hid hg3; have HB3 := Lib.hid hb3; obtain ⟨q3, d3, hv3, _⟩ := hg3.open; subst hv3; clear hg3 hb3; unfold enV)
    | (refine wpList_store_row rfl 59 _ _ rfl w3.heap.size (enC x _) rfl rfl 59 _ (heap_alloc_new _ _) (enC_sizeOf x _ HXD.out.1) ((enC_size zeroE _ rfl).trans (enC_size x _ HXD.out.1).symm) (enC_one _ _ _ _) ?_; generalize hv4 : World.setRow _ _ _ = w4))
   obtain ⟨he4, hb4⟩ := enC_lay rfl hv4
   obtain ⟨g4, hg4⟩ : ∃ g, w3.heap.size = g := ⟨_, rfl⟩
   rw [hg4] at he4
   rw [hg4]
   obtain ⟨X, hX⟩ : ∃ X : Ex, X = ⟨x, q3, d3, HXD.out.1⟩ := ⟨_, rfl⟩
   have HXG : Hid (Gw encI w4 w1.heap.size X.s X.e.ins) := Lib.hid (by rw [hX]; exact (HG3.out.later hb4).mono HB2.out.size)
   have HXE : Hid (X.e = x) := Lib.hid (by rw [hX])
   have HXC : Hid (enC x (.slice q3 x.ins.length d3) = enC X.e X.s) := Lib.hid (by rw [hX]; rfl)
   have HBQ : Hid (Below wr.heap.size wr w4) := Lib.hid (below_step HBR.out (below_step HB3.out hb4))
   have HO4 := Lib.hid (HO.out.later HBQ.out)
   have HM4 : Hid (∀ x ∈ o, dok x.e.dg ∧ Gw encI w4 w1.heap.size x.s x.e.ins) := Lib.hid fun x hx => ⟨(HM.out x hx).1, (HM.out x hx).2.later HBQ.out⟩
   have HB4 := Lib.hid (below_step HB.out HBQ.out)
   have HLV := Lib.hid (he4.load HXD.out.1)
   rw [HXC.out] at HLV
   have HE2 : Hid (peL (o ++ [X]) = L.take (k + 1)) := Lib.hid (by rw [HT.out, peL_append, HE.out, ← HXE.out]; rfl)
   have HXO : Hid (dok X.e.dg) := Lib.hid (by rw [HXE.out]; exact HXD.out)
   have HOM : Hid (o.length + 1 ≤ 2097216) := Lib.hid (by have := HOL.out; omega)
   clear he4 hb4 hv4 hg4 hX
   go_wp2_with (first
    | (refine wpList_ld rfl 59 _ rfl _ rfl _ HLV.out ?_)
    | (refine wpList_build_en rfl 23 27 rfl Tryz.underlying23 X rfl ?_)
    | (refine wpList_append_gen encEn rfl _ _ 23 rfl Tryz.underlying23 ezero 96 infoEn ezero_size (by decide) w1.heap.size _ o rfl (HO4.out.alloc _) _ 1 1 [X] rfl (Gs.oneEn _ X) (fun h => by cases h) HOM.out (by have h1 := HB4.out.size; rw [World.size_alloc]; omega) ?_; intro v8 w8 ho8 hg8; obtain ⟨p8, c8, hv8, _⟩ := ho8.open; obtain ⟨m8, hm8⟩ : ∃ x, (o ++ [X]).length = x := ⟨_, rfl⟩; rw [hm8] at hv8; subst hv8; have HO8 := Lib.hid ho8; have HB8 := Lib.hid (below_app (HB4.out.alloc HB4.out.size (.cells (enC X.e X.s) 59)) (HO4.out.alloc _) (Nat.le_refl _) hg8); have HM8 : Hid (∀ x ∈ o ++ [X], dok x.e.dg ∧ Gw encI w8 w1.heap.size x.s x.e.ins) := (Lib.hid (fun x hx => (List.mem_append.1 hx).elim (fun h => ⟨(HM4.out x h).1, ((HM4.out x h).2.alloc _).besideEn (HO4.out.alloc _) hg8⟩) (fun h => (List.mem_singleton.1 h) ▸ ⟨HXO.out, (HXG.out.alloc _).besideEn (HO4.out.alloc _) hg8⟩))); clear ho8 hg8 hm8))
   exact ⟨⟨k + 1, p8, m8, c8, o ++ [X], by omega, by go_num, rfl, HE2, HO8, HM8, HB8⟩, by simp [intOf] <;> omega⟩
  ·obtain rfl : k = n := by omega
   have HF : Hid (peL o = L) := Lib.hid (by have h1 := HE.out; rwa [List.take_of_length_le (by rw [HN.out]; exact Nat.le_refl _)] at h1)
   go_wp2
   go_ret
   obtain ⟨q9, d9, hv9, h5, h6, h7, h8⟩ := gwEn_open HO.out
   simp only [Value.slice.injEq] at hv9
   obtain ⟨rfl, rfl, rfl⟩ := hv9
   refine ⟨_, _, _, o, _, rfl, HF.out, (ReN.none w1).next HB.out HO.out.gs (fun _ b off e => Or.inr (h8 b off e)) (fun x hx => Or.inr (HM.out x hx)), fun b hb => ?_, h7, h5, h6, below_step HB1.out HB.out⟩
   rcases hb with hb | hb
   ·exact hb.elim
   ·exact Or.inr (Nat.le_trans HB1.out.size hb.1)
/-- an index in the making -/
structure NwI (w W : World) (bI : Nat) (ST F : Nat → Prop) (v : Value) (L : List Pe) : Prop where
 ix : IxB W bI ST F v L
 i : w.heap.size ≤ bI
 s : ∀ b, ST b → w.heap.size ≤ b
 f : ∀ b, F b → w.heap.size ≤ b
 le : Below w.heap.size w W
theorem NwI.op {w W V : World} {bI : Nat} {ST F : Nat → Prop} {v : Value} {L L' : List Pe} {e : Ending} (h : NwI w W bI ST F v L) (ho : OpB W bI ST F v L' e V) : e = .returned (.tuple #[]) ∧ ∃ ST' F', NwI w V bI ST' F' v L' := by
 obtain ⟨ST', F', h1, h2, h3, h4, h5⟩ := ho
 refine ⟨h1, ST', F', h2, h.i, fun b hb => (h4 b hb).elim (h.s b) (Nat.le_trans h.le.size), fun b hb => (h5 b hb).elim (h.f b) (Nat.le_trans h.le.size), h.le.trans (h3.below (fun b hb => hb.elim (fun e => by rw [e]; exact h.i) (h.s b)) h.le.size)⟩
theorem NwI.later {w W V : World} {bI : Nat} {ST F : Nat → Prop} {v : Value} {L : List Pe} (h : NwI w W bI ST F v L) (hb : Below W.heap.size W V) : NwI w V bI ST F v L := ⟨h.ix.later hb, h.i, h.s, h.f, below_step h.le hb⟩
theorem ixb_new {w W : World} {bI : Nat} {ST : Nat → Prop} {v : Value} (ht : Tg.Tb Tg.vtE W ST v [] 8) (hx : Hx W bI v 0 0) (hn : ¬ ST bI) : IxB W bI ST (fun _ => False) v [] :=
 ⟨[], 8, ⟨hx, ht, hn, fun x hx => (by cases hx), fun x hx => (by cases hx), fun k hk => hk.elim, fun k hk => hk.elim⟩, IxP.nil⟩
theorem newE_take {L : List Pe} {k : Nat} {x : Pe} (h : L[k]? = some x) : newE (L.take (k + 1)) = setE (newE (L.take k)) x := by
 obtain ⟨h2, h3⟩ := List.getElem?_eq_some_iff.1 h
 rw [List.take_succ_eq_append_getElem h2, h3, newE_snoc]
set_option maxRecDepth 100000 in
set_option maxHeartbeats 4000000 in
theorem inew_any (hG : Tg.GrowOk) {w : World} {N : Nat → Prop} {p : Option Addr} {n c : Nat} {Ls : List Ex} (h : ReN w N p n Ls) (hn : n ≤ 1048576) (hi : insLe (peL Ls) 2097200) :
 Calls Tryz.prog 40 #[.slice p n c] w fun e w' => ∃ bI ST F v, e = .returned (.pointer (some ⟨bI, 0, none⟩)) ∧ NwI w w' bI ST F v (newE (peL Ls)) := by
 have HR := Lib.hid h
 have HG := Lib.hid hG
 have HLN : Hid ((peL Ls).length = n) := Lib.hid (by rw [peL_length, h.gs.len])
 have HIL := Lib.hid hi
 have HNW := Lib.hid (Tg.new_any w)
 clear h hG hi
 go_enter Tryz.func40, Tryz.ntmps40
 go_upto_region 2 with (go_at_call 72; refine HNW.out.mono ?_; rintro e w1 ⟨v, S, rfl, htb, hb1, hS⟩; have HTB := Lib.hid htb; obtain ⟨bT, bS, A, cc, rfl, hSS, _, _⟩ := htb; have HB1 := Lib.hid hb1; have HS := Lib.hid hS; have HSL := (Lib.hid (Tg.tb_lt HTB.out)); clear hb1 hS hSS)
 have hbz : Below w1.heap.size w1 (w1.alloc (.cells #[.pointer (some ⟨bT, 0, none⟩), .int .i64 0, .int .i64 0] 126)) := (Below.refl _ _).alloc (Nat.le_refl _) _
 have HNI : Hid (NwI w (w1.alloc (.cells #[.pointer (some ⟨bT, 0, none⟩), .int .i64 0, .int .i64 0] 126)) w1.heap.size S (fun _ => False) (.pointer (some ⟨bT, 0, none⟩)) []) := Lib.hid
  ⟨ixb_new (w := w) (Tg.tb_keep HTB.out fun b hb => hbz.block b (HSL.out b hb)) (heap_alloc_new _ _) (fun e => Nat.lt_irrefl _ (HSL.out _ e)), HB1.out.size, HS.out, fun b hb => hb.elim, below_step HB1.out hbz⟩
 obtain ⟨bI, hbI⟩ : ∃ b, w1.heap.size = b := ⟨_, rfl⟩
 rw [hbI] at HNI
 rw [hbI]
 generalize World.alloc _ _ = w2 at *
 clear hbz hbI
 go_wp2
 go_loopw [11] (fun j wr => ∃ (k : Nat) (S F : Nat → Prop), k ≤ n ∧ j = .int .i64 (k : Int) ∧ Hid (NwI w wr bI S F (.pointer (some ⟨bT, 0, none⟩)) (newE ((peL Ls).take k)))) (fun j _ => n - (intOf j).toNat)
 case atStart => exact ⟨0, S, _, by omega, rfl, HNI⟩
 case round =>
  obtain ⟨k, S1, F1, hkn, rfl, HI⟩ := hrel
  by_cases hlt : k < n
  ·obtain ⟨b1, off, y, rfl, hy1, hy3, hr⟩ := (HR.out.later HI.out.le).gs.en k hlt
   have HYD := Lib.hid (HR.out.dk y hy3)
   have HYS := Lib.hid ((HR.out.later HI.out.le).is y hy3)
   have HYB : Hid (y.e.ins ≠ [] → ∀ b, y.s.ownBlock = some b → b ≠ bI) := Lib.hid fun hne b hb e => by
    have h1 := HR.out.lt b (HR.out.bl y hy3 hne b hb)
    have h2 := HI.out.i
    omega
   have HYN : Hid (y.e.ins.length ≤ 2097200) := Lib.hid (HIL.out y.e (List.mem_map.2 ⟨y, hy3, rfl⟩))
   have HT := Lib.hid (newE_take (peL_get hy1))
   have HLL : Hid ((newE ((peL Ls).take k)).length ≤ 1048576) := Lib.hid (by have h1 := newE_length ((peL Ls).take k); rw [List.length_take] at h1; omega)
   have HLY := Lib.hid (en_load hr)
   have hki : (k : Int) < (n : Int) := by omega
   have hk0 : (0 : Int) ≤ (k : Int) := by omega
   clear hr hy1 hy3
   go_upto_region 5 with (first
    | (refine wpList_ld rfl 59 _ rfl _ rfl _ HLY.out ?_)
    | (refine wpList_store_row rfl 59 _ _ rfl wr.heap.size (enC y.e y.s) rfl rfl 59 _ (heap_alloc_new _ _) (enC_sizeOf y.e _ y.hd) ((enC_size zeroE _ rfl).trans (enC_size y.e _ y.hd).symm) (enC_one _ _ _ _) ?_; generalize hw3 : World.setRow _ _ _ = w3))
   obtain ⟨he3, hb3⟩ := enC_lay rfl hw3
   obtain ⟨g3, hg3⟩ : ∃ g, wr.heap.size = g := ⟨_, rfl⟩
   rw [hg3] at he3
   rw [hg3]
   have HI3 := Lib.hid (HI.out.later hb3)
   have HL3 := Lib.hid (he3.load y.hd)
   have HSE := Lib.hid (set_any HG.out y.e y.s HI3.out.ix (HYS.out.later hb3) HYB.out HYD.out HYN.out HLL.out)
   rw [← HT.out] at HSE
   unfold enV at HSE
   clear he3 hb3 hw3 hg3
   go_wp2_with (first
    | (refine wpList_ld rfl 59 _ rfl _ rfl _ HL3.out ?_)
    | (go_at_call 73; refine HSE.out.mono ?_; rintro r w4 hop; obtain ⟨hr4, S4, F4, hn4⟩ := HI3.out.op hop; subst hr4; have HN4 := Lib.hid hn4; clear hop hn4))
   exact ⟨⟨k + 1, S4, F4, by omega, by go_num, HN4⟩, by simp [intOf] <;> omega⟩
  ·obtain rfl : k = n := by omega
   have HF := HI.out
   rw [List.take_of_length_le (by rw [HLN.out]; exact Nat.le_refl _)] at HF
   have HF := Lib.hid HF
   go_wp2
   go_ret
   exact ⟨bI, S1, F1, _, rfl, HF.out⟩
end Go.Proofs.YtpfbfhigelbfcaaGreat

