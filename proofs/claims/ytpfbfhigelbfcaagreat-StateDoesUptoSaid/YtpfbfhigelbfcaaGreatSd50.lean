/- Layer 21, the program: apart, find, count, Count; Layer 21, the program: Get, Row, Names, List; Layer 21, the program: set. (gen_tgzt.py); Layer 21, the program: List, Row -/
import Derived.Test.YtpfbfhigelbfcaaGreatSd19
import Derived.Test.YtpfbfhigelbfcaaGreatSd23
import Derived.Test.YtpfbfhigelbfcaaGreatSd49
set_option linter.unusedSimpArgs false
set_option linter.unusedVariables false
namespace Go.Proofs.YtpfbfhigelbfcaaGreat
open Go.RowKit Go.Lib
set_option maxRecDepth 100000 in
set_option maxHeartbeats 1000000 in
theorem apartT_any (e : Pt) (s : Value) (w : World) (h : Is w s e.ins) (hd : e.dg.length = 32) (hn : e.ins.length ≤ 2097200) :
 Calls Tryz.prog 91 #[tnV e s] w fun r w' => TnG w e r w' := by
 obtain ⟨w0, w2, g1, h0, h2, hg1, hB⟩ := box2 w (tnC e s) (tnC zeroT (.slice none 0 0)) 64 64
 have HE : Hid (Tn w2 w.heap.size e s) := Lib.hid hB.a
 have HZ : Hid (Tn w2 g1 zeroT (.slice none 0 0)) := Lib.hid hB.z
 have HB := Lib.hid hB.le
 have HLT := Lib.hid hB.lt
 obtain ⟨p, c, rfl, hs, hpc, hnc, _⟩ := h.later hB.le
 have HCL := Lib.hid (cloneI_any p e.ins.length c e.ins w2 hs hpc hnc hn)
 have HD := Lib.hid hd
 obtain ⟨_, _, _, cs⟩ := HE.out.cells hd
 obtain ⟨m, hm⟩ : ∃ m, e.ins.length = m := ⟨_, rfl⟩
 rw [hm] at HCL cs
 rw [tnZero] at h2
 unfold tnV
 generalize hMC : tnC e (Value.slice p e.ins.length c) = MC at *
 rw [hm] at hMC
 clear hMC hs hpc hnc h hd hB hm hn
 go_enter Tryz.func91, Tryz.ntmps91
 go_upto_region 1 with fail
 clear h0 h2 hg1
 have hfr := Mx.frozen HE.out 37
 go_upto_region 2 with (go_at_call 122
                        refine HCL.out.mono ?_
                        rintro r w3 ⟨q, d, rfl, hg3, hb3⟩
                        have HG3 := Lib.hid hg3
                        have HB3 := Lib.hid hb3
                        have HE3 := Lib.hid (HE.out.later hb3)
                        have HZ3 := Lib.hid (HZ.out.later hb3)
                        have ft := (HE3.out.cells HD.out).2.2.2
                        have hfr3 := Mx.frozen HE3.out 37
                        have HSZ : Hid (w2.heap.size ≤ w3.heap.size) := Lib.hid hb3.size
                        clear hg3 hb3)
 have HLT3 : Hid (w.heap.size < g1 ∧ g1 < w2.heap.size) := HLT
 have HE4 := Lib.hid (show Tn _ w.heap.size e (.slice q m d) from Mx.setLast HE3.out HD.out 4 (.slice q m d))
 have HZ4 := Lib.hid (show Tn _ g1 zeroT (.slice none 0 0) from Mx.other HZ3.out ⟨w.heap.size, 37, none⟩ (.slice q m d) (by have := HLT.out; show g1 ≠ w.heap.size; omega))
 have HK4 : Hid (∀ b, b ≠ w.heap.size → (w3.setCell ⟨w.heap.size, 37, none⟩ (.slice q m d)).heap[b]? = w3.heap[b]?) := Lib.hid fun b hb => heap_setCell_other w3 ⟨w.heap.size, 37, none⟩ b _ hb
 have HB4 : Hid (Below w.heap.size w (w3.setCell ⟨w.heap.size, 37, none⟩ (.slice q m d))) := Lib.hid ((below_step HB.out HB3.out).setCell (Nat.le_refl _) _)
 have e0 : (Pt.a e).length + 32 + 4 = 37 := rfl
 rw [e0] at HE4
 generalize World.setCell _ _ _ = w5 at *
 clear ft hfr3 hfr cs e0
 go_wp2_with (first
  | (refine wpList_ld rfl 64 _ rfl _ rfl _ (HE4.out.load HD.out) ?_)
  | (refine wpList_store_row rfl 64 _ _ rfl g1 (tnC e (.slice q m d)) rfl rfl 64 _ HZ4.out (tnC_sizeOf e _ HD.out) ((tnC_size _ _ rfl).trans (tnC_size e _ HD.out).symm) (tnC_one _ _ _ _) ?_; generalize hw6 : World.setRow _ _ _ = w6))
 have HM6 : Tn w6 g1 e (.slice q m d) := by rw [← hw6]; exact Mx.row HZ4.out
 refine bodyPost_ret (HM6.res1 HD.out rfl _ rfl) rfl ?_
 refine ⟨_, rfl, ?_, by rw [← hw6]; exact below_setRow8 HB4.out _ _ (by have := HLT.out; omega)⟩
 exact Gw.mono (B := w2.heap.size) (HG3.out.iskeep fun b hb => by rw [← hw6, setRow_other _ _ _ _ (by have := HLT.out; omega)]; exact HK4.out b (by have := HLT.out; omega)) (by have := HLT.out; omega)
theorem str_eqT (a b : ByteArray) : (a.toList == b.toList) = decide (a = b) := by
 cases h : decide (a = b) with
 | true =>
   have h1 : a = b := of_decide_eq_true h
   rw [h1]
   simp
 | false =>
   have h1 : a ≠ b := of_decide_eq_false h
   cases h2 : a.toList == b.toList with
   | false => rfl
   | true =>
     have h3 : a.toList = b.toList := by simpa using h2
     have h4 : nlt a b = nlt b b := by unfold nlt; rw [h3]
     have h5 : nlt b a = nlt b b := by unfold nlt; rw [h3]
     rw [nlt_self] at h4 h5
     exact absurd (nlt_total h4 h5) h1
/-- what find answers -/
def FindT (w : World) (L : List Pt) (s : ByteArray) (e : Ending) (w' : World) : Prop := ∃ i : Nat, e = .returned (.tuple #[.int .i64 (i : Int), .bool (fndT L s i)]) ∧ AtT L s i ∧ Below w.heap.size w w'
set_option maxRecDepth 100000 in
set_option maxHeartbeats 2000000 in
theorem findT_any {w : World} {bT : Nat} {F : Nat → Prop} {v : Value} {L : List Tp} {z : Int} (s : ByteArray) (h : Tc w bT F v L z) (hr : rowT (ptP L)) (hL : L.length ≤ 1048577) :
 Calls Tryz.prog 102 #[.pointer (some ⟨bT, 0, none⟩), .string s] w fun e w' => FindT w (ptP L) s e w' := by
 obtain ⟨w1, hw1⟩ : ∃ W, w.alloc (.cells #[.string s] 9) = W := ⟨_, rfl⟩
 have hb1 : Below w.heap.size w w1 := by rw [← hw1]; exact (Below.refl _ _).alloc (Nat.le_refl _) _
 have hcs : w1.cell? ⟨w.heap.size, 0, none⟩ = some (.string s) := by rw [← hw1]; exact cell_of_row _ _ 0 _ _ _ (heap_alloc_new _ _)
 have H1 := Lib.hid (h.later hb1)
 have HB1 := Lib.hid hb1
 have HCS := Lib.hid fun W (hW : Below w1.heap.size w1 W) => (by rw [hW.cell (World.block_lt_of_cell? w1 _ hcs)]; exact hcs : W.cell? ⟨w.heap.size, 0, none⟩ = some (.string s))
 have HF := Lib.hid (firstF_any s w.heap.size H1.out hcs hr hL)
 have HLP := Lib.hid (ptP_length L)
 have HLL := Lib.hid hL
 clear h hr hL hb1 hcs
 go_enter Tryz.func102, Tryz.ntmps102
 go_upto_region 2 with (go_at_call 103; refine HF.out.mono ?_; rintro e w3 ⟨i, rfl, h1, h2, h3, hb3⟩; have HLE := Lib.hid h1; have HLO := Lib.hid h2; have HHI := Lib.hid h3; have HB3 := Lib.hid hb3; clear h1 h2 h3 hb3)
 have HA : Hid (AtT (ptP L) s i) := Lib.hid ⟨HLE.out, fun t x ht hx => by have h1 := HLO.out t x ht hx; simpa using h1, fun t x ht hx => by have h1 := HHI.out t x ht hx; simpa using h1⟩
 have HT3 := Lib.hid (H1.out.later HB3.out)
 have cs := HCS.out _ HB3.out
 have c0 := HT3.out.hd.cells.1
 obtain ⟨p, c, rfl, hlc, hcm, hg, _⟩ := HT3.out.row.open
 obtain ⟨n, hn⟩ : ∃ n, L.length = n := ⟨_, rfl⟩
 rw [hn] at c0 hlc hg HLP
 have HN := Lib.hid hn
 have hnl : n ≤ 1048577 := by rw [← hn]; exact HLL.out
 have hile : i ≤ n := by rw [← HLP.out]; exact HLE.out
 clear hw1 hn
 by_cases hi : i < n
 ·obtain ⟨b, off, q, rfl, hq, hqm, cq⟩ := hg.tp i hi
  have HE := Lib.hid (HT3.out.en q hqm)
  have cn := (HE.out.tn.cells HE.out.dk.1).1
  obtain ⟨bq, hbq⟩ : ∃ x, q.b = x := ⟨_, rfl⟩
  rw [hbq] at cq cn
  have HFD : Hid (fndT (ptP L) s i = decide (q.x.e.nm = s)) := Lib.hid (by unfold fndT; rw [ptP_get hq])
  obtain ⟨nm, hnm⟩ : ∃ x, q.x.e.nm = x := ⟨_, rfl⟩
  rw [hnm] at cn HFD
  have hki : (i : Int) < (n : Int) := by omega
  have hk0 : (0 : Int) ≤ (i : Int) := by omega
  have hdl : decide ((i : Int) < (n : Int)) = true := by simpa using hi
  clear hg hlc hq hqm hbq hnm HE hi hile
  go_quiet (fail)
  have HBD : Hid (Below w.heap.size w (w3.drewN nq)) := Lib.hid (below_drewN (below_step HB1.out HB3.out) nq)
  go_wp2
  go_ret2
  refine ⟨i, ?_, HA.out, HBD.out⟩
  rw [HFD.out, ← str_eqT]
  rfl
 ·have hdl : decide ((i : Int) < (n : Int)) = false := by simp; omega
  have HFD : Hid (fndT (ptP L) s i = false) := Lib.hid (by unfold fndT; rw [List.getElem?_eq_none (by rw [HLP.out]; omega)])
  clear hg hlc hile
  go_quiet (fail)
  have HBD : Hid (Below w.heap.size w (w3.drewN nq)) := Lib.hid (below_drewN (below_step HB1.out HB3.out) nq)
  go_wp2
  go_ret2
  refine ⟨i, ?_, HA.out, HBD.out⟩
  rw [HFD.out]
  rfl
set_option maxRecDepth 100000 in
theorem countT_any {w : World} {bT : Nat} {F : Nat → Prop} {v : Value} {L : List Tp} {z : Int} (i : Nat) (q : Tp) (t : Int) (h : Tc w bT F v L z) (hq : L[i]? = some q) (ht : t = 1 ∨ t = -1) (hz : -2 ≤ z ∧ z ≤ 1048577) (hL : L.length ≤ 1048577) :
 Calls Tryz.prog 107 #[.pointer (some ⟨bT, 0, none⟩), .int .i64 (i : Int), .int .i64 t] w fun e w' => e = .returned (.tuple #[]) ∧ Tc w' bT F v L (z + t * (wT q.x.e : Int)) ∧ Chg (fun k => k = bT) w w' := by
 have H := Lib.hid h
 obtain ⟨p, c, rfl, hlc, hcm, hg, _⟩ := h.row.open
 have hil : i < L.length := (List.getElem?_eq_some_iff.1 hq).1
 obtain ⟨b, off, q2, rfl, hq2, hqm, cq⟩ := hg.tp i hil
 rw [hq] at hq2
 obtain rfl := Option.some.inj hq2
 have HE := Lib.hid (h.en q hqm)
 obtain ⟨c0, c1⟩ := h.hd.cells
 have hfr := h.hd.frozen 1
 have cn := (HE.out.tn.cells HE.out.dk.1).2.1
 obtain ⟨m, hm⟩ : ∃ m, L.length = m := ⟨_, rfl⟩
 rw [hm] at c0 H ⊢
 obtain ⟨bq, hbq⟩ : ∃ x, q.b = x := ⟨_, rfl⟩
 rw [hbq] at cq cn
 obtain ⟨g, hgo⟩ : ∃ x, q.x.e.gone = x := ⟨_, rfl⟩
 have HW : Hid (wT q.x.e = if g then 0 else 1) := Lib.hid (by unfold wT; rw [hgo])
 rw [hgo] at cn
 have hki : (i : Int) < (m : Int) := by omega
 have hk0 : (0 : Int) ≤ (i : Int) := by omega
 have hzt : -3 ≤ z + t ∧ z + t ≤ 1048578 := by omega
 have HE1 : Hid (g = true → z + t * (wT q.x.e : Int) = z) := Lib.hid fun h => by rw [HW.out, h]; simp
 have HE2 : Hid (g = false → z + t * (wT q.x.e : Int) = z + t) := Lib.hid fun h => by rw [HW.out, h]; simp
 clear h hlc hg hq hqm hbq hgo hL HE hm
 cases g with
 | true =>
   go_enter Tryz.func107, Tryz.ntmps107
   go_wp2
   refine bodyPost_end (results_none rfl _ _ _) rfl ?_
   refine ⟨rfl, ?_, Chg.refl _ _⟩
   rw [HE1.out (by first | rfl | trivial)]
   exact H.out
 | false =>
   go_enter Tryz.func107, Tryz.ntmps107
   go_wp2
   refine bodyPost_end (results_none rfl _ _ _) rfl ?_
   refine ⟨rfl, ?_, H.out.hd.chg 1 _⟩
   rw [HE2.out (by first | rfl | trivial)]
   exact H.out.setN _
theorem Tc.pt {W : World} {bT : Nat} {F : Nat → Prop} {v : Value} {L : List Tp} {n : Int} (h : Tc W bT F v L n) : ∃ p c, v = .slice p L.length c ∧ L.length ≤ c ∧ c ≤ maxLen ∧ Gs encTp W p L.length L := by
 obtain ⟨p, c, h1, h2, h3, h4, _⟩ := h.row.open
 exact ⟨p, c, h1, h2, h3, h4⟩
theorem TgB.later {w W : World} {bT : Nat} {F : Nat → Prop} {v : Value} {L : List Pt} (h : TgB w bT F v L) (hb : Below w.heap.size w W) : TgB W bT F v L := by
 obtain ⟨Ls, h, h1, h2⟩ := h
 exact ⟨Ls, h.later hb, h1, h2⟩
set_option maxRecDepth 100000 in
set_option maxHeartbeats 2000000 in
theorem tget_any {w : World} {bT : Nat} {F : Nat → Prop} {v : Value} {L : List Pt} (s : ByteArray) (h : TgB w bT F v L) (hi : insLeT L 2097200) (hL : L.length ≤ 1048577) :
 Calls Tryz.prog 65 #[.pointer (some ⟨bT, 0, none⟩), .string s] w fun e w' => KtG w (getTR L s) e w' := by
 obtain ⟨Ls, h, rfl, hr⟩ := h
 obtain ⟨w0, hw0⟩ : ∃ W, w.alloc (.cells (tnC zeroT (.slice none 0 0)) 64) = W := ⟨_, rfl⟩
 obtain ⟨g1, hg1⟩ : ∃ x, w.heap.size = x := ⟨_, rfl⟩
 have hb0 : Below w.heap.size w w0 := by rw [← hw0]; exact (Below.refl _ _).alloc (Nat.le_refl _) _
 have hz0 : Tn w0 g1 zeroT (.slice none 0 0) := by rw [← hw0, ← hg1]; exact heap_alloc_new _ _
 have HZ0 := Lib.hid hz0
 have HB0 := Lib.hid hb0
 have HG1 := Lib.hid hg1
 have HT0 := Lib.hid (h.later hb0)
 have HLs : Hid (Ls.length ≤ 1048577) := Lib.hid (by rw [← ptP_length]; exact hL)
 have HFI := Lib.hid (findT_any s HT0.out hr HLs.out)
 have HIN := Lib.hid hi
 rw [tnZero] at hw0
 clear h hi hL hb0 hz0
 go_enter Tryz.func65, Tryz.ntmps65
 go_upto_region 4 with (go_at_call 102; refine HFI.out.mono ?_; rintro r w3 ⟨i, rfl, hat, hb3⟩)
 have HAT := Lib.hid hat
 have HB3 := Lib.hid hb3
 have HT3 := Lib.hid (HT0.out.later hb3)
 have HZ3 := Lib.hid (Tn.later HZ0.out hb3)
 have HLP := Lib.hid (ptP_length Ls)
 clear hat hb3 hw0 hg1
 cases hfd : fndT (ptP Ls) s i with
 | false =>
   have HGR : Hid (getTR (ptP Ls) s = (zeroT, false)) := Lib.hid (by unfold getTR; rw [HAT.out.getNo hr hfd])
   have HBU := Lib.hid built_tn0
   clear hfd
   go_wp2_with (first
    | (refine wpList_build_is rfl 64 _ rfl (tnC zeroT (.slice none 0 0)) ?_ ?_; focus (first | (simp only [List.map_toArray, List.map_nil]; exact HBU.out) | (simp only [Array.map_empty]; exact HBU.out) | (simp; exact HBU.out)))
    | (refine wpList_store_row rfl 64 _ _ rfl g1 (tnC zeroT (.slice none 0 0)) rfl rfl 64 _ HZ3.out (tnC_sizeOf zeroT _ rfl) rfl (tnC_one _ _ _ _) ?_; generalize hw6 : World.setRow _ _ _ = w6))
   have HM6 : Tn w6 g1 zeroT (.slice none 0 0) := by rw [← hw6]; exact Mx.row HZ3.out
   refine bodyPost_ret (HM6.res2 rfl rfl _ rfl) rfl ?_
   refine ⟨_, by rw [HGR.out]; rfl, ?_, by rw [← hw6]; exact below_setRow8 (below_step HB0.out HB3.out) _ _ (Nat.le_of_eq HG1.out)⟩
   rw [HGR.out]
   exact Gw.nil _ _ _
 | true =>
   obtain ⟨q, hq, hqn⟩ : ∃ q, Ls[i]? = some q ∧ q.x.e.nm = s := by
    unfold fndT at hfd
    cases hx : Ls[i]? with
    | none =>
      have h1 : (ptP Ls)[i]? = none := by unfold ptP; rw [List.getElem?_map, hx]; rfl
      rw [h1] at hfd
      cases hfd
    | some q =>
      rw [ptP_get hx] at hfd
      exact ⟨q, rfl, of_decide_eq_true hfd⟩
   have HGR : Hid (getTR (ptP Ls) s = (q.x.e, true)) := Lib.hid (by unfold getTR; rw [HAT.out.getIs (ptP_get hq) hqn])
   obtain ⟨p, c, rfl, hlc, hcm, hgs⟩ := HT3.out.pt
   have hil : i < Ls.length := (List.getElem?_eq_some_iff.1 hq).1
   obtain ⟨b, off, q2, rfl, hq2, hqm, cq⟩ := hgs.tp i hil
   rw [hq] at hq2
   obtain rfl := Option.some.inj hq2
   have HE := Lib.hid (HT3.out.en q hqm)
   have c0 := HT3.out.hd.cells.1
   have HLE := Lib.hid (HE.out.tn.load HE.out.dk.1)
   have HAP := Lib.hid (apartT_any q.x.e q.x.s w3 HE.out.is HE.out.dk.1 (HIN.out _ (List.mem_map.2 ⟨q, hqm, rfl⟩)))
   have HXD := Lib.hid HE.out.dk.1
   obtain ⟨n, hn⟩ : ∃ n, Ls.length = n := ⟨_, rfl⟩
   rw [hn] at c0
   obtain ⟨bq, hbq⟩ : ∃ x, q.b = x := ⟨_, rfl⟩
   rw [hbq] at cq HLE
   obtain ⟨E, hE⟩ : ∃ x, q.x.e = x := ⟨_, rfl⟩
   rw [hE] at HLE HAP HGR HXD
   unfold tnV at HAP
   obtain ⟨ME, hME⟩ : ∃ x, tnC E q.x.s = x := ⟨_, rfl⟩
   rw [hME] at HLE HAP
   have hki : (i : Int) < (n : Int) := by omega
   have hk0 : (0 : Int) ≤ (i : Int) := by omega
   clear hfd hq hqn hlc hgs hqm hbq hE hME hn HE
   go_wp2_with (first
    | (refine wpList_ld rfl 64 _ rfl _ rfl _ HLE.out ?_)
    | (go_at_call 91; refine HAP.out.mono ?_; rintro r w4 ⟨u, rfl, hg4, hb4⟩; obtain ⟨q4, d4, hv4, _⟩ := hg4.open; subst hv4; have HU4 := Lib.hid hg4; have HB4 := Lib.hid hb4; have HZ4 := Lib.hid (Tn.later HZ3.out hb4); clear hg4 hb4; unfold tnV)
    | (refine wpList_store_row rfl 64 _ _ rfl g1 (tnC E _) rfl rfl 64 _ HZ4.out (tnC_sizeOf E _ HXD.out) ((tnC_size zeroT _ rfl).trans (tnC_size E _ HXD.out).symm) (tnC_one _ _ _ _) ?_; generalize hw6 : World.setRow _ _ _ = w6))
   have HM6 : Tn w6 g1 E (.slice q4 E.ins.length d4) := by rw [← hw6]; exact Mx.row HZ4.out
   refine bodyPost_ret (HM6.res2 HXD.out rfl _ rfl) rfl ?_
   refine ⟨_, by rw [HGR.out]; rfl, ?_, by rw [← hw6]; exact below_setRow8 (below_step (below_step HB0.out HB3.out) HB4.out) _ _ (Nat.le_of_eq HG1.out)⟩
   rw [HGR.out]
   have h3 := (below_step HB0.out HB3.out).size
   have h4 : g1 < w3.heap.size := Mx.lt HZ3.out
   exact (HU4.out.holdP fun k hk => by rw [← hw6, setRow_other _ _ _ _ (by have := (HU4.out.ownlt hk).1; omega)]).mono h3
/-- an entry that no part of the table lies in; FF: the blocks of all entries and its own -/
structure Frsh (W : World) (bT : Nat) (v : Value) (FF : Nat → Prop) (X : Tp) : Prop where
 en : En W FF X
 lt : ∀ k, FF k → k < W.heap.size
 ne : ∀ k, FF k → k ≠ bT ∧ v.ownBlock ≠ some k
section
variable {W V : World} {bT : Nat} {F FF : Nat → Prop} {v v' : Value} {X : Tp} {L L' : List Tp} {z : Int}
theorem Frsh.keep (h : Frsh W bT v FF X) (hk : ∀ k, FF k → V.heap[k]? = W.heap[k]?) (hs : W.heap.size ≤ V.heap.size) : Frsh V bT v FF X :=
 ⟨h.en.keep hk, fun k hF => Nat.lt_of_lt_of_le (h.lt k hF) hs, h.ne⟩
theorem Frsh.chg (h : Frsh W bT v FF X) (hc : Chg (fun k => k = bT) W V) : Frsh V bT v FF X := h.keep (fun k hF => hc.block k (h.lt k hF) (h.ne k hF).1) hc.size
theorem chg_grown {row : Option Nat} (h : W.grownBy V row) : Chg (fun k => row = some k) W V := ⟨h.1, h.2, h.3, h.4, fun k hk hn => h.5 k hk (fun e => hn e.symm)⟩
/-- the entry at a place is another one -/
theorem tc_over {g n c : Nat} (h : Tc W bT F (.slice (some ⟨g, 0, none⟩) n c) L z) (hX : Frsh W bT (.slice (some ⟨g, 0, none⟩) n c) FF X) (hF : ∀ k, F k → FF k) {i : Nat} (hi : i < n) :
 Tc (W.setCell ⟨g, i, none⟩ (.pointer (some ⟨X.b, 0, none⟩))) bT FF (.slice (some ⟨g, 0, none⟩) n c) (L.take i ++ X :: L.drop (i + 1)) z ∧ Chg (fun k => k = bT ∨ (Value.slice (some ⟨g, 0, none⟩) n c).ownBlock = some k) W (W.setCell ⟨g, i, none⟩ (.pointer (some ⟨X.b, 0, none⟩))) := by
 have hg : ∀ k, k ≠ g → (W.setCell ⟨g, i, none⟩ (.pointer (some ⟨X.b, 0, none⟩))).heap[k]? = W.heap[k]? := fun k hk => heap_setCell_other W ⟨g, i, none⟩ k _ hk
 have hbg : bT ≠ g := fun e => h.ne g rfl e.symm
 have hFg : ∀ k, FF k → k ≠ g := fun k hk e => (hX.ne k hk).2 (by rw [e]; rfl)
 have hsz : W.heap.size ≤ (W.setCell ⟨g, i, none⟩ (.pointer (some ⟨X.b, 0, none⟩))).heap.size := by rw [World.size_setCell]; exact Nat.le_refl _
 have hX2 := hX.keep (V := W.setCell ⟨g, i, none⟩ (.pointer (some ⟨X.b, 0, none⟩))) (fun k hk => hg k (hFg k hk)) hsz
 refine ⟨⟨(hg bT hbg).trans h.hd, h.row.setTp hi X, h.ne, fun q hq => ?_, hX2.lt, fun k hk => ⟨(hX.ne k hk).2, (hX.ne k hk).1⟩⟩, ?_⟩
 ·rcases List.mem_append.1 hq with hq | hq
  ·exact ((h.en q (List.mem_of_mem_take hq)).keep fun k hk => hg k (hFg k (hF k hk))).mono hF
  ·rcases List.mem_cons.1 hq with rfl | hq
   ·exact hX2.en
   ·exact ((h.en q (List.mem_of_mem_drop hq)).keep fun k hk => hg k (hFg k (hF k hk))).mono hF
 ·obtain ⟨_, _, _, _, cur, hc, _⟩ := h.row.block
  rw [setCell_eq_setRow W g i _ _ _ _ hc]
  exact ⟨setRow_os _ _ _, setRow_tape _ _ _, setRow_output _ _ _, by rw [setRow_size]; exact Nat.le_refl _, fun k _ hk => setRow_other W g k _ fun e => hk (Or.inr (by rw [e]; rfl))⟩
/-- the row is another one -/
theorem tc_row (h : Tc W bT F v L z) (hX : Frsh W bT v FF X) (hF : ∀ k, F k → FF k) (hr : Gw encTp V 0 v' L') (hq : ∀ q ∈ L', q ∈ L ∨ q = X) (hc : Chg (fun k => v.ownBlock = some k) W V) (hv : ∀ k, v'.ownBlock = some k → v.ownBlock = some k ∨ W.heap.size ≤ k) :
 Tc (V.setCell ⟨bT, 0, none⟩ v') bT FF v' L' z ∧ Chg (fun k => k = bT ∨ v.ownBlock = some k) W (V.setCell ⟨bT, 0, none⟩ v') := by
 have hT : Th V bT v z := (hc.block bT h.hd.lt (fun e => h.ne bT e rfl)).trans h.hd
 have hg : ∀ k, k ≠ bT → (V.setCell ⟨bT, 0, none⟩ v').heap[k]? = V.heap[k]? := fun k hk => heap_setCell_other V ⟨bT, 0, none⟩ k _ hk
 have hkF : ∀ k, FF k → (V.setCell ⟨bT, 0, none⟩ v').heap[k]? = W.heap[k]? := fun k hk => (hg k (hX.ne k hk).1).trans (hc.block k (hX.lt k hk) (hX.ne k hk).2)
 have hne : ∀ k, v'.ownBlock = some k → k ≠ bT := fun k hk e => (hv k hk).elim (fun h2 => h.ne k h2 e) (fun h2 => by have := h.hd.lt; omega)
 have hsz : V.heap.size ≤ (V.setCell ⟨bT, 0, none⟩ v').heap.size := by rw [World.size_setCell]; exact Nat.le_refl _
 refine ⟨⟨hT.setV v', hr.holdP fun k hk => hg k (hne k hk), hne, fun q hq2 => ?_, fun k hk => Nat.lt_of_lt_of_le (hX.lt k hk) (Nat.le_trans hc.size hsz), fun k hk => ⟨fun e => ?_, (hX.ne k hk).1⟩⟩, ?_⟩
 ·rcases hq q hq2 with h2 | rfl
  ·exact ((h.en q h2).keep fun k hk => hkF k (hF k hk)).mono hF
  ·exact hX.en.keep hkF
 ·exact (hv k e).elim (hX.ne k hk).2 (fun h2 => by have := hX.lt k hk; omega)
 ·have hc2 : Chg (fun k => k = bT ∨ v.ownBlock = some k) W V := ⟨hc.os, hc.tape, hc.output, hc.size, fun k hk hn => hc.block k hk (fun e => hn (Or.inr e))⟩
  exact hc2.tr (hT.chg 0 v') (fun b hb => Or.inl (Or.inl hb))
end
/-- a part of a row of pointers -/
theorem Gs.dropTp {W : World} {g o n : Nat} {L : List Tp} (h : Gs encTp W (some ⟨g, o, none⟩) n L) (i : Nat) (hi : i ≤ n) : Gs encTp W (some ⟨g, o + i, none⟩) (n - i) (L.drop i) := by
 have hl := h.len
 refine ⟨by rw [List.length_drop, hl], Or.inr ⟨g, o + i, rfl, fun j hj k u hu => ?_⟩⟩
 obtain ⟨b, off, hp, hc⟩ := h.ptr (i + j) (by omega)
 simp only [Option.some.injEq, Addr.mk.injEq, and_true] at hp
 obtain ⟨rfl, rfl⟩ := hp
 have e : (L.drop i).getD j encTp.d = L.getD (i + j) encTp.d := by rw [List.getD_eq_getElem?_getD, List.getD_eq_getElem?_getD, List.getElem?_drop]
 rw [e] at hu
 have h1 := hc k u hu
 rw [show g = g from rfl, show o + i + j * encTp.k + k = o + (i + j) * encTp.k + k by rw [show encTp.k = 1 from rfl]; omega]
 exact h1
theorem sizeTp : ∀ w, (Go.sizeOf 142).run Tryz.prog w = .ok 1 w := fun w => by go_simp
theorem slice_hm (W : World) (g n c i : Nat) (hi : i ≤ c) : (Instr.slice 128 (.slice (some ⟨g, 0, none⟩) n c) none (some (.int .i64 (i : Int))) (some (.int .i64 (i : Int)))).run Tryz.prog W = .ok (.slice (some ⟨g, 0, none⟩) i i) W := by
 have ht : Tryz.prog.underlying 128 = some (.slice 142) := Tryz.underlying128
 have ht' : Tryz.prog.underlying 128 = some (.slice (Tryz.prog.elem 128)) := by simp [Program.elem, ht]
 have he : Tryz.prog.elem 128 = 142 := by simp [Program.elem, ht]
 rw [run_slice_hm W _ _ _ _ ht' .i64 .i64 _ _ (by omega) (by omega) (by omega), he, sizeTp]
 simp [Result.andThen, sliced, Addr.add]
theorem ins_eq {L : List Pt} {e : Pt} {i : Nat} : cntT (L.take i ++ e :: L.drop i) = cntT L + wT e := by
 rw [cntT_append, cntT_cons]
 conv => rhs; rw [← List.take_append_drop i L, cntT_append]
 omega
theorem ovr_eq {L : List Pt} {e x : Pt} {i : Nat} (hx : L[i]? = some x) : cntT (L.take i ++ e :: L.drop (i + 1)) + wT x = cntT L + wT e := by
 have h1 : L.drop i = x :: L.drop (i + 1) := by
  obtain ⟨h2, h3⟩ := List.getElem?_eq_some_iff.1 hx
  rw [List.drop_eq_getElem_cons h2, h3]
 rw [cntT_append, cntT_cons]
 conv => rhs; rw [← List.take_append_drop i L, h1, cntT_append, cntT_cons]
 omega
set_option maxRecDepth 100000 in
set_option maxHeartbeats 4000000 in
theorem setT_any {w : World} {bT : Nat} {F : Nat → Prop} {v : Value} {L : List Pt} (e : Pt) (s : Value) (h : TgB w bT F v L) (hi : Is w s e.ins) (hd : dok e.dg) (hn : e.ins.length ≤ 2097200) (hL : L.length ≤ 1048576) :
 Calls Tryz.prog 74 #[.pointer (some ⟨bT, 0, none⟩), tnV e s] w fun r w' => OpT w bT F v (setT L e) r w' := by
 obtain ⟨Ls, h, rfl, hr⟩ := h
 obtain ⟨w0, hw0⟩ : ∃ W, w.alloc (.cells (tnC e s) 64) = W := ⟨_, rfl⟩
 obtain ⟨gE, hgE⟩ : ∃ x, w.heap.size = x := ⟨_, rfl⟩
 have hb0 : Below w.heap.size w w0 := by rw [← hw0]; exact (Below.refl _ _).alloc (Nat.le_refl _) _
 have hm0 : Tn w0 gE e s := by rw [← hw0, ← hgE]; exact heap_alloc_new _ _
 have HT := Lib.hid h
 have HG := Lib.hid hgE
 have HB0 := Lib.hid hb0
 have HM0 := Lib.hid hm0
 have HAP := Lib.hid (apartT_any e s w0 (hi.later hb0) hd.1 hn)
 have HLE := Lib.hid (hm0.load hd.1)
 have HD := Lib.hid hd
 have HLL : Hid (Ls.length ≤ 1048576) := Lib.hid (by rw [← ptP_length]; exact hL)
 have hLs : Ls.length ≤ 1048577 := by rw [← ptP_length]; omega
 obtain ⟨p0, c0', rfl, hi0⟩ := hi
 obtain ⟨m, hm⟩ : ∃ m, e.ins.length = m := ⟨_, rfl⟩
 have HML := Lib.hid hm
 unfold tnV at *
 obtain ⟨ME, hME⟩ : ∃ x, tnC e (Value.slice p0 e.ins.length c0') = x := ⟨_, rfl⟩
 rw [hME] at HAP HLE hw0
 rw [hME]
 have HME := Lib.hid hME
 clear hi0 hn hL hb0 hm0 hME hm
 go_enter Tryz.func74, Tryz.ntmps74
 go_upto_region 2 with (first
  | (refine wpList_ld rfl 64 _ rfl _ rfl _ HLE.out ?_)
  | (go_at_call 91; refine HAP.out.mono ?_; rintro r w1 ⟨u, rfl, hg1, hb1⟩; obtain ⟨q1, d1, hv1, _⟩ := hg1.open; rw [HML.out] at hv1; subst hv1; have HU1 := Lib.hid hg1; have HB1 := Lib.hid hb1; have HM1 := Lib.hid (HM0.out.later hb1); clear hg1 hb1; unfold tnV)
  | (refine wpList_store_row rfl 64 _ _ rfl gE (tnC e (.slice q1 m d1)) rfl rfl 64 _ HM1.out (tnC_sizeOf e _ HD.out.1) ((tnC_size e _ HD.out.1).trans (tnC_size e _ HD.out.1).symm) (tnC_one _ _ _ _) ?_; generalize hw2 : World.setRow _ _ _ = w2))
 have HM2 : Hid (Tn w2 gE e (.slice q1 m d1)) := Lib.hid (by rw [← hw2]; exact Mx.row HM1.out)
 have HB2 : Hid (Below w.heap.size w w2) := Lib.hid (by rw [← hw2]; exact below_setRow8 (below_step HB0.out HB1.out) _ _ (Nat.le_of_eq HG.out))
 have HG0 : Hid (gE < w0.heap.size) := Lib.hid (Mx.lt HM0.out)
 have HU2 : Hid (Gw encI w2 w0.heap.size (.slice q1 m d1) e.ins) := Lib.hid (HU1.out.holdP fun k hk => by rw [← hw2, setRow_other _ _ _ _ (by have := (HU1.out.ownlt hk).1; have := HG0.out; omega)])
 have HT2 := Lib.hid (HT.out.later HB2.out)
 have HFI := Lib.hid (findT_any e.nm HT2.out hr hLs)
 have cn := (HM2.out.cells HD.out.1).1
 clear hw2 hw0 hgE
 go_upto_region 4 with (go_at_call 102; refine HFI.out.mono ?_; rintro r w3 ⟨i, rfl, hat, hb3⟩)
 have HAT := Lib.hid hat
 have HB3 := Lib.hid (below_step HB2.out hb3)
 have HT3 := Lib.hid (HT2.out.later hb3)
 obtain ⟨X, hX⟩ : ∃ X : Tp, X = ⟨gE, ⟨e, q1, d1, HD.out.1⟩⟩ := ⟨_, rfl⟩
 have HXB : Hid (X.b = gE) := Lib.hid (by rw [hX])
 have HXE : Hid (X.x.e = e) := Lib.hid (by rw [hX])
 obtain ⟨FF, hFF⟩ : ∃ FF : Nat → Prop, FF = fun k => F k ∨ k = gE ∨ (Value.slice q1 m d1).ownBlock = some k := ⟨_, rfl⟩
 have HFS : Hid (∀ k, F k → FF k) := Lib.hid fun k hk => by rw [hFF]; exact Or.inl hk
 have HFF : Hid (∀ b, FF b → F b ∨ w.heap.size ≤ b) := Lib.hid fun b hb => by
  rw [hFF] at hb
  rcases hb with hb | hb | hb
  ·exact Or.inl hb
  ·exact Or.inr (by rw [hb]; exact Nat.le_of_eq HG.out)
  ·exact Or.inr (by have := (HU2.out.ownlt hb).1; have := HG0.out; have := HG.out; omega)
 have HX3 : Hid (Frsh w3 bT v FF X) := Lib.hid (by
  have hlt := HT.out.all_lt
  have hM3 := HM2.out.later hb3
  have hU3 := HU2.out.later hb3
  have hnw : ∀ k, k < w.heap.size → ¬ (k = gE ∨ (Value.slice q1 m d1).ownBlock = some k) := fun k hk h2 => by
   rcases h2 with h2 | h2
   ·have := HG.out; omega
   ·have := (HU2.out.ownlt h2).1; have := HG0.out; have := HG.out; omega
  refine ⟨⟨?_, ?_, ?_, ?_, ?_⟩, fun k hk => ?_, fun k hk => ?_⟩
  ·rw [hX]; have := HML.out; subst this; exact hM3
  ·rw [hX, hFF]; exact Or.inr (Or.inl rfl)
  ·rw [hX]; have := HML.out; subst this; exact hU3.is
  ·rw [hX, hFF]; have := HML.out; subst this; exact fun _ k hk => Or.inr (Or.inr hk)
  ·rw [hX]; exact HD.out
  ·rw [hFF] at hk
   rcases hk with hk | hk | hk
   ·exact HT3.out.lt k hk
   ·rw [hk]; exact Mx.lt hM3
   ·exact (hU3.ownlt hk).2
  ·rw [hFF] at hk
   rcases hk with hk | hk
   ·exact ⟨(HT.out.dis k hk).2, (HT.out.dis k hk).1⟩
   ·exact ⟨fun e2 => hnw k (hlt k (Or.inl e2)) hk, fun e2 => hnw k (hlt k (Or.inr (Or.inl e2))) hk⟩)
 have HC3 : Hid (Chg (fun k => k = bT ∨ v.ownBlock = some k) w w3) := Lib.hid (Chg.of_below HB3.out)
 have HCL := Lib.hid (cntT_le (ptP Ls))
 have HLP := Lib.hid (ptP_length Ls)
 have hcl : cntT (ptP Ls) ≤ 1048577 := by have := cntT_le (ptP Ls); rw [ptP_length] at this; omega
 clear hX hFF hat hb3 cn
 obtain ⟨p, c, rfl, hlc, hcm, hgs, _⟩ := HT3.out.row.open
 obtain ⟨n, hnn⟩ : ∃ n, Ls.length = n := ⟨_, rfl⟩
 rw [hnn] at hlc hgs HT HT2 HT3 HX3 HC3 HLP hLs HLL
 have HN := Lib.hid hnn
 have hile : i ≤ n := by have := HAT.out.le; rw [HLP.out] at this; exact this
 clear hnn
 cases hfd : fndT (ptP Ls) e.nm i with
 | true =>
   obtain ⟨q, hq, hqn⟩ : ∃ q, Ls[i]? = some q ∧ q.x.e.nm = e.nm := by
    unfold fndT at hfd
    cases hx : Ls[i]? with
    | none =>
      have h1 : (ptP Ls)[i]? = none := by unfold ptP; rw [List.getElem?_map, hx]; rfl
      rw [h1] at hfd
      cases hfd
    | some q =>
      rw [ptP_get hx] at hfd
      exact ⟨q, rfl, of_decide_eq_true hfd⟩
   have hiln : i < n := by rw [← HN.out]; exact (List.getElem?_eq_some_iff.1 hq).1
   have HQ := Lib.hid hq
   obtain ⟨g, hpg⟩ := HT3.out.row.ptr (Nat.lt_of_le_of_lt (Nat.zero_le i) hiln)
   subst hpg
   have HC1 := Lib.hid (countT_any i q (-1) HT3.out hq (Or.inr rfl) ⟨by omega, by omega⟩ (by rw [HN.out]; exact hLs))
   have HSE := Lib.hid (HAT.out.setOver hr (ptP_get hq) hqn)
   have HOV := Lib.hid (ovr_eq (e := e) (ptP_get hq))
   have HW1 : Hid (wT q.x.e ≤ 1) := Lib.hid (by unfold wT; split <;> omega)
   have hki : (i : Int) < (n : Int) := by omega
   have hk0 : (0 : Int) ≤ (i : Int) := by omega
   clear hq hqn hgs hile hlc
   go_upto_region 6 with (go_at_call 107; refine HC1.out.mono ?_; rintro r w4 ⟨rfl, ht4, hc4⟩)
   have HT4 := Lib.hid ht4
   have HC4 := Lib.hid hc4
   have HX4 := Lib.hid (HX3.out.chg hc4)
   obtain ⟨d0, d1'⟩ := ht4.hd.cells
   obtain ⟨cq, fq⟩ : (∃ u, w4.cell? ⟨g, i, none⟩ = some u) ∧ w4.frozen? ⟨g, i, none⟩ = false := by
    obtain ⟨h1, _, h3, _, cur, h5, h6, _⟩ := ht4.row.block
    refine ⟨?_, frozen_of_row w4 g i _ _ h5⟩
    rw [cell_of_row w4 g i _ _ _ h5]
    exact ⟨_, Array.getElem?_eq_getElem (by rw [h6, show encTp.k = 1 from rfl]; omega)⟩
   obtain ⟨uq, cq⟩ := cq
   clear ht4 hc4 d1'
   go_upto_region 9 with fail
   have HT9' := tc_over HT4.out HX4.out HFS.out hiln
   rw [HXB.out] at HT9'
   obtain ⟨ht9, hc9⟩ := HT9'
   generalize World.setCell _ _ _ = w9 at *
   have HT9 := Lib.hid ht9
   have HC9 : Hid (Chg (fun k => k = bT ∨ (Value.slice (some ⟨g, 0, none⟩) n c).ownBlock = some k) w w9) := Lib.hid ((HC3.out.tr HC4.out (fun b hb => Or.inl (Or.inl hb))).tr hc9 (fun b hb => Or.inl hb))
   have HL9 : Hid ((Ls.take i ++ X :: Ls.drop (i + 1))[i]? = some X) := Lib.hid (by
    have hl : (Ls.take i).length = i := by rw [List.length_take, HN.out]; omega
    rw [List.getElem?_append_right (by omega), hl, Nat.sub_self]; rfl)
   have HP9 : Hid (ptP (Ls.take i ++ X :: Ls.drop (i + 1)) = setT (ptP Ls) e) := Lib.hid (by
    rw [HSE.out, ptP_append, ptP_take, show ptP (X :: Ls.drop (i + 1)) = X.x.e :: ptP (Ls.drop (i + 1)) from rfl, ptP_drop, HXE.out])
   have HZ9 : Hid ((cntT (ptP Ls) : Int) + -1 * (wT q.x.e : Int) + 1 * (wT X.x.e : Int) = (cntT (setT (ptP Ls) e) : Int)) := Lib.hid (by
    rw [HSE.out, HXE.out]
    have := HOV.out
    omega)
   have HBZ : Hid (-2 ≤ (cntT (ptP Ls) : Int) + -1 * (wT q.x.e : Int) ∧ (cntT (ptP Ls) : Int) + -1 * (wT q.x.e : Int) ≤ 1048577) := Lib.hid (by have := HW1.out; omega)
   have HBL9 : Hid ((Ls.take i ++ X :: Ls.drop (i + 1)).length ≤ 1048577) := Lib.hid (by rw [List.length_append, List.length_take, List.length_cons, List.length_drop]; have := HN.out; omega)
   have HO9 : Hid (∀ b, (Value.slice (some ⟨g, 0, none⟩) n c).ownBlock = some b → (Value.slice (some ⟨g, 0, none⟩) n c).ownBlock = some b ∨ w.heap.size ≤ b) := Lib.hid fun b hb => Or.inl hb
   clear ht9 hc9 d0 cq fq
   have HCN := Lib.hid (countT_any i X 1 HT9.out HL9.out (Or.inl rfl) HBZ.out HBL9.out)
   go_wp2_with (go_at_call 107; refine HCN.out.mono ?_; rintro r wz ⟨rfl, htz, hcz⟩; have HTZ := Lib.hid htz; have HCZ := Lib.hid hcz; clear htz hcz)
   refine bodyPost_end (results_none rfl _ _ _) rfl ?_
   have htz := HTZ.out
   rw [HZ9.out] at htz
   have hnn := HN.out
   subst hnn
   exact ⟨_, FF, rfl, ⟨_, htz, HP9.out, setT_row hr⟩, HC9.out.tr HCZ.out (fun b hb => Or.inl (Or.inl hb)), HO9.out, HFF.out⟩
 | false =>
   have HSE := Lib.hid (HAT.out.setNew hr hfd)
   have HIE := Lib.hid (ins_eq (L := ptP Ls) (e := e) (i := i))
   have HP9 : Hid (∀ M, M = Ls.take i ++ X :: Ls.drop i → M[i]? = some X ∧ ptP M = setT (ptP Ls) e ∧ M.length ≤ 1048577 ∧ ∀ q ∈ M, q ∈ Ls ∨ q = X) := Lib.hid (by
    rintro M rfl
    have hl : (Ls.take i).length = i := by rw [List.length_take, HN.out]; omega
    refine ⟨by rw [List.getElem?_append_right (by omega), hl, Nat.sub_self]; rfl, by rw [HSE.out, ptP_append, ptP_take, show ptP (X :: Ls.drop i) = X.x.e :: ptP (Ls.drop i) from rfl, ptP_drop, HXE.out], ?_, fun q hq => ?_⟩
    ·rw [List.length_append, List.length_take, List.length_cons, List.length_drop]
     have := HN.out
     have := HLL.out
     omega
    ·rcases List.mem_append.1 hq with hq | hq
     ·exact Or.inl (List.mem_of_mem_take hq)
     ·rcases List.mem_cons.1 hq with rfl | hq
      ·exact Or.inr rfl
      ·exact Or.inl (List.mem_of_mem_drop hq))
   have HZ9 : Hid ((cntT (ptP Ls) : Int) + 1 * (wT X.x.e : Int) = (cntT (setT (ptP Ls) e) : Int)) := Lib.hid (by
    rw [HSE.out, HXE.out]
    have := HIE.out
    omega)
   have HBZ : Hid (-2 ≤ (cntT (ptP Ls) : Int) ∧ (cntT (ptP Ls) : Int) ≤ 1048577) := Lib.hid (by omega)
   have HTH := Lib.hid HT3.out.hd
   obtain ⟨d0, d1'⟩ := HTH.out.cells
   clear d1' hfd
   by_cases hin : i = n
   ·have hqe : ((i : Int) == (n : Int)) = true := by rw [hin]; simp
    have HIN := Lib.hid hin
    have hML : Ls.take i ++ X :: Ls.drop i = Ls ++ [X] := by
     rw [List.take_of_length_le (by rw [HN.out]; omega), List.drop_of_length_le (by rw [HN.out]; omega)]
    have HMM := Lib.hid (HP9.out _ hML.symm)
    have hfr := HTH.out.frozen 0
    clear hin hile hlc hgs hML
    go_upto_region 9 with (first
     | (refine wpList_append_fr encTp rfl (.tmp 57) (.tmp 58) 128 rfl Tryz.underlying128 (.pointer none) 8 infoTp rfl (by decide) 0 _ Ls rfl (HT3.out.row.alloc _) _ 1 1 [X] rfl ?hgo (fun h => by cases h) (by have := HLL.out; have := HN.out; omega) (Nat.zero_le _) ?_
        case hgo => have h1 := Gs.one encTp w3 X #[.pointer (some ⟨X.b, 0, none⟩)] rfl 142 (0, 0); rw [HXB.out] at h1; exact h1
        intro v8 w8 ho8 hg8 hf8
        obtain ⟨p8, c8, hv8, _⟩ := ho8.open
        obtain ⟨n8, hn8⟩ : ∃ x, (Ls ++ [X]).length = x := ⟨_, rfl⟩
        rw [hn8] at hv8
        subst hv8
        have HO8 := Lib.hid ho8
        have HC8 : Hid (Chg (fun k => (Value.slice p n c).ownBlock = some k) w3 w8) := (Lib.hid ((Chg.of_below (S := fun k => (Value.slice p n c).ownBlock = some k) ((Below.refl _ w3).alloc (Nat.le_refl _) (.cells #[.pointer (some ⟨gE, 0, none⟩)] 142))).tr (chg_grown hg8) (fun b hb => Or.inl hb)))
        have HV8 : Hid (∀ k, (Value.slice p8 n8 c8).ownBlock = some k → (Value.slice p n c).ownBlock = some k ∨ w3.heap.size ≤ k) := (Lib.hid (fun k hk => (hf8 k hk).imp id (fun h2 => by rw [World.size_alloc] at h2; omega)))
        have HT8 : Hid (Th w8 bT (.slice p n c) (cntT (ptP Ls) : Int)) := (Lib.hid ((HC8.out.block bT HTH.out.lt (fun e2 => HT3.out.ne bT e2 rfl)).trans HTH.out))
        have k0 := HT8.out.cells.1
        have kf := HT8.out.frozen 0
        clear ho8 hg8 hf8 hn8))
    obtain ⟨ht9, hc9⟩ := tc_row HT3.out HX3.out HFS.out HO8.out HMM.out.2.2.2 HC8.out HV8.out
    generalize World.setCell _ _ _ = w9 at *
    have HT9 := Lib.hid ht9
    have HC9 : Hid (Chg (fun k => k = bT ∨ (Value.slice p n c).ownBlock = some k) w w9) := Lib.hid (HC3.out.tr hc9 (fun b hb => Or.inl hb))
    have HL9 := Lib.hid HMM.out.1
    have HP9 := Lib.hid HMM.out.2.1
    have HBL9 := Lib.hid HMM.out.2.2.1
    have HO9 : Hid (∀ b, (Value.slice p8 n8 c8).ownBlock = some b → (Value.slice p n c).ownBlock = some b ∨ w.heap.size ≤ b) := Lib.hid fun b hb => (HV8.out b hb).imp id fun h2 => Nat.le_trans HB3.out.size h2
    clear ht9 hc9 d0 k0 kf hfr
    have HCN := Lib.hid (countT_any i X 1 HT9.out HL9.out (Or.inl rfl) HBZ.out HBL9.out)
    go_wp2_with (go_at_call 107; refine HCN.out.mono ?_; rintro r wz ⟨rfl, htz, hcz⟩; have HTZ := Lib.hid htz; have HCZ := Lib.hid hcz; clear htz hcz)
    refine bodyPost_end (results_none rfl _ _ _) rfl ?_
    have htz := HTZ.out
    rw [HZ9.out] at htz
    have hnn := HN.out
    subst hnn
    exact ⟨_, FF, rfl, ⟨_, htz, HP9.out, setT_row hr⟩, HC9.out.tr HCZ.out (fun b hb => Or.inl (Or.inl hb)), HO9.out, HFF.out⟩
   ·have hiln : i < n := by omega
    have hqe : ((i : Int) == (n : Int)) = false := by simp; omega
    obtain ⟨g, hpg⟩ := HT3.out.row.ptr (Nat.lt_of_le_of_lt (Nat.zero_le i) hiln)
    subst hpg
    have HIL : Hid (i < n ∧ n ≤ 1048576 ∧ n ≤ c) := Lib.hid ⟨hiln, by have := HLL.out; have := HN.out; omega, hlc⟩
    have HGS : Hid (Gs encTp w3 (some ⟨g, 0, none⟩) i (Ls.take i)) := Lib.hid (hgs.take i (Nat.le_of_lt hiln))
    have HGD : Hid (Gs encTp w3 (some ⟨g, i, none⟩) (n - i) (Ls.drop i)) := Lib.hid (by have h1 := hgs.dropTp i (Nat.le_of_lt hiln); rw [Nat.zero_add] at h1; exact h1)
    have hs1 := fun W => slice_hm W g n c i (by omega)
    have hs2 := fun W => run_slice_from (P := Tryz.prog) W 128 142 Tryz.underlying128 sizeTp g 0 n c i (Nat.le_of_lt hiln)
    rw [if_neg (by omega), Nat.zero_add] at hs2
    have HKC : Hid (∀ W, Below w3.heap.size w3 W → W.cell? ⟨bT, 0, none⟩ = some (.slice (some ⟨g, 0, none⟩) n c)) := Lib.hid fun W hW => by rw [hW.cell HTH.out.lt]; exact d0
    have HFR : Hid (∀ W, Below w3.heap.size w3 W → W.frozen? ⟨bT, 0, none⟩ = false) := Lib.hid fun W hW => Th.frozen (show Th W bT _ _ from (hW.block bT HTH.out.lt).trans HTH.out) 0
    have HMM := Lib.hid (HP9.out (Ls.take i ++ [X] ++ Ls.drop i) (by simp))
    clear hin hile hlc hgs
    go_upto_region 3 with fail
    refine wp_region_x (fun W : World => W.cell? ⟨bT, 0, none⟩ = some (.slice (some ⟨g, 0, none⟩) n c) ∧ Below w3.heap.size w3 W) 19 (by kernel_rfl) ?_
    have hHeld : (fun W : World => W.cell? ⟨bT, 0, none⟩ = some (.slice (some ⟨g, 0, none⟩) n c) ∧ Below w3.heap.size w3 W) _ := (show (fun W : World => W.cell? ⟨bT, 0, none⟩ = some (.slice (some ⟨g, 0, none⟩) n c) ∧ Below w3.heap.size w3 W) (World.drew w3) from ⟨HKC.out _ (Below.refl _ _).drew, (Below.refl _ _).drew⟩)
    refine tkx 0 rfl ?_;(try simp only [PT]);refine tkx 1 rfl ?_;(try simp only [PT]);refine tkx 2 rfl ?_;(try simp only [PT]);refine tkx 3 rfl ?_;(try simp only [PT]);refine tkx 4 rfl ?_;(try simp only [PT]);refine tkx 5 rfl ?_;(try simp only [PT]);refine tkx 6 rfl ?_;(try simp only [PT]);refine tkx 7 rfl ?_;(try simp only [PT]);refine tkx 10 rfl ?_;(try simp only [PT]);refine tkx 11 rfl ?_;(try simp only [PT]);refine tkx 12 rfl ?_;(try simp only [PT]);refine tkx 13 rfl ?_;(try simp only [PT]);refine tkx 14 rfl ?_;(try simp only [PT]);refine tkx 15 rfl ?_;(try simp only [PT])
    refine readyx 8 rfl (by kernel_rfl) (fun K hK => ?_)
    go_simp
    obtain ⟨w4, hw4⟩ : ∃ W, (w3.alloc (.cells #[.pointer (some ⟨X.b, 0, none⟩)] 142)).drew = W := ⟨_, rfl⟩
    obtain ⟨G4, hG4⟩ : ∃ x, w3.heap.size = x := ⟨_, rfl⟩
    have HB4 : Hid (Below w3.heap.size w3 w4) := Lib.hid (by rw [← hw4]; exact ((Below.refl _ _).alloc (Nat.le_refl _) _).drew)
    have HG1 : Hid (Gs encTp w4 (some ⟨G4, 0, none⟩) 1 [X]) := Lib.hid (by rw [← hw4, ← hG4]; exact (Gs.one encTp w3 X #[.pointer (some ⟨X.b, 0, none⟩)] rfl 142 (0, 0)).later ((Below.refl _ _).drew))
    rw [HXB.out] at hw4
    first | rw [hw4, hG4] | (go_wp2_with fail; rw [hw4, hG4])
    first
     | refine hK.out _ _ ?hS15 ?rest15
     | (go_wp2_with fail; refine hK.out _ _ ?hS15 ?rest15)
    case hS15 => exact ⟨HKC.out _ HB4.out, HB4.out⟩
    clear hK K hHeld
    have hHeld : (fun W : World => W.cell? ⟨bT, 0, none⟩ = some (.slice (some ⟨g, 0, none⟩) n c) ∧ Below w3.heap.size w3 W) _ := ⟨HKC.out _ HB4.out, HB4.out⟩
    (try simp only [PT])
    refine readyx 9 rfl (by kernel_rfl) (fun K hK => ?_)
    rw [if_pos (by rfl)]
    refine wp_append_full encTp (.tmp 22) (.tmp 23) 128 rfl Tryz.underlying128 (.pointer none) 8 infoTp rfl (by decide) g 0 i (Ls.take i) rfl (HGS.out.later HB4.out) G4 0 1 1 [X] rfl HG1.out (Nat.lt_succ_self _) (by have := HIL.out; omega) ?_
    intro v5 w5 ho5 hb5
    obtain ⟨p5, c5, hv5, _⟩ := ho5.open
    obtain ⟨n5, hn5⟩ : ∃ x, (Ls.take i ++ [X]).length = x := ⟨_, rfl⟩
    rw [hn5] at hv5
    subst hv5
    have HO5 := Lib.hid ho5
    have HB5 := Lib.hid hb5
    have HN5 := Lib.hid hn5
    clear ho5 hb5 hn5
    refine hK.out _ _ ?hS16 ?rest16
    case hS16 => exact ⟨HKC.out _ (below_step HB4.out HB5.out), below_step HB4.out HB5.out⟩
    clear hK K hHeld
    have hHeld : (fun W : World => W.cell? ⟨bT, 0, none⟩ = some (.slice (some ⟨g, 0, none⟩) n c) ∧ Below w3.heap.size w3 W) _ := ⟨HKC.out _ (below_step HB4.out HB5.out), below_step HB4.out HB5.out⟩
    (try simp only [PT])
    refine readyx 16 rfl (by kernel_rfl) (fun K hK => ?_)
    rw [if_pos (by rfl)]
    refine wp_append_fr encTp (.tmp 24) (.tmp 30) 128 rfl Tryz.underlying128 (.pointer none) 8 infoTp rfl (by decide) w4.heap.size (.slice p5 n5 c5) (Ls.take i ++ [X]) rfl HO5.out _ (n - i) (c - i) (Ls.drop i) rfl (HGD.out.later (below_step HB4.out HB5.out)) (fun h => by cases h) (by rw [List.length_append, List.length_take, List.length_singleton]; have := HIL.out; omega) HB5.out.size ?_
    intro v6 w6 ho6 hg6 hf6
    obtain ⟨p6, c6, hv6, _⟩ := ho6.open
    obtain ⟨n6, hn6⟩ : ∃ x, (Ls.take i ++ [X] ++ Ls.drop i).length = x := ⟨_, rfl⟩
    rw [hn6] at hv6
    subst hv6
    have HO6 := Lib.hid ho6
    have HB6 : Hid (Below w3.heap.size w3 w6) := Lib.hid ((below_step HB4.out HB5.out).grown hg6 (below_step HB4.out HB5.out).size (fun k hk => Nat.le_trans HB4.out.size (HO5.out.ownlt hk).1))
    have HN6 := Lib.hid (fun k (hk : (Value.slice p6 n6 c6).ownBlock = some k) => (hf6 k hk).elim (fun h2 => Nat.le_trans HB4.out.size (HO5.out.ownlt h2).1) (fun h2 => Nat.le_trans (below_step HB4.out HB5.out).size h2))
    clear ho6 hg6 hf6 hn6
    refine hK.out _ _ ?hS17 ?rest17
    case hS17 => exact ⟨HKC.out _ HB6.out, HB6.out⟩
    clear hK K hHeld
    have hHeld : (fun W : World => W.cell? ⟨bT, 0, none⟩ = some (.slice (some ⟨g, 0, none⟩) n c) ∧ Below w3.heap.size w3 W) _ := ⟨HKC.out _ HB6.out, HB6.out⟩
    (try simp only [PT])
    refine readyx 17 rfl (by kernel_rfl) (fun K hK => ?_)
    go_simp
    first
     | refine hK.out _ _ ?hS18 ?rest18
     | (go_wp2_with fail; refine hK.out _ _ ?hS18 ?rest18)
    case hS18 => exact ⟨HKC.out _ HB6.out, HB6.out⟩
    clear hK K hHeld
    have hHeld : (fun W : World => W.cell? ⟨bT, 0, none⟩ = some (.slice (some ⟨g, 0, none⟩) n c) ∧ Below w3.heap.size w3 W) _ := ⟨HKC.out _ HB6.out, HB6.out⟩
    (try simp only [PT])
    refine readyx 18 rfl (by kernel_rfl) (fun K hK => ?_)
    go_simp
    first
     | refine hK.out _ _ ?hS19 ?rest19
     | (go_wp2_with fail; refine hK.out _ _ ?hS19 ?rest19)
    case hS19 => exact ⟨HKC.out _ HB6.out, HB6.out⟩
    clear hK K hHeld
    have hHeld : (fun W : World => W.cell? ⟨bT, 0, none⟩ = some (.slice (some ⟨g, 0, none⟩) n c) ∧ Below w3.heap.size w3 W) _ := ⟨HKC.out _ HB6.out, HB6.out⟩
    (try simp only [PT])
    refine lastx 19 rfl (by kernel_rfl) (by kernel_rfl) (fun K hK => ?_)
    have k0 := HKC.out _ HB6.out
    have kf := HFR.out _ HB6.out
    go_simp
    first
     | refine hK.out _ _ ?_
     | (go_wp2_with fail; refine hK.out _ _ ?_)
    clear hK K hHeld
    obtain ⟨ht9, hc9⟩ := tc_row HT3.out HX3.out HFS.out (HO6.out.mono (Nat.zero_le _)) HMM.out.2.2.2 (Chg.of_below HB6.out) (fun k hk => Or.inr (HN6.out k hk))
    go_upto_region 9 with fail
    generalize World.setCell _ _ _ = w9 at *
    have HT9 := Lib.hid ht9
    have HC9 : Hid (Chg (fun k => k = bT ∨ (Value.slice (some ⟨g, 0, none⟩) n c).ownBlock = some k) w w9) := Lib.hid (HC3.out.tr hc9 (fun b hb => Or.inl hb))
    have HL9 := Lib.hid HMM.out.1
    have HP9 := Lib.hid HMM.out.2.1
    have HBL9 := Lib.hid HMM.out.2.2.1
    have HO9 : Hid (∀ b, (Value.slice p6 n6 c6).ownBlock = some b → (Value.slice (some ⟨g, 0, none⟩) n c).ownBlock = some b ∨ w.heap.size ≤ b) := Lib.hid fun b hb => Or.inr (Nat.le_trans HB3.out.size (HN6.out b hb))
    clear ht9 hc9 d0
    have HCN := Lib.hid (countT_any i X 1 HT9.out HL9.out (Or.inl rfl) HBZ.out HBL9.out)
    go_wp2_with (go_at_call 107; refine HCN.out.mono ?_; rintro r wz ⟨rfl, htz, hcz⟩; have HTZ := Lib.hid htz; have HCZ := Lib.hid hcz; clear htz hcz)
    refine bodyPost_end (results_none rfl _ _ _) rfl ?_
    have htz := HTZ.out
    rw [HZ9.out] at htz
    have hnn := HN.out
    subst hnn
    exact ⟨_, FF, rfl, ⟨_, htz, HP9.out, setT_row hr⟩, HC9.out.tr HCZ.out (fun b hb => Or.inl (Or.inl hb)), HO9.out, HFF.out⟩
theorem take_snoc {L : List Pt} {k : Nat} {x : Pt} (h : L[k]? = some x) : L.take (k + 1) = L.take k ++ [x] := by
 obtain ⟨h5, h6⟩ := List.getElem?_eq_some_iff.1 h
 rw [List.take_succ_eq_append_getElem h5, h6]
set_option maxRecDepth 100000 in
set_option maxHeartbeats 4000000 in
theorem trow_any {w : World} {bT : Nat} {F : Nat → Prop} {v : Value} {L : List Pt} (h : TgB w bT F v L) (hi : insLeT L 2097200) (hL : L.length ≤ 1048577) :
 Calls Tryz.prog 55 #[.pointer (some ⟨bT, 0, none⟩)] w fun e w' => RowGQ w F L e w' := by
 obtain ⟨Ls, h, rfl, hr⟩ := h
 have H := Lib.hid h
 have HIN := Lib.hid hi
 have HLL : Hid ((ptP Ls).length = Ls.length) := Lib.hid (ptP_length Ls)
 have hnl : Ls.length ≤ 1048577 := by rw [← ptP_length]; exact hL
 obtain ⟨p, c, rfl, hlc, hcm, hgs⟩ := h.pt
 have c0 := h.hd.cells.1
 have HGS := Lib.hid hgs
 obtain ⟨n, hn⟩ : ∃ n, Ls.length = n := ⟨_, rfl⟩
 rw [hn] at c0 HGS hlc hnl HLL
 clear h hr hL hgs hn hi
 go_enter Tryz.func55, Tryz.ntmps55
 go_wp2
 go_loopw [3, 13] (fun ov j wr => ∃ (k : Nat) (q : Option Addr) (m d : Nat) (o : List Tx), k ≤ n ∧ j = .int .i64 (k : Int) ∧ ov = .slice q m d ∧ Hid (ptL o = (ptP Ls).take k) ∧ Hid (Gw encTn wr w.heap.size (.slice q m d) o) ∧ Hid (∀ x ∈ o, dok x.e.dg ∧ Gw encI wr w.heap.size x.s x.e.ins) ∧ Hid (Below w.heap.size w wr)) (fun _ j _ => n - (intOf j).toNat)
 case atStart => exact ⟨0, none, 0, 0, [], by omega, rfl, rfl, Lib.hid rfl, Lib.hid (Gw.nil _ _ _), Lib.hid (fun x hx => by cases hx), Lib.hid (Below.refl _ _)⟩
 case round =>
  obtain ⟨k, q, m, d, o, hkn, rfl, rfl, HE, HO, HM, HB⟩ := hrel
  by_cases hlt : k < n
  ·obtain ⟨b1, off, y, rfl, hy1, hy3, cq⟩ := (HGS.out.later HB.out).tp k hlt
   have HY := Lib.hid ((H.out.later HB.out).en y hy3)
   have HLY := Lib.hid (HY.out.tn.load HY.out.dk.1)
   have HAP := Lib.hid (apartT_any y.x.e y.x.s wr HY.out.is HY.out.dk.1 (HIN.out _ (List.mem_map.2 ⟨y, hy3, rfl⟩)))
   have HT := Lib.hid (take_snoc (ptP_get hy1))
   have HXD := Lib.hid HY.out.dk
   have HOL : Hid (o.length + 1 ≤ 2097216) := Lib.hid (by have h5 := congrArg List.length HE.out; rw [ptL_length, List.length_take] at h5; omega)
   have hki : (k : Int) < (n : Int) := by omega
   have hk0 : (0 : Int) ≤ (k : Int) := by omega
   obtain ⟨bq, hbq⟩ : ∃ x, y.b = x := ⟨_, rfl⟩
   rw [hbq] at cq HLY
   obtain ⟨E, hE⟩ : ∃ x, y.x.e = x := ⟨_, rfl⟩
   rw [hE] at HLY HAP HT HXD
   unfold tnV at HAP
   obtain ⟨ME, hME⟩ : ∃ x, tnC E y.x.s = x := ⟨_, rfl⟩
   rw [hME] at HLY HAP
   clear hy1 hy3 hbq hE hME HY
   go_wp2_with (first
    | (refine wpList_ld rfl 64 _ rfl _ rfl _ HLY.out ?_)
    | (go_at_call 91
       refine HAP.out.mono ?_
       rintro r w4 ⟨u, rfl, hg4, hb4⟩
       obtain ⟨q4, d4, hv4, _⟩ := hg4.open
       subst hv4
       have HXG : Hid (Gw encI w4 w.heap.size (.slice q4 E.ins.length d4) E.ins) := Lib.hid (hg4.mono HB.out.size)
       have HO4 := Lib.hid (HO.out.later hb4)
       have HM4 : Hid (∀ x ∈ o, dok x.e.dg ∧ Gw encI w4 w.heap.size x.s x.e.ins) := (Lib.hid (fun x hx => ⟨(HM.out x hx).1, (HM.out x hx).2.later hb4⟩))
       have HB4 := Lib.hid (below_step HB.out hb4)
       obtain ⟨X, hX⟩ : ∃ X : Tx, X = ⟨E, q4, d4, HXD.out.1⟩ := ⟨_, rfl⟩
       have HXE : Hid (X.e = E ∧ X.s = .slice q4 E.ins.length d4) := (Lib.hid (by rw [hX]; exact ⟨rfl, rfl⟩))
       have HE2 : Hid (ptL (o ++ [X]) = (ptP Ls).take (k + 1)) := (Lib.hid (by rw [HT.out, ptL_append, HE.out, ← HXE.out.1]; rfl))
       clear hg4 hb4 hX
       unfold tnV)
    | (refine wpList_build_tn rfl 24 21 rfl Tryz.underlying24 X (by rw [HXE.out.1, HXE.out.2]; rfl) ?_)
    | (refine wpList_append_gen encTn rfl _ _ 24 rfl Tryz.underlying24 tzero 104 infoTn tzero_size (by decide) w.heap.size _ o rfl (HO4.out.alloc _) _ 1 1 [X] rfl (Gs.oneTn _ X) (fun h => by cases h) HOL.out (by have h1 := HB4.out.size; rw [World.size_alloc]; omega) ?_
       intro v8 w8 ho8 hg8
       obtain ⟨p8, c8, hv8, _⟩ := ho8.open
       obtain ⟨m8, hm8⟩ : ∃ x, (o ++ [X]).length = x := ⟨_, rfl⟩
       rw [hm8] at hv8
       subst hv8
       have HO8 := Lib.hid ho8
       have HB8 := Lib.hid (below_appT (HB4.out.alloc HB4.out.size (.cells (tnC X.e X.s) 64)) (HO4.out.alloc _) (Nat.le_refl _) hg8)
       have HM8 : Hid (∀ x ∈ o ++ [X], dok x.e.dg ∧ Gw encI w8 w.heap.size x.s x.e.ins) := (Lib.hid (fun x hx => (List.mem_append.1 hx).elim (fun h => ⟨(HM4.out x h).1, ((HM4.out x h).2.alloc _).besideTn (HO4.out.alloc _) hg8⟩) (fun h => by rw [List.mem_singleton.1 h]; exact ⟨(by rw [HXE.out.1]; exact HXD.out), ((show Gw encI w4 w.heap.size X.s X.e.ins by rw [HXE.out.1, HXE.out.2]; exact HXG.out).alloc _).besideTn (HO4.out.alloc _) hg8⟩)))
       clear ho8 hg8 hm8))
   exact ⟨⟨k + 1, p8, m8, c8, o ++ [X], by omega, by go_num, rfl, HE2, HO8, HM8, HB8⟩, by simp [intOf] <;> omega⟩
  ·obtain rfl : k = n := by omega
   have HF : Hid (ptL o = ptP Ls) := Lib.hid (by have h1 := HE.out; rwa [List.take_of_length_le (by rw [HLL.out]; exact Nat.le_refl _)] at h1)
   go_wp2
   go_ret
   obtain ⟨q9, d9, hv9, h5, h6, h7, h8⟩ := gwTn_open HO.out
   simp only [Value.slice.injEq] at hv9
   obtain ⟨rfl, rfl, rfl⟩ := hv9
   refine ⟨_, _, _, o, _, rfl, HF.out, (ReT.none w).next HB.out HO.out.gs (fun _ b off e => Or.inr (h8 b off e)) (fun x hx => Or.inr (HM.out x hx)), fun b hb => ?_, h7, h5, h6, HB.out⟩
   rcases hb with hb | hb
   ·exact hb.elim
   ·exact Or.inr hb.1
end Go.Proofs.YtpfbfhigelbfcaaGreat

