/- Layer 22, the program: Loads. (gen_stzo.py); Layer 22, the program: Apply. (gen_stza.py); Layer 22, the program: Keep; Layer 22, the program: New. (gen_stzw.py); Layer 22, the program: Snapshot. (gen_stzn.py) -/
import Derived.Test.YtpfbfhigelbfcaaGreatSd30
import Derived.Test.YtpfbfhigelbfcaaGreatSd32
set_option linter.unusedSimpArgs false
set_option linter.unusedVariables false
namespace Go.Proofs.YtpfbfhigelbfcaaGreat
open Go.RowKit Go.Lib Go.Maps
variable {Ix : World → (Nat → Prop) → (Nat → Prop) → Value → List Pe → Prop} {Tx : World → (Nat → Prop) → (Nat → Prop) → Value → List Pt → Prop}
theorem lookJ_run {w : World} {b n : Nat} {f : Int → Option Int} (h : Mj w b n f) (s : Int) (hs : Rgi s) : (Instr.lookup TJ (.map (some b)) (.int .i64 s) false).run Tryz.prog w = .ok (.int .i64 ((f s).getD 0)) w := by
 obtain ⟨h0, D, hown, hd⟩ := h
 obtain ⟨c, hrun, hat, _⟩ := hown.lookup_int lawJ undJ undJi (zeroJ w) (keyJ_of hs)
 obtain ⟨hh, hat2⟩ := hd s hs
 rw [hrun]
 cases hf : f s with
 | none =>
   rw [hf] at hh
   rw [atKey_of_not_has hh] at hat
   simp only [DataW.lit.injEq, Lit.int.injEq, true_and] at hat
   rw [← hat]; rfl
 | some i =>
   rw [hat2 i hf] at hat
   simp only [DataW.lit.injEq, Lit.int.injEq, true_and] at hat
   rw [← hat]; rfl
/-- amid Loads' second loop -/
structure LqJ (wk W : World) (ls : List (Int × Int × Int)) (v : Value) : Prop where
 gw : Gw encLo W wk.heap.size v ls
 le : Below wk.heap.size wk W
/-- amid Loads' first loop: the map alone turns -/
structure LdJ (w2 W : World) (Ml k : Nat) (l : List Wq) : Prop where
 m : Mj W Ml k (accJ l)
 c : Chg (fun b => b = Ml) w2 W
theorem LdJ.later {w2 W V : World} {Ml k : Nat} {l : List Wq} (h : LdJ w2 W Ml k l) (hM : Ml < w2.heap.size) (hb : Below W.heap.size W V) : LdJ w2 V Ml k l :=
 ⟨h.m.later hb, h.c.tr (S' := fun b => b = Ml) (Chg.of_below hb) (fun b hb => Or.inl hb)⟩
theorem LdJ.put {w2 W V : World} {Ml k : Nat} {l : List Wq} {y : Wq} (h : LdJ w2 W Ml k l) (hm : Mj V Ml (k + 1) (fun t => if t = y.seg then some (IntKind.i64.wrap ((accJ l y.seg).getD 0 + y.len)) else accJ l t)) (hg : W.grownBy V (some Ml)) : LdJ w2 V Ml (k + 1) (l ++ [y]) :=
 ⟨by rw [accJ_snoc]; exact hm, h.c.tr (S' := fun b => b = Ml) ⟨hg.os, hg.tape, hg.output, hg.size, fun k hk hn => hg.block k hk (fun e => hn (by injection e with e))⟩ (fun b hb => Or.inl hb)⟩
set_option maxRecDepth 100000 in
set_option maxHeartbeats 8000000 in
theorem zloads_any (hI : IdxOk Ix) (hT : TagOk Tx) {w : World} {B M n : Nat} {vi vt : Value} {SI FI ST FT F : Nat → Prop} {x : Ps} (h : Sz0 Ix Tx w B M n vi vt SI FI ST FT x) (hf : x.Few) :
 Calls Tryz.prog 20 #[.pointer (some ⟨B, 0, none⟩)] w fun e w' => LoadSQ w F (loadsP x) e w' := by
 obtain ⟨w1, hw1⟩ : ∃ W, w.alloc (.map #[] 0) = W := ⟨_, rfl⟩
 obtain ⟨Ml, hMl⟩ : ∃ z, w.heap.size = z := ⟨_, rfl⟩
 have hb1 : Below w.heap.size w w1 := by rw [← hw1]; exact (Below.refl _ _).alloc (Nat.le_refl _) _
 have HB1 := Lib.hid hb1
 have HM1 : Hid (Mj w1 Ml 0 (accJ [])) := Lib.hid (by rw [← hw1, ← hMl]; exact Mj.made w)
 have HS1 := Lib.hid (h.later hI hT hb1)
 have HSL := Lib.hid fun (W : World) (hk : ∀ b, b < w.heap.size → W.heap[b]? = w1.heap[b]?) (hs : w1.heap.size ≤ W.heap.size) => (h.later hI hT hb1).keep (w' := W) hI hT (fun b hb => hk b (h.lt hI hT b hb)) hs
 have HLI := Lib.hid (zlive_any hI hT (h.later hI hT hb1) hf)
 have HLN : Hid ((zwL x).length ≤ 1048576) := Lib.hid (Nat.le_trans (zwL_len x) hf.n)
 have HIN := Lib.hid (zwL_in h.inn)
 have HXI := Lib.hid h.inn
 have HRL := Lib.hid h.r
 have HLL := Lib.hid hf.l
 have HSZ : Hid (w.heap.size = Ml ∧ Ml < w1.heap.size) := Lib.hid ⟨hMl, by rw [← hw1, ← hMl]; simp⟩
 have hmm := @run_makeMap Tryz.prog
 obtain ⟨c0, c1, c2⟩ := h.h.cells
 clear h hI hT hf hb1
 go_enter Tryz.func20, Tryz.ntmps20
 go_wp2_with (go_at_call 56; refine HLI.out.mono ?_; rintro ex w2 ⟨v2, o2, rfl, hg2, ho2, hb2⟩; obtain ⟨p, c, hv2, _⟩ := hg2.open; obtain ⟨m, hm⟩ : ∃ z, o2.length = z := ⟨_, rfl⟩; rw [hm] at hv2; subst hv2; have HG2 := Lib.hid hg2; have HO2 := Lib.hid ho2; have HB2 := Lib.hid hb2; have HM := Lib.hid hm; clear hg2 ho2 hb2 hm)
 have HMM : Hid (m ≤ 1048576) := Lib.hid (by have h1 := congrArg List.length HO2.out; rw [wxL_length, HM.out] at h1; rw [h1]; exact HLN.out)
 have hmm2 := HMM.out
 have HMS : Hid (Ml < w2.heap.size) := Lib.hid (Nat.lt_of_lt_of_le HSZ.out.2 HB2.out.size)
 have HI0 : Hid (LdJ w2 w2 Ml 0 ((zwL x).take 0)) := Lib.hid ⟨HM1.out.later HB2.out, Chg.refl _ _⟩
 have HGK : Hid (∀ W, Chg (fun b => b = Ml) w2 W → Gs encWd W p m o2) := Lib.hid fun W hW => by
  have h1 := HG2.out.gs
  refine h1.hold fun hn b off hp => hW.block b ?_ (fun e => ?_)
  ·subst hp; exact h1.block_lt (by omega)
  ·subst hp
   have h2 := Gw.own_lt HG2.out (b := b) rfl
   have h3 := HSZ.out.2
   have h4 : b = Ml := e
   omega
 clear c0 c1 c2 hw1 hMl hmm
 go_loopw [15] (fun j wr => ∃ (k : Nat), k ≤ m ∧ j = .int .i64 (k : Int) ∧ Hid (LdJ w2 wr Ml k ((zwL x).take k))) (fun j _ => m - (intZ j).toNat)
 case atStart => exact ⟨0, by omega, rfl, HI0⟩
 case round =>
  clear HI0
  obtain ⟨k, hkn, rfl, HI⟩ := hrel
  by_cases hlt : k < m
  ·as_aux_lemma =>
   obtain ⟨b1, off, y, rfl, hy1, hy3, hr⟩ := (HGK.out wr HI.out.c).wx k hlt
   have HLY := Lib.hid (wx_load hr)
   have HYG : Hid ((zwL x)[k]? = some y.1) := Lib.hid (by rw [← HO2.out]; exact wxL_get hy1)
   have HYI := Lib.hid (HIN.out y.1 (List.mem_of_getElem? HYG.out))
   have HT : Hid ((zwL x).take (k + 1) = (zwL x).take k ++ [y.1]) := Lib.hid (by
    obtain ⟨h2, h3⟩ := List.getElem?_eq_some_iff.1 HYG.out
    rw [List.take_succ_eq_append_getElem h2, h3])
   have hki : (k : Int) < (m : Int) := by omega
   have hk0 : (0 : Int) ≤ (k : Int) := by omega
   have HKN : Hid (k ≤ 4194304) := Lib.hid (by omega)
   clear hr hy1 hy3
   go_upto_region 7 with (first
    | (refine wpList_ld rfl 39 _ rfl _ rfl _ HLY.out ?_)
    | (refine wpList_store_row rfl 39 _ _ rfl wr.heap.size (mixC y.1.a y.1.dg y.1.t) rfl rfl 39 _ (heap_alloc_new _ _) (y.1.sizeOf y.2) (Wq.sizes wq0 y.1 rfl y.2) y.1.one ?_; generalize hw5 : World.setRow _ _ _ = w5))
   obtain ⟨hm5, hb5⟩ := wd_lay rfl hw5
   obtain ⟨g5, hg5⟩ : ∃ g, wr.heap.size = g := ⟨_, rfl⟩
   rw [hg5] at hm5
   rw [hg5]
   have HI5 := Lib.hid (HI.out.later HMS.out hb5)
   have l0 : w5.cell? ⟨g5, 36, none⟩ = some (.int .i64 y.1.seg) := Mx.last hm5 y.2 2 _ rfl
   have l2 : w5.cell? ⟨g5, 38, none⟩ = some (.int .i64 y.1.len) := Mx.last hm5 y.2 4 _ rfl
   have HPU := Lib.hid fun V hV hg => HI5.out.put (V := V) (y := y.1) hV hg
   rw [← HT.out] at HPU
   obtain ⟨f, hf⟩ : ∃ f, accJ ((zwL x).take k) = f := ⟨_, rfl⟩
   have HJ : Hid (Mj w5 Ml k f) := Lib.hid (by rw [← hf]; exact HI5.out.m)
   rw [hf] at HPU
   obtain ⟨sg, hsg⟩ : ∃ z, y.1.seg = z := ⟨_, rfl⟩
   obtain ⟨ln, hln⟩ : ∃ z, y.1.len = z := ⟨_, rfl⟩
   have HSG : Hid (Rgi sg) := Lib.hid (by rw [← hsg]; exact HYI.out.1)
   rw [hsg, hln] at HPU
   rw [hsg] at l0
   rw [hln] at l2
   obtain ⟨SU, hSU⟩ : ∃ z, IntKind.i64.wrap ((f sg).getD 0 + ln) = z := ⟨_, rfl⟩
   have HSR : Hid (Rgi SU) := Lib.hid (by rw [← hSU]; exact rgi_wrap _)
   rw [hSU] at HPU
   obtain ⟨A0, hA0⟩ : ∃ z, (f sg).getD 0 = z := ⟨_, rfl⟩
   have HA0 := Lib.hid hA0
   rw [hA0] at hSU
   clear hm5 hb5 hw5 hg5 hf hsg hln hA0
   go_wp2_with (first
    | (at_lookup; refine wpList_lookJ0 rfl _ _ rfl Ml k f sg rfl HJ.out rfl HSG.out ?_; rw [HA0.out])
    | (at_mapUpdate; refine wpList_putJ rfl _ _ _ rfl Ml k f sg SU rfl HJ.out HKN.out rfl (by first | rfl | (simp [hSU])) HSG.out HSR.out ?_; intro w8 hm8 hg8; have HI8 := Lib.hid (HPU.out w8 hm8 hg8); clear hm8 hg8))
   exact ⟨⟨k + 1, by omega, by go_num, HI8⟩, by simp [intZ] <;> omega⟩
  ·as_aux_lemma =>
   obtain rfl : k = m := by omega
   have HTK : Hid ((zwL x).take k = zwL x) := Lib.hid (List.take_of_length_le (by rw [← HO2.out, wxL_length, HM.out]; exact Nat.le_refl _))
   rw [HTK.out] at HI
   have HSR : Hid (Sz0 Ix Tx wr B M n vi vt SI FI ST FT x) := Lib.hid (HSL.out wr (fun b hb => (HI.out.c.block b (by have := HB2.out.size; have := HB1.out.size; omega) (fun e => by have := HSZ.out; have h1 : b = Ml := e; omega)).trans (HB2.out.block b (by have := HB1.out.size; omega))) (Nat.le_trans HB2.out.size HI.out.c.size))
   have HKY := Lib.hid (keysJ_any (some M) wr)
   have HSO := Lib.hid (sortedJ_any HSR.out.m HRL.out HLL.out)
   have HMJ := Lib.hid HI.out.m
   have HBW : Hid (Below w.heap.size w wr) := Lib.hid (HB1.out.trans ((HB2.out.mono HB1.out.size).trans (HI.out.c.below (B := w.heap.size) (fun b hb => by have := HSZ.out; have h1 : b = Ml := hb; omega) (Nat.le_trans HB1.out.size HB2.out.size))))
   have HMR : Hid (Ml < wr.heap.size) := Lib.hid (Nat.lt_of_lt_of_le HMS.out HI.out.c.size)
   obtain ⟨z0, z1, z2⟩ := HSR.out.h.cells
   clear hlt HI
   go_wp2_with (first
    | (go_at_call 63; refine HKY.out.mono ?_; rintro ex w3 ⟨rfl, rfl⟩)
    | (go_at_call 62; refine HSO.out.mono ?_; rintro ex w4 ⟨v4, rfl, hg4, hb4⟩; obtain ⟨p4, c4, hv4, _⟩ := hg4.open; obtain ⟨m4, hm4⟩ : ∃ z, List.length (x.L.map (·.1)) = z := ⟨_, rfl⟩; rw [hm4] at hv4; subst hv4; have HG4 := Lib.hid hg4; have HB4 := Lib.hid hb4; have HM4 := Lib.hid hm4; clear hg4 hb4 hm4))
   have HLS : Hid (x.L.length = m4) := Lib.hid (by rw [← HM4.out, List.length_map])
   have hm4 : m4 ≤ 1048576 := by have h1 := HLS.out; have h2 := HLL.out; omega
   have HLP : Hid ((loadsP x).length = m4) := Lib.hid (by rw [loadsP_is, List.length_map]; exact HLS.out)
   have HSS : Hid (∀ (sg : Int), Rgi sg → ∀ W, Below w4.heap.size w4 W → (W.cell? ⟨B, 2, none⟩ = some (.map (some M)) ∧ (Instr.lookup TJ (.map (some M)) (.int .i64 sg) false).run Tryz.prog W = .ok (.int .i64 ((getL x.L sg).getD 0)) W ∧ (Instr.lookup TJ (.map (some Ml)) (.int .i64 sg) false).run Tryz.prog W = .ok (.int .i64 ((accJ (zwL x) sg).getD 0)) W)) := Lib.hid fun sg hsg W hW => by
    have h1 := below_step HB4.out hW
    exact ⟨(HSR.out.h.same (h1.block B HSR.out.h.lt)).cells.2.2, lookJ_run (HSR.out.m.later h1) sg hsg, lookJ_run (HMJ.out.later h1) sg hsg⟩
   have HJ0 : Hid (LqJ w4 w4 ((loadsP x).take 0) (.slice none 0 0)) := Lib.hid ⟨Gw.nil _ _ _, Below.refl _ _⟩
   clear z0 z1 z2 HKY HSO
   go_loopw [6, 36] (fun v j wr => ∃ (i : Nat) (t : Option Addr) (a c' : Nat), i ≤ m4 ∧ j = .int .i64 (i : Int) ∧ v = .slice t a c' ∧ Hid (LqJ w4 wr ((loadsP x).take i) (.slice t a c'))) (fun _ j _ => m4 - (intZ j).toNat)
   case atStart => exact ⟨0, none, 0, 0, by omega, rfl, rfl, HJ0⟩
   case round =>
    clear HJ0
    obtain ⟨i, t, a, c', him, rfl, rfl, HJ⟩ := hrel
    by_cases hlt : i < m4
    ·as_aux_lemma =>
     obtain ⟨b1, off, rfl, hc⟩ := (HG4.out.gs.later HJ.out.le).ptr i hlt
     obtain ⟨y, hy⟩ : ∃ y, x.L[i]? = some y := ⟨_, List.getElem?_eq_getElem (by rw [HLS.out]; exact hlt)⟩
     have hym := List.mem_of_getElem? hy
     have hkd : (x.L.map (·.1)).getD i encI.d = y.1 := by rw [List.getD_eq_getElem?_getD, List.getElem?_map, hy]; rfl
     rw [hkd] at hc
     have l0 : wr.cell? ⟨b1, off + i, none⟩ = some (.int .i64 y.1) := by have := hc 0 _ rfl; simpa [show encI.k = 1 from rfl] using this
     have HGL : Hid (getL x.L y.1 = some y.2) := Lib.hid (getL_is HRL.out hym)
     have HT : Hid ((loadsP x).take (i + 1) = (loadsP x).take i ++ [(y.1, y.2, (accJ (zwL x) y.1).getD 0)]) := Lib.hid (by
      have h2 : i < (loadsP x).length := by rw [HLP.out]; exact hlt
      rw [List.take_succ_eq_append_getElem h2]
      congr 2
      have h3 : (loadsP x)[i]? = some (y.1, y.2, (accJ (zwL x) y.1).getD 0) := by rw [loadsP_is, List.getElem?_map, hy]; rfl
      exact (List.getElem?_eq_some_iff.1 h3).2)
     have HOL : Hid (((loadsP x).take i).length + 1 ≤ 2097216) := Lib.hid (by rw [List.length_take]; omega)
     have HSY := Lib.hid (HSS.out y.1 (HXI.out.l y hym).1)
     rw [HGL.out, Option.getD_some] at HSY
     obtain ⟨LV, hLV⟩ : ∃ z, (accJ (zwL x) y.1).getD 0 = z := ⟨_, rfl⟩
     rw [hLV] at HSY HT
     obtain ⟨y1, y2⟩ := y
     dsimp only at *
     have hki : (i : Int) < (m4 : Int) := by omega
     have hk0 : (0 : Int) ≤ (i : Int) := by omega
     have HG7 : Hid (Gw encLo (wr.alloc (.cells #[.int .i64 y1, .int .i64 y2, .int .i64 LV] 97)).drew w4.heap.size (.slice t a c') ((loadsP x).take i)) := Lib.hid (HJ.out.gw.later (((Below.refl _ _).alloc (Nat.le_refl _) _).drew))
     have HB7 : Hid (Below w4.heap.size w4 (wr.alloc (.cells #[.int .i64 y1, .int .i64 y2, .int .i64 LV] 97)).drew) := Lib.hid ((HJ.out.le.alloc HJ.out.le.size _).drew)
     have HN7 : Hid (Gs encLo (wr.alloc (.cells #[.int .i64 y1, .int .i64 y2, .int .i64 LV] 97)).drew (some ⟨wr.heap.size, 0, none⟩) 1 [(y1, y2, LV)]) := Lib.hid ((Gs.one encLo wr (y1, y2, LV) _ rfl 97 (0, 0)).later (Below.refl _ _).drew)
     clear hc hy hym hkd hLV
     go_upto_region 13 with fail
     refine wp_region_held_drew (S := (fun W : World => W.cell? ⟨B, 2, none⟩ = some (.map (some M)) ∧ (Instr.lookup TJ (.map (some M)) (.int .i64 y1) false).run Tryz.prog W = .ok (.int .i64 y2) W ∧ (Instr.lookup TJ (.map (some Ml)) (.int .i64 y1) false).run Tryz.prog W = .ok (.int .i64 LV) W)) (by kernel_rfl) (HSY.out _ HJ.out.le.drew) (fun hHeld => ?_)
     refine tk 0 rfl ?_;(try simp only [PT]);refine tk 1 rfl ?_;(try simp only [PT]);refine tk 2 rfl ?_;(try simp only [PT]);refine tk 3 rfl ?_;(try simp only [PT]);refine tk 4 rfl ?_;(try simp only [PT]);refine tk 5 rfl ?_;(try simp only [PT]);refine tk 6 rfl ?_;(try simp only [PT]);refine tk 7 rfl ?_;(try simp only [PT]);refine tk 8 rfl ?_;(try simp only [PT]);refine tk 9 rfl ?_;(try simp only [PT]);refine tk 10 rfl ?_;(try simp only [PT]);refine tk 11 rfl ?_;(try simp only [PT])
     refine ready_at 12 rfl (by kernel_rfl) (fun K hK => ?_)
     go_simp
     first
      | refine hK.out _ _ ?hS13 (fun hHeld => ?rest13)
      | (go_wp2_with fail; refine hK.out _ _ ?hS13 (fun hHeld => ?rest13))
     case hS13 => exact HSY.out _ HB7.out
     clear hK K
     (try simp only [PT])
     refine ready_at 13 rfl (by kernel_rfl) (fun K hK => ?_)
     rw [if_pos (by rfl)]
     refine wp_append_gen encLo (.tmp 40) (.tmp 52) 25 rfl Tryz.underlying25 lozero 24 infoLo lozero_size (by decide) w4.heap.size _ _ rfl HG7.out _ 1 1 [(y1, y2, LV)] rfl HN7.out (fun h => by cases h) HOL.out HB7.out.size ?_
     intro v8 w8 ho8 hg8
     have HJ8 : Hid (LqJ w4 w8 ((loadsP x).take i ++ [(y1, y2, LV)]) v8) := Lib.hid ⟨ho8, below_new_gw HB7.out HG7.out hg8 HB7.out.size⟩
     obtain ⟨p8, c8, hv8, _⟩ := ho8.open
     obtain ⟨m8, hm8⟩ : ∃ z, List.length ((loadsP x).take i ++ [(y1, y2, LV)]) = z := ⟨_, rfl⟩
     rw [hm8] at hv8
     subst hv8
     clear ho8 hg8 hm8
     refine hK.out _ _ ?hS14 (fun hHeld => ?rest14)
     case hS14 => exact HSY.out _ HJ8.out.le
     clear hK K
     (try simp only [PT])
     refine tk 14 rfl ?_;(try simp only [PT])
     refine wpAnyH_done (by kernel_rfl) ?_ _
     go_wp2
     exact ⟨⟨i + 1, _, _, _, by omega, by go_num, rfl, by rw [HT.out]; exact HJ8⟩, by simp [intZ] <;> omega⟩
    ·have hi2 : i = m4 := by omega
     have HTK2 : Hid ((loadsP x).take i = loadsP x) := Lib.hid (List.take_of_length_le (by rw [HLP.out, hi2]; exact Nat.le_refl _))
     rw [HTK2.out] at HJ
     clear hlt
     go_wp2
     go_ret
     obtain ⟨p5, c5, hv5, h1, h2, h3, h4⟩ := HJ.out.gw.open
     simp only [Value.slice.injEq] at hv5
     obtain ⟨rfl, hl5, rfl⟩ := hv5
     have hle := (HBW.out.trans (HB4.out.mono HBW.out.size)).trans (HJ.out.le.mono (Nat.le_trans HBW.out.size HB4.out.size))
     refine ⟨t, a, c', rfl, HJ.out.gw.gs, fun hn b off hp => Or.inr ?_, ⟨h4, by omega, h2⟩, hle⟩
     subst hp
     have h5 := Gw.own_lt HJ.out.gw (b := b) rfl
     exact Nat.le_trans (Nat.le_trans HBW.out.size HB4.out.size) h5.1
variable {Ix : World → (Nat → Prop) → (Nat → Prop) → Value → List Pe → Prop} {Tx : World → (Nat → Prop) → (Nat → Prop) → Value → List Pt → Prop}
/-- 'm[s] = i', at one operation -/
theorem wp_putJ {w : World} {o : Oper} {a : Act} {K : Act → World → Prop} {Q : Exit → Act → World → Prop} (m x v : Operand) (hop : o.op = Op.mapUpdate TJ m x v) (b n : Nat) (f : Int → Option Int) (s : Int) (i : Int) (hm : a.eval m = .map (some b)) (h : Mj w b n f) (hn : n ≤ 4194304) (hx : a.eval x = .int .i64 s) (hv : a.eval v = .int .i64 i) (hs : Rgi s) (hi : Rgi i)
 (hK : ∀ w', Mj w' b (n + 1) (fun t => if t = s then some i else f t) → w.grownBy w' (some b) → K (a.put o.dst undef) w') : o.wp Tryz.prog a w K Q := by
 obtain ⟨h0, D, hown, hd⟩ := h
 obtain ⟨w', hrun, ho, hgr⟩ := hown.update lawJ undJ (by unfold maxLen; omega) (keyJ_of hs) (plainElem_int undJi (wfJ hi))
 unfold Oper.wp
 simp [execOp, hop, hm, hx, hv, hrun, Result.andThen]
 refine hK w' ⟨fun t j hj => ?_, _, ho, fun t ht => ?_⟩ hgr
 ·dsimp only at hj
  split at hj
  ·rename_i e
   simp only [Option.some.injEq] at hj
   subst e hj
   exact ⟨hs, hi⟩
  ·exact h0 t j hj
 ·dsimp only
  by_cases e : t = s
  ·subst e
   rw [if_pos rfl]
   refine ⟨has_put_same hown.isMap (keyJ_is hs) _, fun j hj z => ?_⟩
   simp only [Option.some.injEq] at hj
   subst hj
   exact atKey_put_same hown.isMap (keyJ_is hs) _ z
  ·rw [if_neg e, has_put_other (keyJ_ne e)]
   exact ⟨(hd t ht).1, fun j hj z => by rw [atKey_put_other (keyJ_ne e)]; exact (hd t ht).2 j hj z⟩
theorem getL_add {l : List (Int × Int)} (hr : rowL l) {sg ln : Int} (hl : Rgi ln) : (fun t => if t = sg then some (IntKind.i64.wrap ((getL l sg).getD 0 + ln)) else getL l t) = getL (loadP l sg ln false) := by
 funext t
 rw [getL_loadP hr]
 by_cases e : t = sg
 ·rw [if_pos e, if_pos e]
  cases getL l sg with
  | none =>
    simp only [Option.getD_none, Int.zero_add]
    congr 1
    rw [IntKind.wrap_i64]
    obtain ⟨h1, h2⟩ := hl
    omega
  | some v => rfl
 ·rw [if_neg e, if_neg e]
theorem getL_put {l : List (Int × Int)} (hr : rowL l) (sg n : Int) : (fun t => if t = sg then some n else getL l t) = getL (loadP l sg n true) := by
 funext t
 rw [getL_loadP hr]
 by_cases e : t = sg
 ·rw [if_pos e, if_pos e]
  cases getL l sg <;> rfl
 ·rw [if_neg e, if_neg e]
/-- a state's parts while it is turned: the map is as in w0 -/
structure SzP (Ix : World → (Nat → Prop) → (Nat → Prop) → Value → List Pe → Prop) (Tx : World → (Nat → Prop) → (Nat → Prop) → Value → List Pt → Prop) (w W : World) (B M n : Nat) (vi vt : Value) (SI FI ST FT SI' FI' ST' FT' : Nat → Prop) (D : List Pe) (T : List Pt) (f : Int → Option Int) : Prop where
 h : Hst W B vi vt M
 i : Ix W SI' FI' vi D
 t : Tx W ST' FT' vt T
 m : Mj W M n f
 nb : ∀ b, SI' b ∨ FI' b ∨ ST' b ∨ FT' b → b ≠ B ∧ b ≠ M
 si : ∀ b, SI' b → ¬ ST' b ∧ ¬ FT' b
 st : ∀ b, ST' b → ¬ FI' b
 si2 : ∀ b, SI' b → SI b ∨ w.heap.size ≤ b
 fi2 : ∀ b, FI' b → FI b ∨ w.heap.size ≤ b
 st2 : ∀ b, ST' b → ST b ∨ w.heap.size ≤ b
 ft2 : ∀ b, FT' b → FT b ∨ w.heap.size ≤ b
 c : Chg (fun b => b = B ∨ b = M ∨ SI b ∨ ST b) w W
theorem SzP.lt (hI : IdxOk Ix) (hT : TagOk Tx) {w W : World} {B M n : Nat} {vi vt : Value} {SI FI ST FT SI' FI' ST' FT' : Nat → Prop} {D : List Pe} {T : List Pt} {f : Int → Option Int} (h : SzP Ix Tx w W B M n vi vt SI FI ST FT SI' FI' ST' FT' D T f) (b : Nat) (hb : b = B ∨ b = M ∨ SI' b ∨ FI' b ∨ ST' b ∨ FT' b) : b < W.heap.size := by
 rcases hb with rfl | rfl | hb | hb | hb | hb
 ·exact h.h.lt
 ·exact h.m.lt
 ·exact hI.lt h.i b (Or.inl hb)
 ·exact hI.lt h.i b (Or.inr hb)
 ·exact hT.lt h.t b (Or.inl hb)
 ·exact hT.lt h.t b (Or.inr hb)
theorem SzP.later (hI : IdxOk Ix) (hT : TagOk Tx) {w W V : World} {B M n : Nat} {vi vt : Value} {SI FI ST FT SI' FI' ST' FT' : Nat → Prop} {D : List Pe} {T : List Pt} {f : Int → Option Int} (h : SzP Ix Tx w W B M n vi vt SI FI ST FT SI' FI' ST' FT' D T f) (hb : Below W.heap.size W V) : SzP Ix Tx w V B M n vi vt SI FI ST FT SI' FI' ST' FT' D T f :=
 ⟨h.h.same (hb.block B h.h.lt), hI.later h.i hb, hT.later h.t hb, h.m.later hb, h.nb, h.si, h.st, h.si2, h.fi2, h.st2, h.ft2, h.c.tr (S' := fun b => b = B ∨ b = M ∨ SI b ∨ ST b) (Chg.of_below hb) fun b hb => Or.inl hb⟩
theorem Sz0.szp {w : World} {B M n : Nat} {vi vt : Value} {SI FI ST FT : Nat → Prop} {x : Ps} (h : Sz0 Ix Tx w B M n vi vt SI FI ST FT x) : SzP Ix Tx w w B M n vi vt SI FI ST FT SI FI ST FT x.D x.T (getL x.L) :=
 ⟨h.h, h.i, h.t, h.m, h.nb, h.si, h.st, fun b hb => Or.inl hb, fun b hb => Or.inl hb, fun b hb => Or.inl hb, fun b hb => Or.inl hb, Chg.refl _ _⟩
/-- the index is turned -/
theorem SzP.opI (hI : IdxOk Ix) (hT : TagOk Tx) {w W V : World} {B M n : Nat} {vi vt : Value} {SI FI ST FT SI' FI' ST' FT' SJ FJ : Nat → Prop} {D D' : List Pe} {T : List Pt} {f : Int → Option Int} (h : SzP Ix Tx w W B M n vi vt SI FI ST FT SI' FI' ST' FT' D T f) (hs : w.heap.size ≤ W.heap.size)
 (hi : Ix V SJ FJ vi D') (hc : Chg SI' W V) (h1 : ∀ b, SJ b → SI' b ∨ W.heap.size ≤ b) (h2 : ∀ b, FJ b → FI' b ∨ W.heap.size ≤ b) : SzP Ix Tx w V B M n vi vt SI FI ST FT SJ FJ ST' FT' D' T f := by
 have hk : ∀ b, b < W.heap.size → ¬ SI' b → V.heap[b]? = W.heap[b]? := fun b hb hn => hc.block b hb hn
 have hB := h.lt hI hT B (Or.inl rfl)
 have hM := h.lt hI hT M (Or.inr (Or.inl rfl))
 have hold : ∀ b, SJ b ∨ FJ b → (SI' b ∨ FI' b) ∨ W.heap.size ≤ b := fun b hb => hb.elim (fun e => (h1 b e).imp Or.inl id) (fun e => (h2 b e).imp Or.inr id)
 refine ⟨h.h.same (hk B hB fun e => (h.nb B (Or.inl e)).1 rfl), hi, hT.keep h.t (fun b hb => hk b (hT.lt h.t b hb) fun e => hb.elim (h.si b e).1 (h.si b e).2) hc.size, h.m.same (hk M hM fun e => (h.nb M (Or.inl e)).2 rfl), fun b hb => ?_, fun b hb => ?_, fun b hb hf => ?_, fun b hb => ?_, fun b hb => ?_, h.st2, h.ft2, ?_⟩
 ·rcases hb with hb | hb | hb
  ·rcases h1 b hb with e | e
   ·exact h.nb b (Or.inl e)
   ·exact ⟨by omega, by omega⟩
  ·rcases h2 b hb with e | e
   ·exact h.nb b (Or.inr (Or.inl e))
   ·exact ⟨by omega, by omega⟩
  ·exact h.nb b (Or.inr (Or.inr hb))
 ·rcases h1 b hb with e | e
  ·exact h.si b e
  ·exact ⟨fun e2 => absurd (hT.lt h.t b (Or.inl e2)) (Nat.not_lt.2 e), fun e2 => absurd (hT.lt h.t b (Or.inr e2)) (Nat.not_lt.2 e)⟩
 ·rcases h2 b hf with e | e
  ·exact h.st b hb e
  ·exact absurd (hT.lt h.t b (Or.inl hb)) (Nat.not_lt.2 e)
 ·rcases h1 b hb with e | e
  ·exact h.si2 b e
  ·exact Or.inr (Nat.le_trans hs e)
 ·rcases h2 b hb with e | e
  ·exact h.fi2 b e
  ·exact Or.inr (Nat.le_trans hs e)
 ·exact h.c.tr (S' := SI') hc fun b hb => (h.si2 b hb).imp (fun e => Or.inr (Or.inr (Or.inl e))) id
/-- the names are turned -/
theorem SzP.opT (hI : IdxOk Ix) (hT : TagOk Tx) {w W V : World} {B M n : Nat} {vi vt : Value} {SI FI ST FT SI' FI' ST' FT' SJ FJ : Nat → Prop} {D : List Pe} {T T' : List Pt} {f : Int → Option Int} (h : SzP Ix Tx w W B M n vi vt SI FI ST FT SI' FI' ST' FT' D T f) (hs : w.heap.size ≤ W.heap.size)
 (hi : Tx V SJ FJ vt T') (hc : Chg ST' W V) (h1 : ∀ b, SJ b → ST' b ∨ W.heap.size ≤ b) (h2 : ∀ b, FJ b → FT' b ∨ W.heap.size ≤ b) : SzP Ix Tx w V B M n vi vt SI FI ST FT SI' FI' SJ FJ D T' f := by
 have hk : ∀ b, b < W.heap.size → ¬ ST' b → V.heap[b]? = W.heap[b]? := fun b hb hn => hc.block b hb hn
 have hB := h.lt hI hT B (Or.inl rfl)
 have hM := h.lt hI hT M (Or.inr (Or.inl rfl))
 refine ⟨h.h.same (hk B hB fun e => (h.nb B (Or.inr (Or.inr (Or.inl e)))).1 rfl), hI.keep h.i (fun b hb => hk b (hI.lt h.i b hb) fun e => hb.elim (fun e2 => (h.si b e2).1 e) (h.st b e)) hc.size, hi, h.m.same (hk M hM fun e => (h.nb M (Or.inr (Or.inr (Or.inl e)))).2 rfl), fun b hb => ?_, fun b hb => ⟨fun e2 => ?_, fun e2 => ?_⟩, fun b hb hf => ?_, h.si2, h.fi2, fun b hb => ?_, fun b hb => ?_, ?_⟩
 ·rcases hb with hb | hb | hb | hb
  ·exact h.nb b (Or.inl hb)
  ·exact h.nb b (Or.inr (Or.inl hb))
  ·rcases h1 b hb with e | e
   ·exact h.nb b (Or.inr (Or.inr (Or.inl e)))
   ·exact ⟨by omega, by omega⟩
  ·rcases h2 b hb with e | e
   ·exact h.nb b (Or.inr (Or.inr (Or.inr e)))
   ·exact ⟨by omega, by omega⟩
 ·rcases h1 b e2 with e | e
  ·exact (h.si b hb).1 e
  ·exact absurd (hI.lt h.i b (Or.inl hb)) (Nat.not_lt.2 e)
 ·rcases h2 b e2 with e | e
  ·exact (h.si b hb).2 e
  ·exact absurd (hI.lt h.i b (Or.inl hb)) (Nat.not_lt.2 e)
 ·rcases h1 b hb with e | e
  ·exact h.st b e hf
  ·exact absurd (hI.lt h.i b (Or.inr hf)) (Nat.not_lt.2 e)
 ·rcases h1 b hb with e | e
  ·exact h.st2 b e
  ·exact Or.inr (Nat.le_trans hs e)
 ·rcases h2 b hb with e | e
  ·exact h.ft2 b e
  ·exact Or.inr (Nat.le_trans hs e)
 ·exact h.c.tr (S' := ST') hc fun b hb => (h.st2 b hb).imp (fun e => Or.inr (Or.inr (Or.inr e))) id
/-- the map is turned -/
theorem SzP.opM (hI : IdxOk Ix) (hT : TagOk Tx) {w W V : World} {B M n k : Nat} {vi vt : Value} {SI FI ST FT SI' FI' ST' FT' : Nat → Prop} {D : List Pe} {T : List Pt} {f g : Int → Option Int} (h : SzP Ix Tx w W B M n vi vt SI FI ST FT SI' FI' ST' FT' D T f) (hm : Mj V M k g) (hg : W.grownBy V (some M)) : SzP Ix Tx w V B M k vi vt SI FI ST FT SI' FI' ST' FT' D T g := by
 have hk : ∀ b, b < W.heap.size → b ≠ M → V.heap[b]? = W.heap[b]? := fun b hb hn => hg.block b hb (fun e => hn (by injection e with e))
 refine ⟨h.h.same (hk B h.h.lt fun e => ?_), hI.keep h.i (fun b hb => hk b (hI.lt h.i b hb) fun e => ?_) hg.size, hT.keep h.t (fun b hb => hk b (hT.lt h.t b hb) fun e => ?_) hg.size, hm, h.nb, h.si, h.st, h.si2, h.fi2, h.st2, h.ft2, h.c.tr (S' := fun b => b = M) ⟨hg.os, hg.tape, hg.output, hg.size, fun b hb hn => hk b hb hn⟩ fun b hb => Or.inl (Or.inr (Or.inl hb))⟩
 ·subst e; exact h.m.noCells h.h
 ·exact (h.nb b (hb.elim Or.inl (fun e => Or.inr (Or.inl e)))).2 e
 ·exact (h.nb b (hb.elim (fun e => Or.inr (Or.inr (Or.inl e))) (fun e => Or.inr (Or.inr (Or.inr e))))).2 e
/-- the whole -/
theorem SzP.done {w W : World} {B M n : Nat} {vi vt : Value} {SI FI ST FT SI' FI' ST' FT' S F : Nat → Prop} {x' : Ps} (h : SzP Ix Tx w W B M n vi vt SI FI ST FT SI' FI' ST' FT' x'.D x'.T (getL x'.L)) (hr : rowL x'.L) (hi : x'.In) (hS : ∀ b, S b ↔ b = B ∨ b = M ∨ SI b ∨ ST b) (hF : ∀ b, F b ↔ FI b ∨ FT b) : OpSQ (Sx0 Ix Tx) w S F (.pointer (some ⟨B, 0, none⟩)) x' (.returned (.tuple #[])) W := by
 refine ⟨fun b => b = B ∨ b = M ∨ SI' b ∨ ST' b, fun b => FI' b ∨ FT' b, rfl, ⟨B, M, n, vi, vt, SI', FI', ST', FT', rfl, ⟨h.h, h.i, h.t, h.m, h.nb, h.si, h.st, hr, hi⟩, fun _ => Iff.rfl, fun _ => Iff.rfl⟩, ⟨h.c.os, h.c.tape, h.c.output, h.c.size, fun b hb hn => h.c.block b hb fun e => hn ((hS b).2 e)⟩, fun b hb => ?_, fun b hb => ?_⟩
 ·rcases hb with hb | hb | hb | hb
  ·exact Or.inl ((hS b).2 (Or.inl hb))
  ·exact Or.inl ((hS b).2 (Or.inr (Or.inl hb)))
  ·exact (h.si2 b hb).imp (fun e => (hS b).2 (Or.inr (Or.inr (Or.inl e)))) id
  ·exact (h.st2 b hb).imp (fun e => (hS b).2 (Or.inr (Or.inr (Or.inr e)))) id
 ·rcases hb with hb | hb
  ·exact (h.fi2 b hb).imp (fun e => (hF b).2 (Or.inl e)) id
  ·exact (h.ft2 b hb).imp (fun e => (hF b).2 (Or.inr e)) id
set_option maxRecDepth 100000 in
set_option maxHeartbeats 4000000 in
theorem zapply_any (hI : IdxOk Ix) (hT : TagOk Tx) {w : World} {B M n : Nat} {vi vt : Value} {SI FI ST FT S F : Nat → Prop} {x : Ps} (y : Wq) (h : Sz0 Ix Tx w B M n vi vt SI FI ST FT x) (hS : ∀ b, S b ↔ b = B ∨ b = M ∨ SI b ∨ ST b) (hF : ∀ b, F b ↔ FI b ∨ FT b) (hd : dok y.dg) (hy : y.In) (hf : x.Few) :
 Calls Tryz.prog 10 #[.pointer (some ⟨B, 0, none⟩), y.v] w fun e w' => OpSQ (Sx0 Ix Tx) w S F (.pointer (some ⟨B, 0, none⟩)) (applyS x y) e w' := by
 obtain ⟨w1, hw1⟩ : ∃ W, w.alloc (.cells (mixC y.a y.dg y.t) 39) = W := ⟨_, rfl⟩
 obtain ⟨g0, hg0⟩ : ∃ z, w.heap.size = z := ⟨_, rfl⟩
 have hb1 : Below w.heap.size w w1 := by rw [← hw1]; exact (Below.refl _ _).alloc (Nat.le_refl _) _
 have HB1 := Lib.hid hb1
 have HX : Hid (Wm w1 g0 y) := Lib.hid (by rw [← hw1, ← hg0]; exact heap_alloc_new _ _)
 have HG0 : Hid (w.heap.size = g0) := Lib.hid hg0
 have HP1 := Lib.hid (h.szp.later hI hT hb1)
 have HLTS := Lib.hid fun b hb => h.lt hI hT b hb
 have HI := Lib.hid hI
 have HTO := Lib.hid hT
 have HSF := Lib.hid (And.intro hS hF)
 have HRL := Lib.hid h.r
 have HIN := Lib.hid (applyS_in h.inn hy)
 have HYN := Lib.hid hy
 have HFW := Lib.hid hf
 have HYD := Lib.hid hd
 have HLD : Hid (∀ W, Wm W g0 y → (Instr.loadAt 39 (.pointer (some ⟨g0, 0, none⟩))).run Tryz.prog W = .ok (.agg (mixC y.a y.dg y.t)) W) := Lib.hid fun W hW => hW.load hd.1
 have HAI := Lib.hid fun (W : World) (SI' FI' : Nat → Prop) (hW : Ix W SI' FI' vi x.D) => hI.apply y hW hd (by have := hf.n; omega) hf.i
 have HAT := Lib.hid fun (W : World) (ST' FT' : Nat → Prop) (hW : Tx W ST' FT' vt x.T) => hT.apply y hW hd (by have := hf.n; omega) hf.j
 have HAL : Hid (applyL x.L y = if 1 ≤ y.k ∧ y.k ≤ 5 then loadP x.L y.seg y.len false else x.L) := Lib.hid rfl
 have HM1 : Hid (Mj w1 M x.L.length (getL x.L)) := Lib.hid ((h.m.exact h.r).later hb1)
 have HSS : Hid (∀ W, Hst W B vi vt M → Wm W g0 y → (W.cell? ⟨B, 0, none⟩ = some vi ∧ W.cell? ⟨B, 1, none⟩ = some vt ∧ Wm W g0 y)) := Lib.hid fun W hW hX => ⟨hW.cells.1, hW.cells.2.1, hX⟩
 unfold Wq.v at HAI HAT ⊢
 obtain ⟨MY, hMY⟩ : ∃ z, mixC y.a y.dg y.t = z := ⟨_, rfl⟩
 rw [hMY] at hw1 HLD HAI HAT ⊢
 clear h hI hT hS hF hd hy hf hb1 hMY
 go_enter Tryz.func10, Tryz.ntmps10
 go_upto_region 2 with fail
 refine wp_region_held_drew (S := (fun W : World => W.cell? ⟨B, 0, none⟩ = some vi ∧ W.cell? ⟨B, 1, none⟩ = some vt ∧ Wm W g0 y)) (by kernel_rfl) (HSS.out _ HP1.out.h HX.out) (fun hHeld => ?_)
 refine tk 0 rfl ?_;(try simp only [PT]);refine tk 1 rfl ?_;(try simp only [PT]);refine tk 2 rfl ?_;(try simp only [PT]);refine tk 3 rfl ?_;(try simp only [PT])
 refine tkL 4 rfl (yieldsIf_ld (by rfl) 39 (.tmp 3) rfl (.pointer (some ⟨g0, 0, none⟩)) rfl (.agg MY) (fun W hW => HLD.out W hW.2.2)) ?_
 (try simp only [PT])
 refine ready_at 5 rfl (by kernel_rfl) (fun K hK => ?_)
 go_simp
 refine (HAI.out _ _ _ (HP1.out.later HI.out HTO.out (Below.refl _ _).drew).i).mono ?_
 rintro ex w2 ⟨Sw2, Fw2, rfl, hxw2, hcw2, hsw2, hfw2⟩
 have HP_w2 := Lib.hid ((HP1.out.later HI.out HTO.out (Below.refl _ _).drew).opI HI.out HTO.out (show w.heap.size ≤ w1.drew.heap.size from HB1.out.size) hxw2 hcw2 hsw2 hfw2)
 have HX_w2 : Hid (Wm w2 g0 y) := Lib.hid ((hcw2.block g0 (Mx.lt HX.out) (fun e => by have h1 := HLTS.out g0 (Or.inr (Or.inr (Or.inl e))); have h2 := HG0.out; omega)).trans HX.out)
 have HSZ2 : Hid (w.heap.size ≤ w2.heap.size) := Lib.hid (Nat.le_trans HB1.out.size hcw2.size)
 clear hxw2 hcw2 hsw2 hfw2 hHeld
 (try dsimp only)
 first
  | refine hK.out _ _ ?hS6 (fun hHeld => ?rest6)
  | (go_wp2_with fail; refine hK.out _ _ ?hS6 (fun hHeld => ?rest6))
 case hS6 => exact HSS.out _ HP_w2.out.h HX_w2.out
 clear hK K
 (try simp only [PT])
 refine wpAnyH_done (by kernel_rfl) ?_ _
 go_upto_region 3 with fail
 refine wp_region_held_drew (S := (fun W : World => W.cell? ⟨B, 0, none⟩ = some vi ∧ W.cell? ⟨B, 1, none⟩ = some vt ∧ Wm W g0 y)) (by kernel_rfl) (HSS.out _ HP_w2.out.h HX_w2.out) (fun hHeld => ?_)
 refine tk 0 rfl ?_;(try simp only [PT]);refine tk 1 rfl ?_;(try simp only [PT]);refine tk 2 rfl ?_;(try simp only [PT]);refine tk 3 rfl ?_;(try simp only [PT])
 refine tkL 4 rfl (yieldsIf_ld (by rfl) 39 (.tmp 3) rfl (.pointer (some ⟨g0, 0, none⟩)) rfl (.agg MY) (fun W hW => HLD.out W hW.2.2)) ?_
 (try simp only [PT])
 refine ready_at 5 rfl (by kernel_rfl) (fun K hK => ?_)
 go_simp
 refine (HAT.out _ _ _ (HP_w2.out.later HI.out HTO.out (Below.refl _ _).drew).t).mono ?_
 rintro ex w3 ⟨Sw3, Fw3, rfl, hxw3, hcw3, hsw3, hfw3⟩
 have HP_w3 := Lib.hid ((HP_w2.out.later HI.out HTO.out (Below.refl _ _).drew).opT HI.out HTO.out (show w.heap.size ≤ w2.drew.heap.size from HSZ2.out) hxw3 hcw3 hsw3 hfw3)
 have HX_w3 : Hid (Wm w3 g0 y) := Lib.hid ((hcw3.block g0 (Mx.lt HX_w2.out) (fun e => by have h1 := HLTS.out g0 (Or.inr (Or.inr (Or.inr (Or.inr (Or.inl e))))); have h2 := HG0.out; omega)).trans HX_w2.out)
 clear hxw3 hcw3 hsw3 hfw3 hHeld
 (try dsimp only)
 first
  | refine hK.out _ _ ?hS12 (fun hHeld => ?rest12)
  | (go_wp2_with fail; refine hK.out _ _ ?hS12 (fun hHeld => ?rest12))
 case hS12 => exact HSS.out _ HP_w3.out.h HX_w3.out
 clear hK K
 (try simp only [PT])
 refine wpAnyH_done (by kernel_rfl) ?_ _
 have HM3 := Lib.hid ((HP_w3.out.m).exact HRL.out)
 obtain ⟨k0, k1⟩ : w3.cell? ⟨g0, 0, none⟩ = some (.int .i64 y.k) ∧ True := ⟨Mx.first HX_w3.out 0 _ rfl, trivial⟩
 have l0 : w3.cell? ⟨g0, 36, none⟩ = some (.int .i64 y.seg) := Mx.last HX_w3.out HYD.out.1 2 _ rfl
 have l2 : w3.cell? ⟨g0, 38, none⟩ = some (.int .i64 y.len) := Mx.last HX_w3.out HYD.out.1 4 _ rfl
 have HP4 : Hid (SzP Ix Tx w w3 B M x.L.length vi vt SI FI ST FT Sw2 Fw2 Sw3 Fw3 (applyE x.D y) (applyT x.T y) (getL x.L)) := Lib.hid { HP_w3.out with m := HM3.out }
 have HNL : Hid (x.L.length ≤ 4194304) := Lib.hid (by have := HFW.out.l; omega)
 have HADD := Lib.hid (getL_add (sg := y.seg) HRL.out HYN.out.2)
 have HRW := Lib.hid fun sg ln => loadP_row HRL.out sg ln false
 have HLK := Lib.hid (lookJ_run HM3.out y.seg HYN.out.1)
 obtain ⟨z0, z1, z2⟩ := HP_w3.out.h.cells
 obtain ⟨kk, hkk⟩ : ∃ z, y.k = z := ⟨_, rfl⟩
 obtain ⟨sg, hsg⟩ : ∃ z, y.seg = z := ⟨_, rfl⟩
 obtain ⟨ln, hln⟩ : ∃ z, y.len = z := ⟨_, rfl⟩
 have HSG : Hid (Rgi sg) := Lib.hid (by rw [← hsg]; exact HYN.out.1)
 rw [hkk] at k0 HAL
 rw [hsg] at l0 HADD HLK HAL
 rw [hln] at l2 HADD HAL
 have HE : Hid (applyS x y = ⟨applyE x.D y, applyT x.T y, applyL x.L y⟩) := Lib.hid rfl
 clear hkk hsg hln k1
 by_cases hin : 1 ≤ kk ∧ kk ≤ 5
 ·obtain ⟨i1, i2⟩ := hin
  have HAL2 : Hid (applyL x.L y = loadP x.L sg ln false) := Lib.hid (by rw [HAL.out, if_pos ⟨i1, i2⟩])
  obtain ⟨A0, hA0⟩ : ∃ z, (getL x.L sg).getD 0 = z := ⟨_, rfl⟩
  rw [hA0] at HLK HADD
  obtain ⟨SU, hSU⟩ : ∃ z, IntKind.i64.wrap (A0 + ln) = z := ⟨_, rfl⟩
  have HSR : Hid (Rgi SU) := Lib.hid (by rw [← hSU]; exact rgi_wrap _)
  rw [hSU] at HADD
  have HLKD : Hid ((Instr.lookup TJ (.map (some M)) (.int .i64 sg) false).run Tryz.prog w3.drew = .ok (.int .i64 A0) w3.drew) := Lib.hid (by
   have h1 := lookJ_run (HM3.out.later (Below.refl _ _).drew) sg HSG.out
   rw [hA0] at h1
   exact h1)
  clear hA0
  go_upto_region 5 with fail
  refine wp_region_x (fun W : World => W.cell? ⟨B, 2, none⟩ = some (.map (some M)) ∧ W.cell? ⟨g0, 36, none⟩ = some (.int .i64 sg) ∧ W.cell? ⟨g0, 38, none⟩ = some (.int .i64 ln) ∧ (Instr.lookup TJ (.map (some M)) (.int .i64 sg) false).run Tryz.prog W = .ok (.int .i64 A0) W) 12 (by kernel_rfl) ?_
  have hHeld : (fun W : World => W.cell? ⟨B, 2, none⟩ = some (.map (some M)) ∧ W.cell? ⟨g0, 36, none⟩ = some (.int .i64 sg) ∧ W.cell? ⟨g0, 38, none⟩ = some (.int .i64 ln) ∧ (Instr.lookup TJ (.map (some M)) (.int .i64 sg) false).run Tryz.prog W = .ok (.int .i64 A0) W) _ := (show (fun W : World => W.cell? ⟨B, 2, none⟩ = some (.map (some M)) ∧ W.cell? ⟨g0, 36, none⟩ = some (.int .i64 sg) ∧ W.cell? ⟨g0, 38, none⟩ = some (.int .i64 ln) ∧ (Instr.lookup TJ (.map (some M)) (.int .i64 sg) false).run Tryz.prog W = .ok (.int .i64 A0) W) w3.drew from ⟨z2, l0, l2, HLKD.out⟩)
  refine tkx 0 rfl ?_;(try simp only [PT]);refine tkx 1 rfl ?_;(try simp only [PT]);refine tkx 2 rfl ?_;(try simp only [PT]);refine tkx 3 rfl ?_;(try simp only [PT]);refine tkx 4 rfl ?_;(try simp only [PT]);refine tkx 5 rfl ?_;(try simp only [PT]);refine tkx 6 rfl ?_;(try simp only [PT]);refine tkx 7 rfl ?_;(try simp only [PT]);refine tkx 8 rfl ?_;(try simp only [PT]);refine tkx 9 rfl ?_;(try simp only [PT]);refine tkx 10 rfl ?_;(try simp only [PT]);refine tkx 11 rfl ?_;(try simp only [PT])
  refine lastx 12 rfl (by kernel_rfl) (by kernel_rfl) (fun K hK => ?_)
  rw [if_pos (by rfl)]
  refine wp_putJ _ _ _ rfl M x.L.length (getL x.L) sg SU rfl (HP4.out.m.later (Below.refl _ _).drew) HNL.out rfl (by first | rfl | (simp [hSU])) HSG.out HSR.out ?_
  intro w5 hm5 hg5
  have HP5 := Lib.hid ((HP4.out.later HI.out HTO.out (Below.refl _ _).drew).opM HI.out HTO.out hm5 hg5)
  clear hm5 hg5
  first
   | refine hK.out _ _ ?_
   | (go_wp2_with fail; refine hK.out _ _ ?_)
  clear hK K hHeld
  go_wp2
  go_end0
  rw [HADD.out, ← HAL2.out] at HP5
  exact (show SzP Ix Tx w w5 B M _ vi vt SI FI ST FT Sw2 Fw2 Sw3 Fw3 (applyS x y).D (applyS x y).T (getL (applyS x y).L) from HP5.out).done (by show rowL (applyL x.L y); rw [HAL2.out]; exact HRW.out _ _) HIN.out HSF.out.1 HSF.out.2
 ·have HAL2 : Hid (applyL x.L y = x.L) := Lib.hid (by rw [HAL.out, if_neg hin])
  have HD : Hid (OpSQ (Sx0 Ix Tx) w S F (.pointer (some ⟨B, 0, none⟩)) (applyS x y) (.returned (.tuple #[])) w3) := Lib.hid (by
   refine (show SzP Ix Tx w w3 B M x.L.length vi vt SI FI ST FT Sw2 Fw2 Sw3 Fw3 (applyS x y).D (applyS x y).T (getL (applyS x y).L) from ?_).done ?_ HIN.out HSF.out.1 HSF.out.2
   ·show SzP Ix Tx w w3 B M x.L.length vi vt SI FI ST FT Sw2 Fw2 Sw3 Fw3 (applyE x.D y) (applyT x.T y) (getL (applyL x.L y))
    rw [HAL2.out]
    exact HP4.out
   ·show rowL (applyL x.L y)
    rw [HAL2.out]
    exact HRL.out)
  by_cases h1 : 1 ≤ kk
  ·have h2 : ¬ kk ≤ 5 := fun h => hin ⟨h1, h⟩
   clear hin
   go_wp2
   go_end0
   exact HD.out
  ·clear hin
   go_wp2
   go_end0
   exact HD.out
variable {Ix : World → (Nat → Prop) → (Nat → Prop) → Value → List Pe → Prop} {Tx : World → (Nat → Prop) → (Nat → Prop) → Value → List Pt → Prop}
/-- the loads of the segments of b -/
def inJ (l : List (Int × Int)) (b : List Int) : Int → Option Int := fun t => if t ∈ b then getL l t else none
theorem inJ_nil (l : List (Int × Int)) : inJ l [] = fun _ => none := by funext t; simp [inJ]
theorem inJ_some {l : List (Int × Int)} {b : List Int} {s v : Int} (h : getL l s = some v) : inJ l (b ++ [s]) = fun t => if t = s then some v else inJ l b t := by
 funext t
 unfold inJ
 by_cases e : t = s
 ·rw [if_pos e, e, if_pos (by simp), h]
 ·rw [if_neg e]
  simp [e]
theorem inJ_none {l : List (Int × Int)} {b : List Int} {s : Int} (h : getL l s = none) : inJ l (b ++ [s]) = inJ l b := by
 funext t
 unfold inJ
 by_cases e : t = s
 ·rw [e, if_pos (by simp), h]
  split <;> rfl
 ·simp [e]
theorem zgetL_filter : ∀ (l : List (Int × Int)) (b : List Int) (t : Int), getL (l.filter fun x => decide (x.1 ∈ b)) t = if t ∈ b then getL l t else none
 | [], b, t => by simp [getL]
 | x :: M, b, t => by
   have ih := zgetL_filter M b t
   by_cases hx : x.1 ∈ b
   ·rw [List.filter_cons_of_pos (by simpa using hx), getL_cons, getL_cons, ih]
    by_cases e : x.1 = t
    ·subst e; rw [if_pos rfl, if_pos rfl, if_pos hx]
    ·rw [if_neg e, if_neg e]
   ·rw [List.filter_cons_of_neg (by simpa using hx), ih, getL_cons]
    by_cases e : x.1 = t
    ·subst e; rw [if_neg hx, if_neg hx]
    ·rw [if_neg e]
theorem inJ_all (l : List (Int × Int)) (b : List Int) : inJ l b = getL (l.filter fun x => decide (x.1 ∈ b)) := by
 funext t
 rw [zgetL_filter]
 rfl
/-- amid Keep's loop: the new map alone turns -/
structure KdJ (w4 W : World) (Ml k : Nat) (f : Int → Option Int) : Prop where
 m : Mj W Ml k f
 c : Chg (fun b => b = Ml) w4 W
/-- the new map is laid in -/
theorem SzP.doneM (hI : IdxOk Ix) (hT : TagOk Tx) {w w4 W : World} {B M n k Ml : Nat} {vi vt : Value} {SI FI ST FT SI' FI' ST' FT' S F : Nat → Prop} {x' : Ps} {f : Int → Option Int} (h : SzP Ix Tx w w4 B M n vi vt SI FI ST FT SI' FI' ST' FT' x'.D x'.T f) (hm : KdJ w4 W Ml k (getL x'.L)) (hl : w.heap.size ≤ Ml) (hne : ∀ b, b = B ∨ b = M ∨ SI' b ∨ FI' b ∨ ST' b ∨ FT' b → b ≠ Ml) (hr : rowL x'.L) (hi : x'.In) (hS : ∀ b, S b ↔ b = B ∨ b = M ∨ SI b ∨ ST b) (hF : ∀ b, F b ↔ FI b ∨ FT b) :
 OpSQ (Sx0 Ix Tx) w S F (.pointer (some ⟨B, 0, none⟩)) x' (.returned (.tuple #[])) (W.setCell ⟨B, 2, none⟩ (.map (some Ml))) := by
 have hk : ∀ b, b = B ∨ b = M ∨ SI' b ∨ FI' b ∨ ST' b ∨ FT' b → W.heap[b]? = w4.heap[b]? := fun b hb => hm.c.block b (h.lt hI hT b hb) (hne b hb)
 have hset : ∀ b, b ≠ B → (W.setCell ⟨B, 2, none⟩ (.map (some Ml))).heap[b]? = W.heap[b]? := fun b hb => heap_setCell_other W ⟨B, 2, none⟩ b _ hb
 have hsz : (W.setCell ⟨B, 2, none⟩ (.map (some Ml))).heap.size = W.heap.size := World.size_setCell _ _ _
 have hBM : B ≠ Ml := hne B (Or.inl rfl)
 have hin : ∀ b, SI' b ∨ FI' b ∨ ST' b ∨ FT' b → b ≠ B := fun b hb => (h.nb b hb).1
 have hbb : ∀ b, SI' b ∨ FI' b ∨ ST' b ∨ FT' b → (W.setCell ⟨B, 2, none⟩ (.map (some Ml))).heap[b]? = w4.heap[b]? := fun b hb => (hset b (hin b hb)).trans (hk b (Or.inr (Or.inr hb)))
 have hs4 : w4.heap.size ≤ (W.setCell ⟨B, 2, none⟩ (.map (some Ml))).heap.size := by rw [hsz]; exact hm.c.size
 refine ⟨fun b => b = B ∨ b = Ml ∨ SI' b ∨ ST' b, fun b => FI' b ∨ FT' b, rfl, ⟨B, Ml, k, vi, vt, SI', FI', ST', FT', rfl, ⟨(h.h.same (hk B (Or.inl rfl))).put Ml, hI.keep h.i (fun b hb => hbb b (hb.elim Or.inl fun e => Or.inr (Or.inl e))) hs4, hT.keep h.t (fun b hb => hbb b (hb.elim (fun e => Or.inr (Or.inr (Or.inl e))) fun e => Or.inr (Or.inr (Or.inr e)))) hs4, hm.m.same (hset Ml (Ne.symm hBM)), fun b hb => ⟨hin b hb, hne b (Or.inr (Or.inr hb))⟩, h.si, h.st, hr, hi⟩, fun _ => Iff.rfl, fun _ => Iff.rfl⟩, ?_, fun b hb => ?_, fun b hb => ?_⟩
 ·refine ⟨hm.c.os.trans h.c.os, hm.c.tape.trans h.c.tape, hm.c.output.trans h.c.output, by rw [hsz]; exact Nat.le_trans h.c.size hm.c.size, fun b hb hn => ?_⟩
  have hnB : b ≠ B := fun e => hn ((hS b).2 (Or.inl e))
  have hnM : b ≠ Ml := by omega
  exact (hset b hnB).trans ((hm.c.block b (Nat.lt_of_lt_of_le hb h.c.size) hnM).trans (h.c.block b hb fun e => hn ((hS b).2 e)))
 ·rcases hb with hb | hb | hb | hb
  ·exact Or.inl ((hS b).2 (Or.inl hb))
  ·exact Or.inr (by omega)
  ·exact (h.si2 b hb).imp (fun e => (hS b).2 (Or.inr (Or.inr (Or.inl e)))) id
  ·exact (h.st2 b hb).imp (fun e => (hS b).2 (Or.inr (Or.inr (Or.inr e)))) id
 ·rcases hb with hb | hb
  ·exact (h.fi2 b hb).imp (fun e => (hF b).2 (Or.inl e)) id
  ·exact (h.ft2 b hb).imp (fun e => (hF b).2 (Or.inr e)) id
set_option maxRecDepth 100000 in
set_option maxHeartbeats 4000000 in
theorem zkeep_any (hI : IdxOk Ix) (hT : TagOk Tx) {w : World} {B M n : Nat} {vi vt u : Value} {SI FI ST FT S F : Nat → Prop} {x : Ps} {b : List Int} (h : Sz0 Ix Tx w B M n vi vt SI FI ST FT x) (hS : ∀ b, S b ↔ b = B ∨ b = M ∨ SI b ∨ ST b) (hF : ∀ b, F b ↔ FI b ∨ FT b) (hu : Is w u b) (hub : b ≠ [] → ∀ k, u.ownBlock = some k → ¬ S k) (hbl : b.length ≤ 2097152) (hbr : ∀ z ∈ b, Rgi z) (hf : x.Few) :
 Calls Tryz.prog 12 #[.pointer (some ⟨B, 0, none⟩), u] w fun e w' => OpSQ (Sx0 Ix Tx) w S F (.pointer (some ⟨B, 0, none⟩)) (keepS x b) e w' := by
 have HP := Lib.hid h.szp
 have HI := Lib.hid hI
 have HTO := Lib.hid hT
 have HSF := Lib.hid (And.intro hS hF)
 have HRL := Lib.hid h.r
 have HIN := Lib.hid (keepS_in h.inn b)
 have HBR := Lib.hid hbr
 have HBL := Lib.hid hbl
 have HUB := Lib.hid fun hb k hk => fun e => hub hb k hk ((hS k).2 e)
 have HUW := Lib.hid hu
 have HUL := Lib.hid fun hb k hk => hu.lt hb (b := k) hk
 have HAI := Lib.hid (hI.keepS (L := x.D) h.i hu (fun hb k hk e => hub hb k hk ((hS k).2 (Or.inr (Or.inr (Or.inl e))))) hbl (by have := hf.n; omega) hf.i)
 have HAT := Lib.hid fun (W : World) (hW : Tx W ST FT vt x.T) (hw : Is W u b) => hT.keepS (L := x.T) hW hw (fun hb k hk e => hub hb k hk ((hS k).2 (Or.inr (Or.inr (Or.inr e))))) hbl (by have := hf.n; omega) hf.j
 have hmm := @run_makeMap Tryz.prog
 obtain ⟨c0, c1, c2⟩ := h.h.cells
 have HE : Hid (keepS x b = ⟨keepR x.D b, keepTs x.T b, x.L.filter fun y => decide (y.1 ∈ b)⟩) := Lib.hid rfl
 clear h hI hT hS hF hu hub hbl hbr hf
 go_enter Tryz.func12, Tryz.ntmps12
 go_upto_region 2 with (go_at_call 49; refine HAI.out.mono ?_; rintro ex w2 ⟨S2, F2, rfl, hx2, hc2, hs2, hf2⟩; have HP2 := Lib.hid (HP.out.opI HI.out HTO.out (Nat.le_refl _) hx2 hc2 hs2 hf2); have HU2 : Hid (Is w2 u b) := Lib.hid (HUW.out.hold fun hb k hk => hc2.block k (HUL.out hb k hk) (fun e => HUB.out hb k hk (Or.inr (Or.inr (Or.inl e))))); have HZ2 := Lib.hid hc2.size; clear hx2 hc2 hs2 hf2)
 have HAT2 := Lib.hid (HAT.out w2 HP2.out.t HU2.out)
 clear c0 c1 c2
 obtain ⟨c0, c1, c2⟩ := HP2.out.h.cells
 go_upto_region 3 with (go_at_call 50; refine HAT2.out.mono ?_; rintro ex w3 ⟨S3, F3, rfl, hx3, hc3, hs3, hf3⟩; have HP3 := Lib.hid (HP2.out.opT HI.out HTO.out HZ2.out hx3 hc3 hs3 hf3); have HU3 : Hid (Is w3 u b) := Lib.hid (HU2.out.hold fun hb k hk => hc3.block k (Nat.lt_of_lt_of_le (HUL.out hb k hk) HZ2.out) (fun e => HUB.out hb k hk (Or.inr (Or.inr (Or.inr e))))); have HZ3 := Lib.hid (Nat.le_trans HZ2.out hc3.size); clear hx3 hc3 hs3 hf3)
 clear c0 c1 c2
 obtain ⟨w4, hw4⟩ : ∃ W, w3.alloc (.map #[] 0) = W := ⟨_, rfl⟩
 obtain ⟨Ml, hMl⟩ : ∃ z, w3.heap.size = z := ⟨_, rfl⟩
 have hb4 : Below w3.heap.size w3 w4 := by rw [← hw4]; exact (Below.refl _ _).alloc (Nat.le_refl _) _
 have HP4 := Lib.hid (HP3.out.later HI.out HTO.out hb4)
 have HML : Hid (w3.heap.size = Ml ∧ Ml < w4.heap.size) := Lib.hid ⟨hMl, by rw [← hw4, ← hMl]; simp⟩
 have HK0 : Hid (KdJ w4 w4 Ml 0 (inJ x.L (b.take 0))) := Lib.hid ⟨by rw [← hw4, ← hMl, List.take_zero, inJ_nil]; exact Mj.made w3, Chg.refl _ _⟩
 have HU4 := Lib.hid (HU3.out.later hb4)
 have HNE := Lib.hid fun k hk => show k ≠ Ml from fun e => by have h1 := HP3.out.lt HI.out HTO.out k hk; have h2 := HML.out.1; omega
 obtain ⟨p, c, hup, hg, _⟩ := HU4.out
 subst hup
 have HG := Lib.hid hg
 obtain ⟨m, hm⟩ : ∃ z, b.length = z := ⟨_, rfl⟩
 rw [hm] at HG HBL ⊢
 have HM := Lib.hid hm
 have HUK : Hid (∀ W, Chg (fun k => k = Ml) w4 W → Gs encI W p m b) := Lib.hid fun W hW => HG.out.hold fun hn k off hp => hW.block k (by subst hp; exact HG.out.block_lt (by omega)) (fun e => by
  subst hp
  have h0 : b ≠ [] := fun e2 => hn (by rw [← HM.out, e2]; rfl)
  have h1 := HU3.out.lt h0 (b := k) rfl
  have h2 := HML.out.1
  have h3 : k = Ml := e
  omega)
 have hmb := HBL.out
 clear hg hm hb4
 go_wp2
 clear hw4 hMl hmm
 go_loopw [26] (fun j wr => ∃ (k q : Nat), k ≤ m ∧ j = .int .i64 (k : Int) ∧ q ≤ k ∧ Hid (KdJ w4 wr Ml q (inJ x.L (b.take k)))) (fun j _ => m - (intZ j).toNat)
 case atStart => exact ⟨0, 0, by omega, rfl, by omega, HK0⟩
 case round =>
  clear HK0
  obtain ⟨k, q, hkm, rfl, hqk, HK⟩ := hrel
  have HC : Hid (wr.cell? ⟨B, 2, none⟩ = some (.map (some M)) ∧ Mj wr M n (getL x.L) ∧ wr.frozen? ⟨B, 2, none⟩ = false) := Lib.hid (by
   have hB := HK.out.c.block B (HP4.out.h.lt) (HNE.out B (Or.inl rfl))
   exact ⟨(HP4.out.h.same hB).cells.2.2, HP4.out.m.same (HK.out.c.block M HP4.out.m.lt (HNE.out M (Or.inr (Or.inl rfl)))), (HP4.out.h.same hB).frozen 2⟩)
  obtain ⟨c2, _, cf⟩ := HC.out
  by_cases hlt : k < m
  ·as_aux_lemma =>
   obtain ⟨b1, off, rfl, hc⟩ := (HUK.out wr HK.out.c).ptr k hlt
   obtain ⟨s, hs⟩ : ∃ s, b[k]? = some s := ⟨_, List.getElem?_eq_getElem (by rw [HM.out]; exact hlt)⟩
   have hkd : b.getD k encI.d = s := by rw [List.getD_eq_getElem?_getD, hs]; rfl
   rw [hkd] at hc
   have l0 : wr.cell? ⟨b1, off + k, none⟩ = some (.int .i64 s) := by have := hc 0 _ rfl; simpa [show encI.k = 1 from rfl] using this
   have HSR := Lib.hid (HBR.out s (List.mem_of_getElem? hs))
   have HT : Hid (b.take (k + 1) = b.take k ++ [s]) := Lib.hid (by
    obtain ⟨h2, h3⟩ := List.getElem?_eq_some_iff.1 hs
    rw [List.take_succ_eq_append_getElem h2, h3])
   have hki : (k : Int) < (m : Int) := by omega
   have hk0 : (0 : Int) ≤ (k : Int) := by omega
   have HQN : Hid (q ≤ 4194304) := Lib.hid (by omega)
   clear hc hs hkd
   obtain ⟨r, hr⟩ : ∃ r, getL x.L s = r := ⟨_, rfl⟩
   have HR := Lib.hid hr
   clear hr
   cases r with
   | none =>
     have HK2 : Hid (KdJ w4 wr Ml q (inJ x.L (b.take (k + 1)))) := Lib.hid (by rw [HT.out, inJ_none HR.out]; exact HK.out)
     go_wp2_with (at_lookup; refine wpList_lookJ rfl _ _ rfl M n (getL x.L) s rfl HC.out.2.1 rfl HSR.out ?_; rw [HR.out]; simp only [Option.getD_none, Option.isSome_none])
     exact ⟨⟨k + 1, q, by omega, by go_num, by omega, HK2⟩, by simp [intZ] <;> omega⟩
   | some v =>
     have HVR : Hid (Rgi v) := Lib.hid (HC.out.2.1.1 s v HR.out).2
     have HIS : Hid (inJ x.L (b.take (k + 1)) = fun t => if t = s then some v else inJ x.L (b.take k) t) := Lib.hid (by rw [HT.out, inJ_some HR.out])
     go_wp2_with (first
      | (at_lookup; refine wpList_lookJ rfl _ _ rfl M n (getL x.L) s rfl HC.out.2.1 rfl HSR.out ?_; rw [HR.out]; simp only [Option.getD_some, Option.isSome_some])
      | (at_mapUpdate; refine wpList_putJ rfl _ _ _ rfl Ml q _ s v rfl HK.out.m HQN.out rfl rfl HSR.out HVR.out ?_; intro w8 hm8 hg8; have HK8 : Hid (KdJ w4 w8 Ml (q + 1) (inJ x.L (b.take (k + 1)))) := Lib.hid ⟨by rw [HIS.out]; exact hm8, HK.out.c.tr (S' := fun k => k = Ml) ⟨hg8.os, hg8.tape, hg8.output, hg8.size, fun k hk hn => hg8.block k hk (fun e => hn (by injection e with e))⟩ (fun k hk => Or.inl hk)⟩; clear hm8 hg8))
     exact ⟨⟨k + 1, q + 1, by omega, by go_num, by omega, HK8⟩, by simp [intZ] <;> omega⟩
  ·as_aux_lemma =>
   obtain rfl : k = m := by omega
   have HTK : Hid (b.take k = b) := Lib.hid (List.take_of_length_le (by rw [HM.out]; exact Nat.le_refl _))
   have HD : Hid (OpSQ (Sx0 Ix Tx) w S F (.pointer (some ⟨B, 0, none⟩)) (keepS x b) (.returned (.tuple #[])) (wr.setCell ⟨B, 2, none⟩ (.map (some Ml)))) := Lib.hid (by
    refine (show SzP Ix Tx w w4 B M n vi vt SI FI ST FT S2 F2 S3 F3 (keepS x b).D (keepS x b).T (getL x.L) from HP4.out).doneM HI.out HTO.out (k := q) ?_ (by have h1 := HML.out.1; have h2 := HZ3.out; omega) HNE.out ?_ HIN.out HSF.out.1 HSF.out.2
    ·have h1 := HK.out
     rw [HTK.out, inJ_all] at h1
     exact h1
    ·exact List.Pairwise.filter _ HRL.out)
   clear HK hlt
   go_wp2
   go_end0
   exact HD.out
variable {Ix : World → (Nat → Prop) → (Nat → Prop) → Value → List Pe → Prop} {Tx : World → (Nat → Prop) → (Nat → Prop) → Value → List Pt → Prop}
theorem Sz0.put (hI : IdxOk Ix) (hT : TagOk Tx) {w V : World} {B M n k : Nat} {vi vt : Value} {SI FI ST FT : Nat → Prop} {x : Ps} {L' : List (Int × Int)} (h : Sz0 Ix Tx w B M n vi vt SI FI ST FT x) (hm : Mj V M k (getL L')) (hg : w.grownBy V (some M)) (hr : rowL L') (hi : (⟨x.D, x.T, L'⟩ : Ps).In) : Sz0 Ix Tx V B M k vi vt SI FI ST FT ⟨x.D, x.T, L'⟩ := by
 have hk : ∀ b, b < w.heap.size → b ≠ M → V.heap[b]? = w.heap[b]? := fun b hb hn => hg.block b hb (fun e => hn (by injection e with e))
 exact ⟨h.h.same (hk B h.h.lt h.bm), hI.keep h.i (fun b hb => hk b (hI.lt h.i b hb) (h.nb b (hb.elim Or.inl (fun e => Or.inr (Or.inl e)))).2) hg.size, hT.keep h.t (fun b hb => hk b (hT.lt h.t b hb) (h.nb b (hb.elim (fun e => Or.inr (Or.inr (Or.inl e))) (fun e => Or.inr (Or.inr (Or.inr e))))).2) hg.size, hm, h.nb, h.si, h.st, hr, hi⟩
theorem znewL_step {K : List (Int × Int)} {k : Nat} {y : Int × Int} (h : K[k]? = some y) : newL (K.take (k + 1)) = loadP (newL (K.take k)) y.1 y.2 true := by
 obtain ⟨h2, h3⟩ := List.getElem?_eq_some_iff.1 h
 unfold newL
 rw [List.take_succ_eq_append_getElem h2, h3, List.foldl_append]
 rfl
set_option maxRecDepth 100000 in
set_option maxHeartbeats 8000000 in
theorem znew_any (hI : IdxOk Ix) (hT : TagOk Tx) (hPI : ∀ W S F v L, Ix W S F v L → ∃ b, v = .pointer (some ⟨b, 0, none⟩)) (hPT : ∀ W S F v L, Tx W S F v L → ∃ b, v = .pointer (some ⟨b, 0, none⟩)) {w : World} {N : Nat → Prop} {a0 b0 c0' e0 : Int} {p q r : Option Addr} {n c m d l cr : Nat} {D : List Ex} {T : List Go.Proofs.YtpfbfhigelbfcaaGreat.Tx} {K : List (Int × Int × Int)} (h1 : ReN w N p n D) (h2 : ReT w N q m T) (h3 : Gs encLo w r l K) (s1 : SlOk p n c) (s2 : SlOk q m d) (s3 : SlOk r l cr) (hr : SnR D T K) (hnm : n + m ≤ 1048576) (hl : l ≤ 1048576) (hi : insLe (peL D) 2097151) (hj : insLeT (ptL T) 2097151) :
 Calls Tryz.prog 8 #[.agg (SnC a0 b0 c0' e0 (.slice p n c) (.slice q m d) (.slice r l cr))] w fun e w' => NewSQ (Sx0 Ix Tx) w N (newS (peL D) (ptL T) (psL K)) e w' := by
 obtain ⟨w1, hw1⟩ : ∃ W, w.alloc (.cells (SnC a0 b0 c0' e0 (.slice p n c) (.slice q m d) (.slice r l cr)) 27) = W := ⟨_, rfl⟩
 obtain ⟨g0, hg0⟩ : ∃ z, w.heap.size = z := ⟨_, rfl⟩
 have hb1 : Below w.heap.size w w1 := by rw [← hw1]; exact (Below.refl _ _).alloc (Nat.le_refl _) _
 have HB1 := Lib.hid hb1
 have hsn : w1.heap[g0]? = some (.cells (SnC a0 b0 c0' e0 (.slice p n c) (.slice q m d) (.slice r l cr)) 27 (0, 0)) := by rw [← hw1, ← hg0]; exact heap_alloc_new _ _
 have HSS : Hid (∀ W, Below w1.heap.size w1 W → (W.cell? ⟨g0, 4, none⟩ = some (.slice p n c) ∧ W.cell? ⟨g0, 5, none⟩ = some (.slice q m d))) := Lib.hid fun W hW => by
  have h0 := obj_later hsn hW
  exact ⟨cell_of_row _ _ 4 _ _ _ h0, cell_of_row _ _ 5 _ _ _ h0⟩
 have HSL : Hid (∀ W, Below w1.heap.size w1 W → W.cell? ⟨g0, 6, none⟩ = some (.slice r l cr)) := Lib.hid fun W hW => cell_of_row _ _ 6 _ _ _ (obj_later hsn hW)
 have HN1 := Lib.hid fun (W : World) (hW : Below w1.heap.size w1 W) => hI.new ((h1.later hb1).later hW) s1.1 s1.2.1 s1.2.2 (by omega) hi
 have HN2 := Lib.hid fun (W : World) (hW : Below w1.heap.size w1 W) => hT.new ((h2.later hb1).later hW) s2.1 s2.2.1 s2.2.2 (by omega) hj
 have HI := Lib.hid hI
 have HPI := Lib.hid hPI
 have HPT := Lib.hid hPT
 have HTO := Lib.hid hT
 have HNL := Lib.hid h1.lt
 have HKG := Lib.hid fun (W : World) (hW : Below w.heap.size w W) => h3.later hW
 have HKR : Hid (∀ y ∈ psL K, Rgi y.1 ∧ Rgi y.2) := Lib.hid fun y hy => by
  obtain ⟨z, hz, rfl⟩ := List.mem_map.1 hy
  exact ⟨hr.s z hz, hr.r z hz⟩
 have HIN : Hid ((⟨newE (peL D), newT (ptL T), []⟩ : Ps).In) := Lib.hid (newS_in (ls := []) hr.d hr.t (fun y hy => by cases hy))
 have HINS : Hid (∀ k, (⟨newE (peL D), newT (ptL T), newL ((psL K).take k)⟩ : Ps).In) := Lib.hid fun k => newS_in (ls := (psL K).take k) hr.d hr.t (fun y hy => HKR.out y (List.mem_of_mem_take hy))
 have HKL : Hid ((psL K).length = l) := Lib.hid (by unfold psL; rw [List.length_map, h3.len])
 have HLL := Lib.hid hl
 have HW1 : Hid (w.heap.size = g0 ∧ g0 < w1.heap.size) := Lib.hid ⟨hg0, by rw [← hw1, ← hg0]; simp⟩
 have hmm := @run_makeMap Tryz.prog
 obtain ⟨SN, hSN⟩ : ∃ s, SnC a0 b0 c0' e0 (.slice p n c) (.slice q m d) (.slice r l cr) = s := ⟨_, rfl⟩
 rw [hSN] at hw1 ⊢
 clear h1 h2 h3 s1 s2 s3 hr hnm hl hi hj hI hT hPI hPT hb1 hsn hSN
 go_enter Tryz.func8, Tryz.ntmps8
 go_upto_region 1 with fail
 go_cut [3] (fun g wx => ∃ (B Ml : Nat) (vi vt : Value) (SI FI ST FT : Nat → Prop), g = .pointer (some ⟨B, 0, none⟩) ∧ Hid (Sz0 Ix Tx wx B Ml 0 vi vt SI FI ST FT ⟨newE (peL D), newT (ptL T), []⟩) ∧ Hid ((∀ b, b = B ∨ b = Ml ∨ SI b ∨ ST b → w.heap.size ≤ b) ∧ ∀ b, FI b ∨ FT b → N b ∨ w.heap.size ≤ b) ∧ Hid (Below w1.heap.size w1 wx))
 case first =>
  refine wp_region_held_drew (S := (fun W : World => W.cell? ⟨g0, 4, none⟩ = some (.slice p n c) ∧ W.cell? ⟨g0, 5, none⟩ = some (.slice q m d))) (by kernel_rfl) (HSS.out _ (Below.refl _ _).drew) (fun hHeld => ?_)
  refine tk 0 rfl ?_;(try simp only [PT]);refine tk 1 rfl ?_;(try simp only [PT]);refine tk 3 rfl ?_;(try simp only [PT]);refine tk 4 rfl ?_;(try simp only [PT])
  obtain ⟨y0, hy0⟩ : ∃ X, w1.drew = X := ⟨_, rfl⟩
  have HB0 : Hid (Below w1.heap.size w1 y0) := Lib.hid (by rw [← hy0]; exact (Below.refl _ _).drew)
  rw [hy0]
  clear hy0 hHeld
  have hHeld := HSS.out _ HB0.out
  refine wpAnyH_ready (rs := [2, 6]) (by kernel_rfl) (by simp) (all_at 2 rfl (fun K hK => ?o5) (all_at 6 rfl (fun K hK => ?o6) AllReadyH.nil))
  case o5 =>
   go_simp
   refine (HN1.out _ HB0.out).mono ?_
   rintro ex y7 ⟨vi, SI, FI, rfl, hx, hs, hf, hb⟩
   have HX7 : Hid (Below y0.heap.size y0 y7) := Lib.hid hb
   have HI7 := Lib.hid hx
   have HDI : Hid (∃ lo hi, w1.heap.size ≤ lo ∧ lo ≤ hi ∧ hi = y7.heap.size ∧ lo = y0.heap.size ∧ (∀ b, SI b → lo ≤ b ∧ b < hi) ∧ ∀ b, FI b → N b ∨ (lo ≤ b ∧ b < hi)) := Lib.hid ⟨_, _, HB0.out.size, hb.size, rfl, rfl, fun b e => ⟨hs b e, HI.out.lt hx b (Or.inl e)⟩, fun b e => (hf b e).imp id fun e2 => ⟨e2, HI.out.lt hx b (Or.inr e)⟩⟩
   obtain ⟨bi, hvi⟩ := HPI.out _ _ _ _ _ hx
   subst hvi
   clear hx hs hf hb
   (try dsimp only)
   first
    | refine hK.out _ _ ?hS8 (fun hHeld => ?rr8)
    | (go_wp2_with fail; refine hK.out _ _ ?hS8 (fun hHeld => ?rr8))
   case hS8 => exact HSS.out _ (below_step HB0.out HX7.out)
   clear hK K
   (try simp only [PT])
   have FB9 := Lib.hid (below_step HB0.out HX7.out)
   clear hHeld
   have hHeld := HSS.out _ FB9.out
   refine wpAnyH_ready (rs := [5, 6]) (by kernel_rfl) (by simp) (all_at 5 rfl (fun K hK => ?o10) (all_at 6 rfl (fun K hK => ?o11) AllReadyH.nil))
   case o10 =>
    go_simp
    refine (HN2.out _ FB9.out).mono ?_
    rintro ex y12 ⟨vt, ST, FT, rfl, hx, hs, hf, hb⟩
    have HX12 : Hid (Below y7.heap.size y7 y12) := Lib.hid hb
    have HT12 := Lib.hid hx
    have HDT : Hid (∃ lo hi, w1.heap.size ≤ lo ∧ lo ≤ hi ∧ hi = y12.heap.size ∧ lo = y7.heap.size ∧ (∀ b, ST b → lo ≤ b ∧ b < hi) ∧ ∀ b, FT b → N b ∨ (lo ≤ b ∧ b < hi)) := Lib.hid ⟨_, _, FB9.out.size, hb.size, rfl, rfl, fun b e => ⟨hs b e, HTO.out.lt hx b (Or.inl e)⟩, fun b e => (hf b e).imp id fun e2 => ⟨e2, HTO.out.lt hx b (Or.inr e)⟩⟩
    obtain ⟨bt, hvt⟩ := HPT.out _ _ _ _ _ hx
    subst hvt
    clear hx hs hf hb
    (try dsimp only)
    first
     | refine hK.out _ _ ?hS13 (fun hHeld => ?rr13)
     | (go_wp2_with fail; refine hK.out _ _ ?hS13 (fun hHeld => ?rr13))
    case hS13 => exact HSS.out _ (below_step FB9.out HX12.out)
    clear hK K
    (try simp only [PT])
    have FI14 := Lib.hid (HI.out.later HI7.out HX12.out)
    have FB14 := Lib.hid (below_step FB9.out HX12.out)
    clear hHeld
    have hHeld := HSS.out _ FB14.out
    refine ready_at 6 rfl (by kernel_rfl) (fun K hK => ?_)
    go_simp
    first
     | refine hK.out _ _ ?hS17 (fun hHeld => ?rr17)
     | (go_wp2_with fail; refine hK.out _ _ ?hS17 (fun hHeld => ?rr17))
    case hS17 => exact HSS.out _ (FB14.out.alloc FB14.out.size _)
    clear hK K
    (try simp only [PT])
    obtain ⟨y16, hy⟩ : ∃ X, y12.alloc (.map #[] 0) = X := ⟨_, rfl⟩
    rw [hy]
    obtain ⟨Ml, hG⟩ : ∃ x, y12.heap.size = x := ⟨_, rfl⟩
    rw [hG]
    have HX16 : Hid (Below y12.heap.size y12 y16) := Lib.hid (by rw [← hy]; exact (Below.refl _ _).alloc (Nat.le_refl _) _)
    have HM16 : Hid (Mj y16 Ml 0 (getL [])) := Lib.hid (by rw [← hG, ← hy]; exact Mj.made _)
    have HDM : Hid (w1.heap.size ≤ Ml ∧ Ml = y12.heap.size ∧ Ml < y16.heap.size) := Lib.hid ⟨by rw [← hG]; exact FB14.out.size, hG.symm, by rw [← hG, ← hy]; simp⟩
    have FI18 := Lib.hid (HI.out.later FI14.out HX16.out)
    have FT18 := Lib.hid (HTO.out.later HT12.out HX16.out)
    have FB18 := Lib.hid (below_step FB14.out HX16.out)
    clear hy hG
    clear hHeld
    have hHeld := HSS.out _ FB18.out
    refine tk 7 rfl ?_;(try simp only [PT])
    refine ready_at 8 rfl (by kernel_rfl) (fun K hK => ?_)
    go_simp
    first
     | refine hK.out _ _ ?hS21 (fun hHeld => ?rr21)
     | (go_wp2_with fail; refine hK.out _ _ ?hS21 (fun hHeld => ?rr21))
    case hS21 => exact HSS.out _ (FB18.out.alloc FB18.out.size _)
    clear hK K
    (try simp only [PT])
    obtain ⟨yb, hy⟩ : ∃ X, y16.alloc (.cells #[.pointer (some ⟨bi, 0, none⟩), .pointer (some ⟨bt, 0, none⟩), .map (some Ml)] 95) = X := ⟨_, rfl⟩
    rw [hy]
    obtain ⟨B, hG⟩ : ∃ x, y16.heap.size = x := ⟨_, rfl⟩
    rw [hG]
    have HXb : Hid (Below y16.heap.size y16 yb) := Lib.hid (by rw [← hy]; exact (Below.refl _ _).alloc (Nat.le_refl _) _)
    have HHb : Hid (Hst yb B (.pointer (some ⟨bi, 0, none⟩)) (.pointer (some ⟨bt, 0, none⟩)) Ml) := Lib.hid (by rw [← hG, ← hy]; exact heap_alloc_new _ _)
    have HDB : Hid (B = y16.heap.size) := Lib.hid hG.symm
    clear hy hG
    have FI22 := Lib.hid (HI.out.later FI18.out HXb.out)
    have FT22 := Lib.hid (HTO.out.later FT18.out HXb.out)
    have FM22 := Lib.hid (Mj.later HM16.out HXb.out)
    have FB22 := Lib.hid (below_step FB18.out HXb.out)
    clear hHeld
    have hHeld := HSS.out _ FB22.out
    refine tk 9 rfl ?_;(try simp only [PT])
    refine wpAnyH_done (by kernel_rfl) ?_ _
    go_wp2_with fail
    go_meet
    obtain ⟨lo1, hi1, a1, a2, a3, a4, a5, a6⟩ := HDI.out
    obtain ⟨lo2, hi2, b1, b2, b3, b4, b5, b6⟩ := HDT.out
    obtain ⟨m1, m2, m3⟩ := HDM.out
    have db := HDB.out
    have hnl := HNL.out
    have hw1 := HW1.out
    have s0 := HX7.out.size
    have s1 := HX12.out.size
    have s2 := HX16.out.size
    refine ⟨B, Ml, _, _, SI, FI, ST, FT, rfl, Lib.hid ⟨HHb.out, FI22.out, FT22.out, FM22.out, fun b hb => ?_, fun b hb => ⟨fun e => ?_, fun e => ?_⟩, fun b hb e => ?_, List.Pairwise.nil, HIN.out⟩, Lib.hid ⟨fun b hb => ?_, fun b hb => ?_⟩, FB22⟩
    ·rcases hb with e | e | e | e
     ·have := a5 b e; exact ⟨by omega, by omega⟩
     ·rcases a6 b e with e2 | e2
      ·have := hnl b e2; exact ⟨by omega, by omega⟩
      ·exact ⟨by omega, by omega⟩
     ·have := b5 b e; exact ⟨by omega, by omega⟩
     ·rcases b6 b e with e2 | e2
      ·have := hnl b e2; exact ⟨by omega, by omega⟩
      ·exact ⟨by omega, by omega⟩
    ·have := a5 b hb; have := b5 b e; omega
    ·have := a5 b hb
     rcases b6 b e with e2 | e2
     ·have := hnl b e2; omega
     ·omega
    ·have := b5 b hb
     rcases a6 b e with e2 | e2
     ·have := hnl b e2; omega
     ·omega
    ·rcases hb with e | e | e | e
     ·omega
     ·omega
     ·have := a5 b e; omega
     ·have := b5 b e; omega
    ·rcases hb with e | e
     ·exact (a6 b e).imp id fun e2 => by omega
     ·exact (b6 b e).imp id fun e2 => by omega
   case o11 =>
    go_simp
    first
     | refine hK.out _ _ ?hS25 (fun hHeld => ?rr25)
     | (go_wp2_with fail; refine hK.out _ _ ?hS25 (fun hHeld => ?rr25))
    case hS25 => exact HSS.out _ (FB9.out.alloc FB9.out.size _)
    clear hK K
    (try simp only [PT])
    obtain ⟨y24, hy⟩ : ∃ X, y7.alloc (.map #[] 0) = X := ⟨_, rfl⟩
    rw [hy]
    obtain ⟨Ml, hG⟩ : ∃ x, y7.heap.size = x := ⟨_, rfl⟩
    rw [hG]
    have HX24 : Hid (Below y7.heap.size y7 y24) := Lib.hid (by rw [← hy]; exact (Below.refl _ _).alloc (Nat.le_refl _) _)
    have HM24 : Hid (Mj y24 Ml 0 (getL [])) := Lib.hid (by rw [← hG, ← hy]; exact Mj.made _)
    have HDM : Hid (w1.heap.size ≤ Ml ∧ Ml = y7.heap.size ∧ Ml < y24.heap.size) := Lib.hid ⟨by rw [← hG]; exact FB9.out.size, hG.symm, by rw [← hG, ← hy]; simp⟩
    have FI26 := Lib.hid (HI.out.later HI7.out HX24.out)
    have FB26 := Lib.hid (below_step FB9.out HX24.out)
    clear hy hG
    clear hHeld
    have hHeld := HSS.out _ FB26.out
    refine ready_at 5 rfl (by kernel_rfl) (fun K hK => ?_)
    go_simp
    refine (HN2.out _ FB26.out).mono ?_
    rintro ex y28 ⟨vt, ST, FT, rfl, hx, hs, hf, hb⟩
    have HX28 : Hid (Below y24.heap.size y24 y28) := Lib.hid hb
    have HT28 := Lib.hid hx
    have HDT : Hid (∃ lo hi, w1.heap.size ≤ lo ∧ lo ≤ hi ∧ hi = y28.heap.size ∧ lo = y24.heap.size ∧ (∀ b, ST b → lo ≤ b ∧ b < hi) ∧ ∀ b, FT b → N b ∨ (lo ≤ b ∧ b < hi)) := Lib.hid ⟨_, _, FB26.out.size, hb.size, rfl, rfl, fun b e => ⟨hs b e, HTO.out.lt hx b (Or.inl e)⟩, fun b e => (hf b e).imp id fun e2 => ⟨e2, HTO.out.lt hx b (Or.inr e)⟩⟩
    obtain ⟨bt, hvt⟩ := HPT.out _ _ _ _ _ hx
    subst hvt
    clear hx hs hf hb
    (try dsimp only)
    first
     | refine hK.out _ _ ?hS29 (fun hHeld => ?rr29)
     | (go_wp2_with fail; refine hK.out _ _ ?hS29 (fun hHeld => ?rr29))
    case hS29 => exact HSS.out _ (below_step FB26.out HX28.out)
    clear hK K
    (try simp only [PT])
    have FI30 := Lib.hid (HI.out.later FI26.out HX28.out)
    have FM30 := Lib.hid (Mj.later HM24.out HX28.out)
    have FB30 := Lib.hid (below_step FB26.out HX28.out)
    clear hHeld
    have hHeld := HSS.out _ FB30.out
    refine tk 7 rfl ?_;(try simp only [PT])
    refine ready_at 8 rfl (by kernel_rfl) (fun K hK => ?_)
    go_simp
    first
     | refine hK.out _ _ ?hS33 (fun hHeld => ?rr33)
     | (go_wp2_with fail; refine hK.out _ _ ?hS33 (fun hHeld => ?rr33))
    case hS33 => exact HSS.out _ (FB30.out.alloc FB30.out.size _)
    clear hK K
    (try simp only [PT])
    obtain ⟨yb, hy⟩ : ∃ X, y28.alloc (.cells #[.pointer (some ⟨bi, 0, none⟩), .pointer (some ⟨bt, 0, none⟩), .map (some Ml)] 95) = X := ⟨_, rfl⟩
    rw [hy]
    obtain ⟨B, hG⟩ : ∃ x, y28.heap.size = x := ⟨_, rfl⟩
    rw [hG]
    have HXb : Hid (Below y28.heap.size y28 yb) := Lib.hid (by rw [← hy]; exact (Below.refl _ _).alloc (Nat.le_refl _) _)
    have HHb : Hid (Hst yb B (.pointer (some ⟨bi, 0, none⟩)) (.pointer (some ⟨bt, 0, none⟩)) Ml) := Lib.hid (by rw [← hG, ← hy]; exact heap_alloc_new _ _)
    have HDB : Hid (B = y28.heap.size) := Lib.hid hG.symm
    clear hy hG
    have FI34 := Lib.hid (HI.out.later FI30.out HXb.out)
    have FT34 := Lib.hid (HTO.out.later HT28.out HXb.out)
    have FM34 := Lib.hid (Mj.later FM30.out HXb.out)
    have FB34 := Lib.hid (below_step FB30.out HXb.out)
    clear hHeld
    have hHeld := HSS.out _ FB34.out
    refine tk 9 rfl ?_;(try simp only [PT])
    refine wpAnyH_done (by kernel_rfl) ?_ _
    go_wp2_with fail
    go_meet
    obtain ⟨lo1, hi1, a1, a2, a3, a4, a5, a6⟩ := HDI.out
    obtain ⟨lo2, hi2, b1, b2, b3, b4, b5, b6⟩ := HDT.out
    obtain ⟨m1, m2, m3⟩ := HDM.out
    have db := HDB.out
    have hnl := HNL.out
    have hw1 := HW1.out
    have s0 := HX7.out.size
    have s1 := HX24.out.size
    have s2 := HX28.out.size
    refine ⟨B, Ml, _, _, SI, FI, ST, FT, rfl, Lib.hid ⟨HHb.out, FI34.out, FT34.out, FM34.out, fun b hb => ?_, fun b hb => ⟨fun e => ?_, fun e => ?_⟩, fun b hb e => ?_, List.Pairwise.nil, HIN.out⟩, Lib.hid ⟨fun b hb => ?_, fun b hb => ?_⟩, FB34⟩
    ·rcases hb with e | e | e | e
     ·have := a5 b e; exact ⟨by omega, by omega⟩
     ·rcases a6 b e with e2 | e2
      ·have := hnl b e2; exact ⟨by omega, by omega⟩
      ·exact ⟨by omega, by omega⟩
     ·have := b5 b e; exact ⟨by omega, by omega⟩
     ·rcases b6 b e with e2 | e2
      ·have := hnl b e2; exact ⟨by omega, by omega⟩
      ·exact ⟨by omega, by omega⟩
    ·have := a5 b hb; have := b5 b e; omega
    ·have := a5 b hb
     rcases b6 b e with e2 | e2
     ·have := hnl b e2; omega
     ·omega
    ·have := b5 b hb
     rcases a6 b e with e2 | e2
     ·have := hnl b e2; omega
     ·omega
    ·rcases hb with e | e | e | e
     ·omega
     ·omega
     ·have := a5 b e; omega
     ·have := b5 b e; omega
    ·rcases hb with e | e
     ·exact (a6 b e).imp id fun e2 => by omega
     ·exact (b6 b e).imp id fun e2 => by omega
  case o6 =>
   go_simp
   first
    | refine hK.out _ _ ?hS37 (fun hHeld => ?rr37)
    | (go_wp2_with fail; refine hK.out _ _ ?hS37 (fun hHeld => ?rr37))
   case hS37 => exact HSS.out _ (HB0.out.alloc HB0.out.size _)
   clear hK K
   (try simp only [PT])
   obtain ⟨y36, hy⟩ : ∃ X, y0.alloc (.map #[] 0) = X := ⟨_, rfl⟩
   rw [hy]
   obtain ⟨Ml, hG⟩ : ∃ x, y0.heap.size = x := ⟨_, rfl⟩
   rw [hG]
   have HX36 : Hid (Below y0.heap.size y0 y36) := Lib.hid (by rw [← hy]; exact (Below.refl _ _).alloc (Nat.le_refl _) _)
   have HM36 : Hid (Mj y36 Ml 0 (getL [])) := Lib.hid (by rw [← hG, ← hy]; exact Mj.made _)
   have HDM : Hid (w1.heap.size ≤ Ml ∧ Ml = y0.heap.size ∧ Ml < y36.heap.size) := Lib.hid ⟨by rw [← hG]; exact HB0.out.size, hG.symm, by rw [← hG, ← hy]; simp⟩
   have FB38 := Lib.hid (below_step HB0.out HX36.out)
   clear hy hG
   clear hHeld
   have hHeld := HSS.out _ FB38.out
   refine ready_at 2 rfl (by kernel_rfl) (fun K hK => ?_)
   go_simp
   refine (HN1.out _ FB38.out).mono ?_
   rintro ex y40 ⟨vi, SI, FI, rfl, hx, hs, hf, hb⟩
   have HX40 : Hid (Below y36.heap.size y36 y40) := Lib.hid hb
   have HI40 := Lib.hid hx
   have HDI : Hid (∃ lo hi, w1.heap.size ≤ lo ∧ lo ≤ hi ∧ hi = y40.heap.size ∧ lo = y36.heap.size ∧ (∀ b, SI b → lo ≤ b ∧ b < hi) ∧ ∀ b, FI b → N b ∨ (lo ≤ b ∧ b < hi)) := Lib.hid ⟨_, _, FB38.out.size, hb.size, rfl, rfl, fun b e => ⟨hs b e, HI.out.lt hx b (Or.inl e)⟩, fun b e => (hf b e).imp id fun e2 => ⟨e2, HI.out.lt hx b (Or.inr e)⟩⟩
   obtain ⟨bi, hvi⟩ := HPI.out _ _ _ _ _ hx
   subst hvi
   clear hx hs hf hb
   (try dsimp only)
   first
    | refine hK.out _ _ ?hS41 (fun hHeld => ?rr41)
    | (go_wp2_with fail; refine hK.out _ _ ?hS41 (fun hHeld => ?rr41))
   case hS41 => exact HSS.out _ (below_step FB38.out HX40.out)
   clear hK K
   (try simp only [PT])
   have FM42 := Lib.hid (Mj.later HM36.out HX40.out)
   have FB42 := Lib.hid (below_step FB38.out HX40.out)
   clear hHeld
   have hHeld := HSS.out _ FB42.out
   refine ready_at 5 rfl (by kernel_rfl) (fun K hK => ?_)
   go_simp
   refine (HN2.out _ FB42.out).mono ?_
   rintro ex y44 ⟨vt, ST, FT, rfl, hx, hs, hf, hb⟩
   have HX44 : Hid (Below y40.heap.size y40 y44) := Lib.hid hb
   have HT44 := Lib.hid hx
   have HDT : Hid (∃ lo hi, w1.heap.size ≤ lo ∧ lo ≤ hi ∧ hi = y44.heap.size ∧ lo = y40.heap.size ∧ (∀ b, ST b → lo ≤ b ∧ b < hi) ∧ ∀ b, FT b → N b ∨ (lo ≤ b ∧ b < hi)) := Lib.hid ⟨_, _, FB42.out.size, hb.size, rfl, rfl, fun b e => ⟨hs b e, HTO.out.lt hx b (Or.inl e)⟩, fun b e => (hf b e).imp id fun e2 => ⟨e2, HTO.out.lt hx b (Or.inr e)⟩⟩
   obtain ⟨bt, hvt⟩ := HPT.out _ _ _ _ _ hx
   subst hvt
   clear hx hs hf hb
   (try dsimp only)
   first
    | refine hK.out _ _ ?hS45 (fun hHeld => ?rr45)
    | (go_wp2_with fail; refine hK.out _ _ ?hS45 (fun hHeld => ?rr45))
   case hS45 => exact HSS.out _ (below_step FB42.out HX44.out)
   clear hK K
   (try simp only [PT])
   have FI46 := Lib.hid (HI.out.later HI40.out HX44.out)
   have FM46 := Lib.hid (Mj.later FM42.out HX44.out)
   have FB46 := Lib.hid (below_step FB42.out HX44.out)
   clear hHeld
   have hHeld := HSS.out _ FB46.out
   refine tk 7 rfl ?_;(try simp only [PT])
   refine ready_at 8 rfl (by kernel_rfl) (fun K hK => ?_)
   go_simp
   first
    | refine hK.out _ _ ?hS49 (fun hHeld => ?rr49)
    | (go_wp2_with fail; refine hK.out _ _ ?hS49 (fun hHeld => ?rr49))
   case hS49 => exact HSS.out _ (FB46.out.alloc FB46.out.size _)
   clear hK K
   (try simp only [PT])
   obtain ⟨yb, hy⟩ : ∃ X, y44.alloc (.cells #[.pointer (some ⟨bi, 0, none⟩), .pointer (some ⟨bt, 0, none⟩), .map (some Ml)] 95) = X := ⟨_, rfl⟩
   rw [hy]
   obtain ⟨B, hG⟩ : ∃ x, y44.heap.size = x := ⟨_, rfl⟩
   rw [hG]
   have HXb : Hid (Below y44.heap.size y44 yb) := Lib.hid (by rw [← hy]; exact (Below.refl _ _).alloc (Nat.le_refl _) _)
   have HHb : Hid (Hst yb B (.pointer (some ⟨bi, 0, none⟩)) (.pointer (some ⟨bt, 0, none⟩)) Ml) := Lib.hid (by rw [← hG, ← hy]; exact heap_alloc_new _ _)
   have HDB : Hid (B = y44.heap.size) := Lib.hid hG.symm
   clear hy hG
   have FI50 := Lib.hid (HI.out.later FI46.out HXb.out)
   have FT50 := Lib.hid (HTO.out.later HT44.out HXb.out)
   have FM50 := Lib.hid (Mj.later FM46.out HXb.out)
   have FB50 := Lib.hid (below_step FB46.out HXb.out)
   clear hHeld
   have hHeld := HSS.out _ FB50.out
   refine tk 9 rfl ?_;(try simp only [PT])
   refine wpAnyH_done (by kernel_rfl) ?_ _
   go_wp2_with fail
   go_meet
   obtain ⟨lo1, hi1, a1, a2, a3, a4, a5, a6⟩ := HDI.out
   obtain ⟨lo2, hi2, b1, b2, b3, b4, b5, b6⟩ := HDT.out
   obtain ⟨m1, m2, m3⟩ := HDM.out
   have db := HDB.out
   have hnl := HNL.out
   have hw1 := HW1.out
   have s0 := HX36.out.size
   have s1 := HX40.out.size
   have s2 := HX44.out.size
   refine ⟨B, Ml, _, _, SI, FI, ST, FT, rfl, Lib.hid ⟨HHb.out, FI50.out, FT50.out, FM50.out, fun b hb => ?_, fun b hb => ⟨fun e => ?_, fun e => ?_⟩, fun b hb e => ?_, List.Pairwise.nil, HIN.out⟩, Lib.hid ⟨fun b hb => ?_, fun b hb => ?_⟩, FB50⟩
   ·rcases hb with e | e | e | e
    ·have := a5 b e; exact ⟨by omega, by omega⟩
    ·rcases a6 b e with e2 | e2
     ·have := hnl b e2; exact ⟨by omega, by omega⟩
     ·exact ⟨by omega, by omega⟩
    ·have := b5 b e; exact ⟨by omega, by omega⟩
    ·rcases b6 b e with e2 | e2
     ·have := hnl b e2; exact ⟨by omega, by omega⟩
     ·exact ⟨by omega, by omega⟩
   ·have := a5 b hb; have := b5 b e; omega
   ·have := a5 b hb
    rcases b6 b e with e2 | e2
    ·have := hnl b e2; omega
    ·omega
   ·have := b5 b hb
    rcases a6 b e with e2 | e2
    ·have := hnl b e2; omega
    ·omega
   ·rcases hb with e | e | e | e
    ·omega
    ·omega
    ·have := a5 b e; omega
    ·have := b5 b e; omega
   ·rcases hb with e | e
    ·exact (a6 b e).imp id fun e2 => by omega
    ·exact (b6 b e).imp id fun e2 => by omega
 case rest =>
  obtain ⟨B, Ml, vi, vt, SI, FI, ST, FT, rfl, HZ, HD, HBC⟩ := hcut
  have z6 := HSL.out _ HBC.out
  have HBW := Lib.hid (below_step HB1.out HBC.out)
  have HZ0 : Hid (Sz0 Ix Tx wc B Ml 0 vi vt SI FI ST FT ⟨newE (peL D), newT (ptL T), newL ((psL K).take 0)⟩) := Lib.hid HZ.out
  have hll := HLL.out
  clear hmm
  go_wp2
  clear z6
  go_loopw [18] (fun j wr => ∃ (k : Nat), k ≤ l ∧ j = .int .i64 (k : Int) ∧ Hid (Sz0 Ix Tx wr B Ml k vi vt SI FI ST FT ⟨newE (peL D), newT (ptL T), newL ((psL K).take k)⟩) ∧ Hid (Below w.heap.size w wr)) (fun j _ => l - (intZ j).toNat)
  case atStart => exact ⟨0, by omega, rfl, HZ0, HBW⟩
  case round =>
   clear HZ0 HZ
   obtain ⟨k, hkn, rfl, HZ, HB⟩ := hrel
   by_cases hlt : k < l
   ·as_aux_lemma =>
    obtain ⟨b1, off, rfl, l0, l1, l2⟩ := (HKG.out wr HB.out).lo k hlt
    obtain ⟨y, hy⟩ : ∃ y, K[k]? = some y := ⟨_, List.getElem?_eq_getElem (by have := HKL.out; unfold psL at this; rw [List.length_map] at this; omega)⟩
    have hkd : K.getD k (0, 0, 0) = y := by rw [List.getD_eq_getElem?_getD, hy]; rfl
    rw [hkd] at l0 l1 l2
    have hpy : (psL K)[k]? = some (y.1, y.2.1) := by unfold psL; rw [List.getElem?_map, hy]; rfl
    have HYR := Lib.hid (HKR.out _ (List.mem_of_getElem? hpy))
    have HT := Lib.hid (znewL_step hpy)
    obtain ⟨y1, y2, y3⟩ := y
    dsimp only at *
    have HPU := Lib.hid (getL_put HZ.out.r y1 y2)
    have hki : (k : Int) < (l : Int) := by omega
    have hk0 : (0 : Int) ≤ (k : Int) := by omega
    have HKN : Hid (k ≤ 4194304) := Lib.hid (by omega)
    obtain ⟨wB, hwB⟩ : ∃ W, wr.alloc (.cells #[.int .i64 y1, .int .i64 y2, .int .i64 y3] 97) = W := ⟨_, rfl⟩
    obtain ⟨G, hG⟩ : ∃ z, wr.heap.size = z := ⟨_, rfl⟩
    have hbB : Below wr.heap.size wr wB := by rw [← hwB]; exact (Below.refl _ _).alloc (Nat.le_refl _) _
    have HZB := Lib.hid (HZ.out.later HI.out HTO.out hbB)
    have HBB := Lib.hid (below_step HB.out hbB)
    have hgB : wB.heap[G]? = some (.cells #[.int .i64 y1, .int .i64 y2, .int .i64 y3] 97 (0, 0)) := by rw [← hwB, ← hG]; exact heap_alloc_new _ _
    have g0' : wB.cell? ⟨G, 0, none⟩ = some (.int .i64 y1) := cell_of_row _ _ 0 _ _ _ hgB
    have g1' : wB.cell? ⟨G, 1, none⟩ = some (.int .i64 y2) := cell_of_row _ _ 1 _ _ _ hgB
    have c2 := HZB.out.h.cells.2.2
    clear hy hkd hpy hbB hgB
    go_upto_region 5 with fail
    refine wp_region_x (fun W : World => W.cell? ⟨B, 2, none⟩ = some (.map (some Ml)) ∧ W.cell? ⟨G, 0, none⟩ = some (.int .i64 y1) ∧ W.cell? ⟨G, 1, none⟩ = some (.int .i64 y2)) 8 (by kernel_rfl) ?_
    have hHeld : (fun W : World => W.cell? ⟨B, 2, none⟩ = some (.map (some Ml)) ∧ W.cell? ⟨G, 0, none⟩ = some (.int .i64 y1) ∧ W.cell? ⟨G, 1, none⟩ = some (.int .i64 y2)) _ := (show (fun W : World => W.cell? ⟨B, 2, none⟩ = some (.map (some Ml)) ∧ W.cell? ⟨G, 0, none⟩ = some (.int .i64 y1) ∧ W.cell? ⟨G, 1, none⟩ = some (.int .i64 y2)) wB.drew from ⟨c2, g0', g1'⟩)
    refine tkx 0 rfl ?_;(try simp only [PT]);refine tkx 1 rfl ?_;(try simp only [PT]);refine tkx 2 rfl ?_;(try simp only [PT]);refine tkx 3 rfl ?_;(try simp only [PT]);refine tkx 4 rfl ?_;(try simp only [PT]);refine tkx 5 rfl ?_;(try simp only [PT]);refine tkx 6 rfl ?_;(try simp only [PT]);refine tkx 7 rfl ?_;(try simp only [PT])
    refine lastx 8 rfl (by kernel_rfl) (by kernel_rfl) (fun K hK => ?_)
    rw [if_pos (by rfl)]
    refine wp_putJ _ _ _ rfl Ml k _ y1 y2 rfl (HZB.out.m.later (Below.refl _ _).drew) HKN.out rfl rfl HYR.out.1 HYR.out.2 ?_
    intro w5 hm5 hg5
    dsimp only at hm5
    rw [HPU.out, ← HT.out] at hm5
    have HZ5 := Lib.hid ((HZB.out.later HI.out HTO.out (Below.refl _ _).drew).put HI.out HTO.out hm5 hg5 (by rw [HT.out]; exact loadP_row HZ.out.r _ _ _) (HINS.out _))
    have HB5 : Hid (Below w.heap.size w w5) := Lib.hid ((HBB.out.drew).grown hg5 HBB.out.size (fun j hj => by injection hj with hj; rw [← hj]; exact HD.out.1 Ml (Or.inr (Or.inl rfl))))
    clear hm5 hg5
    first
     | refine hK.out _ _ ?_
     | (go_wp2_with fail; refine hK.out _ _ ?_)
    clear hK K hHeld
    go_wp2
    exact ⟨⟨k + 1, by omega, by go_num, HZ5, HB5⟩, by simp [intZ] <;> omega⟩
   ·as_aux_lemma =>
    obtain rfl : k = l := by omega
    have HTK : Hid ((psL K).take k = psL K) := Lib.hid (List.take_of_length_le (by rw [HKL.out]; exact Nat.le_refl _))
    rw [HTK.out] at HZ
    have HR : Hid (NewSQ (Sx0 Ix Tx) w N (newS (peL D) (ptL T) (psL K)) (.returned (.pointer (some ⟨B, 0, none⟩))) wr) := Lib.hid ⟨_, fun b => b = B ∨ b = Ml ∨ SI b ∨ ST b, fun b => FI b ∨ FT b, rfl, ⟨B, Ml, k, vi, vt, SI, FI, ST, FT, rfl, HZ.out, fun _ => Iff.rfl, fun _ => Iff.rfl⟩, HD.out.1, HD.out.2, HB.out⟩
    clear HZ hlt
    go_wp2
    go_ret
    exact HR.out
end Go.Proofs.YtpfbfhigelbfcaaGreat
namespace Go.Proofs.YtpfbfhigelbfcaaGreat
open Go.RowKit Go.Lib
variable {Ix : World → (Nat → Prop) → (Nat → Prop) → Value → List Pe → Prop} {Tx : World → (Nat → Prop) → (Nat → Prop) → Value → List Pt → Prop}
theorem sizeSnap : (Tryz.prog.info? 27).map (·.size) = some 7 := by kernel_rfl
theorem snZero : SnC 0 0 0 0 (.slice none 0 0) (.slice none 0 0) (.slice none 0 0) = #[.int .i64 0, .int .i64 0, .int .i64 0, .int .u64 0, .slice none 0 0, .slice none 0 0, .slice none 0 0] := rfl
theorem built_snap (p q r : Option Addr) (n m l c d cr : Nat) : Tryz.prog.built 27 [(4, .slice p n c), (5, .slice q m d), (6, .slice r l cr)] = some (SnC 0 0 0 0 (.slice p n c) (.slice q m d) (.slice r l cr)) := by kernel_rfl
set_option maxRecDepth 100000 in
set_option maxHeartbeats 4000000 in
theorem zsnap_any (hI : IdxOk Ix) (hT : TagOk Tx) {w : World} {B M n : Nat} {vi vt : Value} {SI FI ST FT F : Nat → Prop} {x : Ps} (h : Sz0 Ix Tx w B M n vi vt SI FI ST FT x) (hF : ∀ b, F b ↔ FI b ∨ FT b) (hf : x.Few) :
 Calls Tryz.prog 15 #[.pointer (some ⟨B, 0, none⟩)] w fun e w' => SnapSQ w F x e w' := by
 obtain ⟨w1, hw1⟩ : ∃ W, w.alloc (.cells (SnC 0 0 0 0 (.slice none 0 0) (.slice none 0 0) (.slice none 0 0)) 27) = W := ⟨_, rfl⟩
 obtain ⟨g1, hg1⟩ : ∃ z, w.heap.size = z := ⟨_, rfl⟩
 have hb1 : Below w.heap.size w w1 := by rw [← hw1]; exact (Below.refl _ _).alloc (Nat.le_refl _) _
 have HB1 := Lib.hid hb1
 have HZ1 : Hid (w1.heap[g1]? = some (.cells (SnC 0 0 0 0 (.slice none 0 0) (.slice none 0 0) (.slice none 0 0)) 27 (0, 0))) := Lib.hid (by rw [← hw1, ← hg1]; exact heap_alloc_new _ _)
 have HGS : Hid (w.heap.size = g1 ∧ g1 < w1.heap.size) := Lib.hid ⟨hg1, by rw [← hw1, ← hg1]; simp⟩
 have HS := Lib.hid fun W (hW : Below w1.heap.size w1 W) => (h.later hI hT hb1).later hI hT hW
 have HRW := Lib.hid fun W (hW : Below w1.heap.size w1 W) => hI.row ((h.later hI hT hb1).later hI hT hW).i (by have := hf.n; omega)
 have HRT := Lib.hid fun W (hW : Below w1.heap.size w1 W) => hT.row ((h.later hI hT hb1).later hI hT hW).t (by have := hf.n; omega)
 have HLO := Lib.hid fun W (hW : Below w1.heap.size w1 W) => zloads_any (F := F) hI hT ((h.later hI hT hb1).later hI hT hW) hf
 have HFL := Lib.hid fun b (hb : FI b ∨ FT b) => hb.elim (fun e => hI.lt h.i b (Or.inr e)) (fun e => hT.lt h.t b (Or.inr e))
 have HF := Lib.hid hF
 have HBL := Lib.hid h.h.lt
 have HSS : Hid (∀ W, Below w1.heap.size w1 W → (W.cell? ⟨B, 0, none⟩ = some vi ∧ W.cell? ⟨B, 1, none⟩ = some vt)) := Lib.hid fun W hW => ⟨(HS.out W hW).h.cells.1, (HS.out W hW).h.cells.2.1⟩
 obtain ⟨c0, c1, c2⟩ := (h.later hI hT hb1).h.cells
 rw [snZero] at hw1
 clear h hI hT hf hF hb1
 go_enter Tryz.func15, Tryz.ntmps15
 go_upto_region 3 with fail
 refine wp_region_held_drew (S := (fun W : World => W.cell? ⟨B, 0, none⟩ = some vi ∧ W.cell? ⟨B, 1, none⟩ = some vt)) (by kernel_rfl) (HSS.out _ (Below.refl _ _).drew) (fun hHeld => ?_)
 refine tk 0 rfl ?_;(try simp only [PT]);refine tk 1 rfl ?_;(try simp only [PT]);refine tk 2 rfl ?_;(try simp only [PT]);refine tk 3 rfl ?_;(try simp only [PT]);refine tk 5 rfl ?_;(try simp only [PT]);refine tk 6 rfl ?_;(try simp only [PT]);refine tk 7 rfl ?_;(try simp only [PT]);refine tk 8 rfl ?_;(try simp only [PT]);refine tk 10 rfl ?_;(try simp only [PT])
 refine ready_at 4 rfl (by kernel_rfl) (fun K hK => ?_)
 go_simp
 refine (HRW.out _ (Below.refl _ _).drew).mono ?_
 rintro ex w2 ⟨p, n2, c, D, N1, rfl, hpe, hr, hn, hs1, hs2, hs3, hb⟩
 have HB2 : Hid (Below w1.heap.size w1 w2) := Lib.hid (below_step (Below.refl _ _).drew hb)
 have HP2 := Lib.hid (And.intro hpe (And.intro hr (And.intro hn (SlOk.mk3 hs1 hs2 hs3))))
 clear hpe hr hn hs1 hs2 hs3 hb hHeld
 (try dsimp only)
 first
  | refine hK.out _ _ ?hS10 (fun hHeld => ?rest10)
  | (go_wp2_with fail; refine hK.out _ _ ?hS10 (fun hHeld => ?rest10))
 case hS10 => exact HSS.out _ HB2.out
 clear hK K
 (try simp only [PT])
 refine ready_at 9 rfl (by kernel_rfl) (fun K hK => ?_)
 go_simp
 refine (HRT.out _ HB2.out).mono ?_
 rintro ex w3 ⟨q, m3, d, T, N2, rfl, hpe, hr, hn, hs1, hs2, hs3, hb⟩
 have HB23 := Lib.hid hb
 have HB3 : Hid (Below w1.heap.size w1 w3) := Lib.hid (below_step HB2.out hb)
 have HP3 := Lib.hid (And.intro hpe (And.intro hr (And.intro hn (SlOk.mk3 hs1 hs2 hs3))))
 clear hpe hr hn hs1 hs2 hs3 hb hHeld
 (try dsimp only)
 first
  | refine hK.out _ _ ?hS11 (fun hHeld => ?rest11)
  | (go_wp2_with fail; refine hK.out _ _ ?hS11 (fun hHeld => ?rest11))
 case hS11 => exact HSS.out _ HB3.out
 clear hK K
 (try simp only [PT])
 refine ready_at 11 rfl (by kernel_rfl) (fun K hK => ?_)
 go_simp
 refine (HLO.out _ HB3.out).mono ?_
 rintro ex w4 ⟨r, l, cr, rfl, hg, hi, hs, hb⟩
 have HB34 := Lib.hid hb
 have HB4 : Hid (Below w1.heap.size w1 w4) := Lib.hid (below_step HB3.out hb)
 have HP4 := Lib.hid (And.intro hg (And.intro hi hs))
 clear hg hi hs hb hHeld
 (try dsimp only)
 first
  | refine hK.out _ _ ?hS12 (fun hHeld => ?rest12)
  | (go_wp2_with fail; refine hK.out _ _ ?hS12 (fun hHeld => ?rest12))
 case hS12 => exact HSS.out _ HB4.out
 clear hK K
 (try simp only [PT])
 refine tkL 12 rfl (yieldsIf_build (by rfl) 27 #[(4, .tmp 10), (5, .tmp 15), (6, .tmp 17)] rfl (SnC 0 0 0 0 (.slice p n2 c) (.slice q m3 d) (.slice r l cr)) (by first | exact built_snap p q r n2 m3 l c d cr | (simp only [List.map_toArray, List.map_cons, List.map_nil]; exact built_snap p q r n2 m3 l c d cr))) ?_
 (try simp only [PT])
 refine ready_at 13 rfl (by kernel_rfl) (fun K hK => ?_)
 rw [if_pos (by rfl)]
 have HZ4 : Hid (w4.heap[g1]? = some (.cells (SnC 0 0 0 0 (.slice none 0 0) (.slice none 0 0) (.slice none 0 0)) 27 (0, 0))) := Lib.hid ((HB4.out.block g1 HGS.out.2).trans HZ1.out)
 refine wp_store_row 27 _ _ rfl g1 (SnC 0 0 0 0 (.slice p n2 c) (.slice q m3 d) (.slice r l cr)) rfl rfl 27 _ HZ4.out sizeSnap rfl (by simp [SnC, Value.oneCell']) ?_
 have HM6 : Hid ((w4.setRow g1 (SnC 0 0 0 0 (.slice p n2 c) (.slice q m3 d) (.slice r l cr))).heap[g1]? = some (.cells (SnC 0 0 0 0 (.slice p n2 c) (.slice q m3 d) (.slice r l cr)) 27 (0, 0))) := Lib.hid (setRow_heap _ _ _ _ _ _ HZ4.out)
 generalize hw6 : World.setRow _ _ _ = w6 at HM6 ⊢
 have HB6 : Hid (Below w.heap.size w w6) := Lib.hid (by rw [← hw6]; exact below_setRow8 (below_step HB1.out HB4.out) _ _ (by have := HGS.out; omega))
 have HK6 : Hid (∀ b, b ≠ g1 → w6.heap[b]? = w4.heap[b]?) := Lib.hid fun b hb => by rw [← hw6]; exact setRow_other _ _ _ _ hb
 have HZ6 : Hid (w6.heap.size = w4.heap.size) := Lib.hid (by rw [← hw6]; simp)
 clear hw6
 refine hK.out _ _ ?hS14 (fun hHeld => ?rest14)
 case hS14 => exact ⟨((HS.out w4 HB4.out).h.same (HK6.out B (by have := HGS.out; have := HBL.out; omega))).cells.1, ((HS.out w4 HB4.out).h.same (HK6.out B (by have := HGS.out; have := HBL.out; omega))).cells.2.1⟩
 clear hK K
 (try simp only [PT])
 refine wpAnyH_done (by kernel_rfl) ?_ _
 go_wp2
 refine bodyPost_ret (results_cell_row rfl _ w6 g1 _ _ _ _ rfl HM6.out Tryz.underlying27 rfl sizeSnap) rfl ?_
 have hN1 : ∀ b, N1 b → FI b ∨ w1.heap.size ≤ b := HP2.out.2.2.1
 have hN2 : ∀ b, N2 b → FT b ∨ w1.heap.size ≤ b := fun b hb => (HP3.out.2.2.1 b hb).imp id (fun h1 => Nat.le_trans HB2.out.size h1)
 have hne : ∀ b, (N1 b ∨ N2 b) → b ≠ g1 := fun b hb e => by
  have hg := HGS.out
  rcases hb with hb | hb
  ·rcases hN1 b hb with h1 | h1
   ·have := HFL.out b (Or.inl h1); omega
   ·omega
  ·rcases hN2 b hb with h1 | h1
   ·have := HFL.out b (Or.inr h1); omega
   ·omega
 have hsz : w4.heap.size ≤ w6.heap.size := Nat.le_of_eq HZ6.out.symm
 have hr1 := ((HP2.out.2.1.later HB23.out).later HB34.out).hold (W' := w6) (fun b hb => HK6.out b (hne b (Or.inl hb))) hsz
 have hr2 := (HP3.out.2.1.later HB34.out).hold (W' := w6) (fun b hb => HK6.out b (hne b (Or.inr hb))) hsz
 have hlt : ∀ b, (N1 b ∨ N2 b) → b < w6.heap.size := fun b hb => hb.elim (hr1.lt b) (hr2.lt b)
 have hin : In1 w F r l := fun hn b off hp => (HP4.out.2.1 hn b off hp).imp id (fun h1 => Nat.le_trans HB1.out.size (Nat.le_trans HB3.out.size h1))
 refine ⟨p, n2, c, D, q, m3, d, T, r, l, cr, fun b => N1 b ∨ N2 b, rfl, HP2.out.1, HP3.out.1, hr1.mono (fun b hb => Or.inl hb) hlt, hr2.mono (fun b hb => Or.inr hb) hlt, HP4.out.1.hold fun hn b off hp => HK6.out b (fun e => ?_), fun b hb => ?_, hin, HP2.out.2.2.2, HP3.out.2.2.2, HP4.out.2.2, HB6.out⟩
 ·have hg := HGS.out
  rcases HP4.out.2.1 hn b off hp with h1 | h1
  ·have := HFL.out b ((HF.out b).1 h1); omega
  ·have := HB3.out.size; omega
 ·have h0 := HB1.out.size
  rcases hb with hb | hb
  ·exact (hN1 b hb).imp (fun h1 => (HF.out b).2 (Or.inl h1)) (fun h1 => Nat.le_trans h0 h1)
  ·exact (hN2 b hb).imp (fun h1 => (HF.out b).2 (Or.inr h1)) (fun h1 => Nat.le_trans h0 h1)
end Go.Proofs.YtpfbfhigelbfcaaGreat

