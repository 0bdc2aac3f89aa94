/- Layer 22, the program: what lives in a segment, in its order (Here) -/
import Derived.Test.YtpfbfhigelbfcaaGreatSd24
import Derived.Test.YtpfbfhigelbfcaaGreatSd28
import Derived.Test.YtpfbfhigelbfcaaGreatSd29
set_option linter.unusedSimpArgs false
set_option linter.unusedVariables false
namespace Go.Proofs.YtpfbfhigelbfcaaGreat
open Go.RowKit Go.Lib
variable {Ix : World → (Nat → Prop) → (Nat → Prop) → Value → List Pe → Prop} {Tx : World → (Nat → Prop) → (Nat → Prop) → Value → List Pt → Prop}
theorem inan_any (a : Int) (w : World) : Calls Tryz.prog 96 #[.int .i64 a] w fun e w' => e = .returned (.bool false) ∧ w' = w := by
 go_enter Tryz.func96, Tryz.ntmps96
 go_wp2
 go_ret
 exact ⟨by simp, rfl⟩
def cmpZ (a b : Int) : Int := if a < b then -1 else if b < a then 1 else 0
theorem icmp_any (a b : Int) (w : World) : Calls Tryz.prog 59 #[.int .i64 a, .int .i64 b] w fun e w' => e = .returned (.int .i64 (cmpZ a b)) ∧ w' = w := by
 have HC := Lib.hid inan_any
 by_cases h1 : a < b
 ·have HR : Hid (cmpZ a b = -1) := Lib.hid (by unfold cmpZ; rw [if_pos h1])
  go_enter Tryz.func59, Tryz.ntmps59
  go_wp2_with (go_at_call 96; refine (HC.out _ _).mono ?_; rintro ex w1 ⟨rfl, rfl⟩)
  go_ret
  exact ⟨by rw [HR.out]; rfl, rfl⟩
 by_cases h2 : b < a
 ·have HR : Hid (cmpZ a b = 1) := Lib.hid (by unfold cmpZ; rw [if_neg h1, if_pos h2])
  go_enter Tryz.func59, Tryz.ntmps59
  go_wp2_with (go_at_call 96; refine (HC.out _ _).mono ?_; rintro ex w1 ⟨rfl, rfl⟩)
  go_ret
  exact ⟨by rw [HR.out]; rfl, rfl⟩
 ·have HR : Hid (cmpZ a b = 0) := Lib.hid (by unfold cmpZ; rw [if_neg h1, if_neg h2])
  go_enter Tryz.func59, Tryz.ntmps59
  go_wp2_with (go_at_call 96; refine (HC.out _ _).mono ?_; rintro ex w1 ⟨rfl, rfl⟩)
  go_ret
  exact ⟨by rw [HR.out]; rfl, rfl⟩
set_option maxRecDepth 100000 in
set_option maxHeartbeats 1000000 in
theorem closW (x y : Wx) (w : World) : Calls Tryz.prog 58 #[.agg (mixC x.1.a x.1.dg x.1.t), .agg (mixC y.1.a y.1.dg y.1.t)] w fun e w' => e = .returned (.int .i64 (cmpZ x.1.off y.1.off)) ∧ ∃ q os', w' = Go.Sort.grow (w.drewN q) os' := by
 have HC := Lib.hid (icmp_any x.1.off y.1.off)
 obtain ⟨w0, w2, g1, hw0, hw2, hg1, hX⟩ := box2 w (mixC x.1.a x.1.dg x.1.t) (mixC y.1.a y.1.dg y.1.t) 39 39
 have HQ : Hid (∃ q os', w2 = Go.Sort.grow (w.drewN q) os') := Lib.hid ⟨0, #[.cells (mixC x.1.a x.1.dg x.1.t) 39] ++ #[.cells (mixC y.1.a y.1.dg y.1.t) 39], by rw [← hw2, ← hw0, ← Go.Sort.grow_grow]; rfl⟩
 have c0 : w2.cell? ⟨w.heap.size, 37, none⟩ = some (.int .i64 x.1.off) := Mx.last (show Wm w2 w.heap.size x.1 from hX.a) x.2 3 _ rfl
 have c1 : w2.cell? ⟨g1, 37, none⟩ = some (.int .i64 y.1.off) := Mx.last (show Wm w2 g1 y.1 from hX.z) y.2 3 _ rfl
 obtain ⟨MA, hMA⟩ : ∃ M, mixC x.1.a x.1.dg x.1.t = M := ⟨_, rfl⟩
 obtain ⟨MB, hMB⟩ : ∃ M, mixC y.1.a y.1.dg y.1.t = M := ⟨_, rfl⟩
 rw [hMA] at hw0 ⊢
 rw [hMB] at hw2 ⊢
 generalize cmpZ x.1.off y.1.off = R at *
 generalize x.1.off = a at *
 generalize y.1.off = b at *
 clear hX hMA hMB
 go_enter Tryz.func58, Tryz.ntmps58
 go_wp2_with (go_at_call 59; refine (HC.out _).mono ?_; rintro ex w3 ⟨rfl, rfl⟩)
 go_ret
 exact ⟨rfl, HQ.out⟩
instance : Inhabited Wx := ⟨⟨wq0, rfl⟩⟩
def keyW (x : Wx) : Int := x.1.off
theorem ltW (x y : Wx) : ltOf (fun x y : Wx => cmpZ x.1.off y.1.off) x y = decide (keyW x < keyW y) := by
 unfold ltOf cmpZ keyW
 by_cases h1 : x.1.off < y.1.off
 ·simp [h1]
 ·by_cases h2 : y.1.off < x.1.off
  ·simp [h1, h2]
  ·simp [h1, h2]
set_option maxRecDepth 100000 in
theorem zsort_any (B n c : Nat) (p : Option Addr) (L : List Wx) (w : World) (h : Gw encWd w B (.slice p n c) L) (hB : B ≤ w.heap.size) (hn : n ≤ 1048576) :
 Calls Tryz.prog 57 #[.slice p n c, .func (.func 58) #[] #[]] w fun e w' => e = .returned (.tuple #[]) ∧ Gw encWd w' B (.slice p n c) (sortK keyW L) ∧ Below B w w' := by
 have hlen := h.len
 cases p with
 | none =>
   have hn0 : n = 0 := by
    by_cases h0 : n = 0
    ·exact h0
    ·obtain ⟨g, hg⟩ := h.ptr (by omega); cases hg
   subst hn0
   obtain rfl : L = [] := List.length_eq_zero_iff.1 hlen
   have HI : Hid (∀ W, Calls Tryz.prog 124 #[.slice none 0 c, .int .i64 0, .int .i64 0, .func (.func 58) #[] #[]] W fun e w' => e = .returned (.tuple #[]) ∧ w' = W) := Lib.hid fun W => by
    go_enter Tryz.func124, Tryz.ntmps124
    go_wp2
    refine wp_loop_rounds 1 ?_
    rw [rounds_succ]
    go_wp2
    go_end0
    exact ⟨rfl, rfl⟩
   have HB : Hid (∀ W, Calls Tryz.prog 95 #[.slice none 0 c, .int .i64 0, .func (.func 58) #[] #[]] W fun e w' => e = .returned (.tuple #[]) ∧ w' = W) := Lib.hid fun W => by
    go_enter Tryz.func95, Tryz.ntmps95
    go_wp2
    refine wp_loop_rounds 1 ?_
    rw [rounds_succ]
    go_wp2_with (go_at_call 124; refine (HI.out _).mono ?_; rintro ex w1 ⟨rfl, rfl⟩)
    refine wp_loop_rounds 1 ?_
    rw [rounds_succ]
    go_wp2
    go_end0
    exact ⟨rfl, rfl⟩
   have HR : Hid (Gw encWd w B (.slice none 0 c) (sortK keyW []) ∧ Below B w w) := Lib.hid ⟨h, Below.refl _ _⟩
   clear h
   go_enter Tryz.func57, Tryz.ntmps57
   go_wp2_with (go_at_call 95; refine (HB.out _).mono ?_; rintro ex w1 ⟨rfl, rfl⟩)
   go_end0
   exact ⟨rfl, HR.out⟩
 | some ad =>
   obtain ⟨g, rfl⟩ : ∃ g, ad = ⟨g, 0, none⟩ := by
    rcases h.2 with ⟨hv, h0⟩ | ⟨g, cap', cur, hv, _⟩
    ·cases hv
    ·simp only [Value.slice.injEq, Option.some.injEq] at hv; exact ⟨g, hv.1⟩
   obtain ⟨hnl, hBg, hc, hm, cur, hg, hs, ht⟩ := h.block
   have hsz : L.toArray.size = n := by simp [hnl]
   have E : StbEnv Tryz.prog 39 encWd.f keyW (fun x y : Wx => cmpZ x.1.off y.1.off) 58 #[] g 0 n w :=
    { hk := encWd.len
      h1 := encWd.one
      eg := enters_of Tryz.func58 (by kernel_rfl) rfl
      hcmp := fun m os dk hdk x y => closW x y _
      hH := ⟨L.toArray, hsz, holdsE h⟩
      hblk := (Array.getElem?_eq_some_iff.1 hg).1
      hsz := by omega
      hlt := ltW }
   have hw : w = sortWorldK encWd.f 39 w g 0 0 L.toArray #[] := by
    unfold sortWorldK
    rw [Go.Sort.grow_empty]
    exact (Go.Sort.putRowK_self encWd.f 39 w g 0 L.toArray (holdsE h)).symm
   have hcon := sstable_any stbL E c L (by rw [← hsz]; simp) (by omega) 0 #[]
   rw [← hw] at hcon
   refine Calls.mono hcon ?_
   rintro e w' ⟨rfl, m, os, rfl⟩
   obtain ⟨h1, h2⟩ := sorted_gw h hB (sortK keyW L).toArray (by simp [sortK_length, hnl]) m os
   rw [List.toList_toArray] at h1
   exact ⟨rfl, h1, h2⟩
theorem hereW {o : List Wx} {x : Ps} {s : Int} (h : wxL o = (zwL x).filter fun y => decide (y.seg = s)) : wxL (sortK keyW o) = hereP x s := by
 rw [hereP_sort, ← h]
 exact sortK_map (fun y : Wx => y.1) (fun y : Wq => y.off) o
set_option maxRecDepth 100000 in
set_option maxHeartbeats 4000000 in
theorem zhere_any (hI : IdxOk Ix) (hT : TagOk Tx) {w : World} {B M n : Nat} {vi vt : Value} {SI FI ST FT F : Nat → Prop} {x : Ps} (s : Int) (h : Sz0 Ix Tx w B M n vi vt SI FI ST FT x) (hf : x.Few) :
 Calls Tryz.prog 17 #[.pointer (some ⟨B, 0, none⟩), .int .i64 s] w fun e w' => HereSQ w F (hereP x s) e w' := by
 have HLI := Lib.hid (zlive_any hI hT h hf)
 have HLN : Hid ((zwL x).length ≤ 1048576) := Lib.hid (Nat.le_trans (zwL_len x) hf.n)
 clear h hI hT hf
 go_enter Tryz.func17, Tryz.ntmps17
 go_wp2_with (go_at_call 56; refine HLI.out.mono ?_; rintro ex w1 ⟨v1, o1, rfl, hg1, ho1, hb1⟩; obtain ⟨p, c, hv1, _⟩ := hg1.open; obtain ⟨m, hm⟩ : ∃ z, o1.length = z := ⟨_, rfl⟩; rw [hm] at hv1; subst hv1; have HG1 := Lib.hid hg1; have HO1 := Lib.hid ho1; have HB1 := Lib.hid hb1; have HM := Lib.hid hm; clear hg1 ho1 hb1 hm)
 have HMM : Hid (m ≤ 1048576) := Lib.hid (by have h1 := congrArg List.length HO1.out; rw [wxL_length, HM.out] at h1; rw [h1]; exact HLN.out)
 have hmm := HMM.out
 have HI0 : Hid (HeI w1 w1 (((zwL x).take 0).filter fun y => decide (y.seg = s)) (.slice none 0 0) []) := Lib.hid ⟨Gw.nil _ _ _, rfl, Below.refl _ _⟩
 go_loopw [5, 13] (fun v j wr => ∃ (k : Nat) (t : Option Addr) (a c' : Nat) (o : List Wx), k ≤ m ∧ j = .int .i64 (k : Int) ∧ v = .slice t a c' ∧ Hid (HeI w1 wr (((zwL x).take k).filter fun y => decide (y.seg = s)) (.slice t a c') o)) (fun _ j _ => m - (intZ j).toNat)
 case atStart => exact ⟨0, none, 0, 0, [], by omega, rfl, rfl, HI0⟩
 case round =>
  clear HI0
  obtain ⟨k, t, a, c', o, hkn, rfl, rfl, HI⟩ := hrel
  by_cases hlt : k < m
  ·as_aux_lemma =>
   obtain ⟨b1, off, y, rfl, hy1, hy3, hr⟩ := (HG1.out.gs.later HI.out.le).wx k hlt
   have HLY := Lib.hid (wx_load hr)
   have HYG : Hid ((zwL x)[k]? = some y.1) := Lib.hid (by rw [← HO1.out]; exact wxL_get hy1)
   have HT : Hid ((((zwL x).take (k + 1)).filter fun z => decide (z.seg = s)) = if y.1.seg = s then (((zwL x).take k).filter fun z => decide (z.seg = s)) ++ [y.1] else (((zwL x).take k).filter fun z => decide (z.seg = s))) := Lib.hid (by
    obtain ⟨h2, h3⟩ := List.getElem?_eq_some_iff.1 HYG.out
    rw [List.take_succ_eq_append_getElem h2, h3, List.filter_append]
    by_cases hh : y.1.seg = s
    ·rw [if_pos hh, List.filter_cons_of_pos (by simpa using hh)]; rfl
    ·rw [if_neg hh, List.filter_cons_of_neg (by simpa using hh)]; simp)
   have HOL : Hid (o.length + 1 ≤ 2097216) := Lib.hid (by have h1 := List.length_filter_le (fun z : Wq => decide (z.seg = s)) ((zwL x).take k); rw [List.length_take] at h1; rw [HI.out.len]; have := HMM.out; omega)
   have hki : (k : Int) < (m : Int) := by omega
   have hk0 : (0 : Int) ≤ (k : Int) := by omega
   clear hr hy1 hy3
   go_upto_region 7 with (first
    | (refine wpList_ld rfl 39 _ rfl _ rfl _ HLY.out ?_)
    | (refine wpList_store_row rfl 39 _ _ rfl wr.heap.size (mixC y.1.a y.1.dg y.1.t) rfl rfl 39 _ (heap_alloc_new _ _) (y.1.sizeOf y.2) (Wq.sizes wq0 y.1 rfl y.2) y.1.one ?_; generalize hw5 : World.setRow _ _ _ = w5))
   obtain ⟨hm5, hb5⟩ := wd_lay rfl hw5
   obtain ⟨g5, hg5⟩ : ∃ g, wr.heap.size = g := ⟨_, rfl⟩
   rw [hg5] at hm5
   rw [hg5]
   have HI5 : Hid (HeI w1 w5 (((zwL x).take k).filter fun y => decide (y.seg = s)) (.slice t a c') o) := Lib.hid ⟨HI.out.gw.later hb5, HI.out.eq, below_step HI.out.le hb5⟩
   have HLX := Lib.hid (Wm.load hm5 y.2)
   have l0 : w5.cell? ⟨g5, 36, none⟩ = some (.int .i64 y.1.seg) := Mx.last hm5 y.2 2 _ rfl
   clear hm5 hb5 hw5 hg5
   by_cases hs : y.1.seg = s
   ·have hsb : (y.1.seg == s) = true := by simpa using hs
    have HTT : Hid ((((zwL x).take (k + 1)).filter fun z => decide (z.seg = s)) = (((zwL x).take k).filter fun z => decide (z.seg = s)) ++ [y.1]) := Lib.hid (by rw [HT.out, if_pos hs])
    obtain ⟨MW, hMW⟩ : ∃ M, mixC y.1.a y.1.dg y.1.t = M := ⟨_, rfl⟩
    have HMW := Lib.hid hMW
    rw [hMW] at HLX
    clear hMW hs
    generalize y.1.seg = sg at *
    go_wp2_with (first
     | (refine wpList_ld rfl 39 _ rfl _ rfl _ HLX.out ?_)
     | (refine wpList_build_wd rfl 50 23 rfl Tryz.underlying50 y (by rw [HMW.out]; rfl) ?_; have HI6 : Hid (HeI w1 (w5.alloc (.cells (mixC y.1.a y.1.dg y.1.t) 39)) (((zwL x).take k).filter fun y => decide (y.seg = s)) (.slice t a c') o) := Lib.hid ⟨HI5.out.gw.alloc _, HI5.out.eq, below_step HI5.out.le ((Below.refl _ _).alloc (Nat.le_refl _) _)⟩; have HN6 := Lib.hid (Gs.oneWd w5 y); rw [HMW.out] at HI6 HN6; rw [HMW.out])
     | (refine wpList_append_gen encWd rfl _ _ 50 rfl Tryz.underlying50 wzero 96 infoWd wzero_size (by decide) w1.heap.size _ _ rfl HI6.out.gw _ 1 1 [y] rfl HN6.out (fun h => by cases h) HOL.out HI6.out.le.size ?_; intro v8 w8 ho8 hg8; have HI8 : Hid (HeI w1 w8 ((((zwL x).take k).filter fun z => decide (z.seg = s)) ++ [y.1]) v8 (o ++ [y])) := Lib.hid ⟨ho8, by rw [← HI6.out.eq]; unfold wxL; rw [List.map_append]; rfl, below_new_gw HI6.out.le HI6.out.gw hg8 HI6.out.le.size⟩; obtain ⟨p8, c8, hv8, _⟩ := ho8.open; obtain ⟨m8, hm8⟩ : ∃ z, List.length (o ++ [y]) = z := ⟨_, rfl⟩; rw [hm8] at hv8; subst hv8; clear ho8 hg8 hm8))
    exact ⟨⟨k + 1, _, _, _, _, by omega, by go_num, rfl, by rw [HTT.out]; exact HI8⟩, by simp [intZ] <;> omega⟩
   ·have hsb : (y.1.seg == s) = false := by simpa using hs
    have HTT : Hid ((((zwL x).take (k + 1)).filter fun z => decide (z.seg = s)) = (((zwL x).take k).filter fun z => decide (z.seg = s))) := Lib.hid (by rw [HT.out, if_neg hs])
    clear hs
    generalize y.1.seg = sg at *
    go_wp2
    exact ⟨⟨k + 1, _, _, _, _, by omega, by go_num, rfl, by rw [HTT.out]; exact HI5⟩, by simp [intZ] <;> omega⟩
  ·as_aux_lemma =>
   obtain rfl : k = m := by omega
   have HTK : Hid ((zwL x).take k = zwL x) := Lib.hid (List.take_of_length_le (by rw [← HO1.out, wxL_length, HM.out]; exact Nat.le_refl _))
   rw [HTK.out] at HI
   have HAL : Hid (o.length = a) := Lib.hid HI.out.gw.len
   have HSO := Lib.hid (zsort_any w1.heap.size a c' t o wr HI.out.gw HI.out.le.size (by rw [← HAL.out, HI.out.len]; exact Nat.le_trans (List.length_filter_le _ _) HLN.out))
   have HEQ := Lib.hid (hereW HI.out.eq)
   have HLE := Lib.hid HI.out.le
   clear HI hlt
   go_wp2_with (go_at_call 57; refine HSO.out.mono ?_; rintro ex w4 ⟨rfl, hg4, hb4⟩; have HG4 := Lib.hid hg4; have HB4 := Lib.hid hb4; clear hg4 hb4)
   go_ret
   obtain ⟨p5, c5, hv5, h1, h2, h3, h4⟩ := HG4.out.open
   simp only [Value.slice.injEq] at hv5
   obtain ⟨rfl, hl5, rfl⟩ := hv5
   refine ⟨t, a, c', sortK keyW o, rfl, HEQ.out, HG4.out.gs, fun hn b off hp => Or.inr ?_, ⟨h4, by omega, h2⟩, HB1.out.trans ((HLE.out.trans HB4.out).mono HB1.out.size)⟩
   subst hp
   have h5 := Gw.own_lt HG4.out (b := b) rfl
   exact Nat.le_trans HB1.out.size h5.1
end Go.Proofs.YtpfbfhigelbfcaaGreat

