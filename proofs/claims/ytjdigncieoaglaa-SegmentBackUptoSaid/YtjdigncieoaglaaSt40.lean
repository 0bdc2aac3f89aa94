/- Layer 16, the laws: SegmentBack -/
import Derived.Test.YtjdigncieoaglaaSt11
import Derived.Test.YtjdigncieoaglaaSt28
import Derived.Test.YtjdigncieoaglaaSt30
import Derived.Test.YtjdigncieoaglaaSt39
set_option linter.unusedSimpArgs false
set_option linter.unusedVariables false
namespace Go.Proofs.Ytjdigncieoaglaa
set_option linter.unusedVariables false
open Go.RowKit Go.Lib

theorem wordN_k (r : Rc) (seg off len : Int) : (wordN r seg off len).k = r.k := by unfold wordN; split <;> rfl
theorem wordN_seg (r : Rc) (seg off len : Int) : (wordN r seg off len).seg = seg := by unfold wordN; split <;> rfl
theorem wordN_off (r : Rc) (seg off len : Int) : (wordN r seg off len).off = off := by unfold wordN; split <;> rfl
theorem wordN_len (r : Rc) (seg off len : Int) : (wordN r seg off len).len = len := by unfold wordN; split <;> rfl
def whV (n s : Int) (p : Option Addr) (m c : Nat) (sl : Bool) : Value := .agg #[.int .i64 n, .int .u64 s, .slice p m c, .bool sl]
/-- a word's cells -/
theorem word_cells {W : World} {b o : Nat} {x : Wx} (h : W.rangeAt b o (mixL x.1.a x.1.dg x.1.t)) :
    W.cell? ⟨b, o, none⟩ = some (.int .i64 x.1.k) ∧ W.cell? ⟨b, o + 1, none⟩ = some (.int .u64 x.1.s) ∧ W.cell? ⟨b, o + 36, none⟩ = some (.int .i64 x.1.seg) ∧ W.cell? ⟨b, o + 37, none⟩ = some (.int .i64 x.1.off) ∧ W.cell? ⟨b, o + 38, none⟩ = some (.int .i64 x.1.len) := by
  have hg : ∀ j v, x.1.t[j]? = some v → W.cell? ⟨b, o + (34 + j), none⟩ = some v := fun j v hv => h (34 + j) v (by
    have hd := x.2
    unfold mixL
    rw [List.getElem?_append_right (by show 2 ≤ 34 + j; omega), List.getElem?_append_right (by rw [List.length_map, hd]; show 32 ≤ 34 + j - 2; omega), List.length_map, hd]
    rw [show 34 + j - x.1.a.length - 32 = j by show 34 + j - 2 - 32 = j; omega]
    exact hv)
  exact ⟨h 0 _ rfl, h 1 _ rfl, hg 2 _ rfl, hg 3 _ rfl, hg 4 _ rfl⟩
/-- what is told of the record (i, j) of a segment that was built -/
structure Tells (B : List Int) (n : Int) (r : Rc) (x : Wq) : Prop where
  k : x.k = r.k
  seg : x.seg = n
  e : rpE B x.off = 0
  r : rpR B x.off = bareN (r.num x.s)
  n : rpN B x.off = x.off + x.len

set_option maxRecDepth 100000 in
set_option maxHeartbeats 1000000 in
theorem segback_any (hH : csHeadOk) (hS : csScanOk) (n s : Int) (pl : Option Addr) (ml cl : Nat) (LL : List Rr) (sl : Bool) (w : World) (h : Gs encRr w pl ml LL) (hf : ∀ x ∈ LL, x.Fit w) (hm : ml ≤ 1048576) (hbl : (buB n s (rcLL LL) sl).length ≤ 2097216) (hn : -9223372036854775808 ≤ n ∧ n ≤ 9223372036854775807) (hs : 0 ≤ s ∧ s < 18446744073709551616) :
    Calls Try.prog 5 #[whV n s pl ml cl sl] w fun e w' => e = .returned (.bool true) ∧ Below w.heap.size w w' := by
  have HLV := Lib.hid fun W => lives16_any hH hS W
  obtain ⟨wA, hA⟩ : ∃ W, w.alloc (.cells #[.int .i64 n, .int .u64 s, .slice pl ml cl, .bool sl] 44) = W := ⟨_, rfl⟩
  have HRA : Hid (wA.heap[w.heap.size]? = some (.cells #[.int .i64 n, .int .u64 s, .slice pl ml cl, .bool sl] 44 (0, 0))) := Lib.hid (by rw [← hA]; exact heap_alloc_new _ _)
  have HBA : Hid (Below w.heap.size w wA) := Lib.hid (by rw [← hA]; exact (Below.refl _ _).alloc (Nat.le_refl _) _)
  have HBU := Lib.hid (rbuild_any n s pl ml cl LL sl wA (h.later HBA.out) (fun x hx => (hf x hx).later HBA.out) hm hn hs)
  have HLL := Lib.hid h
  have HF := Lib.hid hf
  have HLS : Hid ((rcLL LL).length = ml) := Lib.hid (by rw [rcLL_length, h.len])
  have hokl : ∀ l ∈ rcLL LL, (∀ r ∈ l, r.Ok) ∧ l.length < 4294967296 ∧ (framesN l 0).length < 4294967296 := fun l hl => by
    obtain ⟨x, hx, rfl⟩ := List.mem_map.1 hl
    have h1 := hf x hx
    exact ⟨rcL_ok fun y hy => (h1.rcs y hy).1, by rw [rcL_length, h1.gs.len]; have := h1.len; omega, by have := h1.fr; omega⟩
  have HBK := Lib.hid fun hE (h40 : s ≤ 1099511627776) => bu_back (n := n) (s := s) (ls := rcLL LL) (sl := sl) hE hs.1 h40 (fun l hl => (hokl l hl).1) (fun l hl => (hokl l hl).2.1) (fun l hl => (hokl l hl).2.2)
  have HPG := Lib.hid fun i j l r (h1 : (rcLL LL)[i]? = some l) (h2 : l[j]? = some r) => segPos_get h1 h2 (s + 1) ((makeN (headN n s)).length : Int)
  have HPR := Lib.hid fun k => segPos_rise (rcLL LL) (s + 1) ((makeN (headN n s)).length : Int) k
  have HPL := Lib.hid (segPos_length (rcLL LL) (s + 1) ((makeN (headN n s)).length : Int))
  have HTK := Lib.hid fun i l (h1 : (rcLL LL)[i]? = some l) => segM_take_succ h1
  generalize buE n s (rcLL LL) sl = E at *
  obtain ⟨B, hB⟩ : ∃ B, buB n s (rcLL LL) sl = B := ⟨_, rfl⟩
  rw [hB] at HBU HBK hbl
  obtain ⟨BN, hBN⟩ : ∃ q, B.length = q := ⟨_, rfl⟩
  have HBN := Lib.hid hBN
  rw [hBN] at HBK hbl
  obtain ⟨r0, r1, r2, r3, _⟩ := row4 HRA.out
  unfold whV
  clear h hf hH hokl hB hBN
  by_cases hz : E = 0
  · subst hz
    by_cases h40 : s > 1099511627776
    · go_enter Try.func5, Try.ntmps5
      go_wp2_with (first
        | (go_at_call 15; refine HBU.out.mono ?_; rintro ex w1 ⟨v1, rfl, ho1, hb1⟩; have HB1 := Lib.hid (below_step HBA.out hb1); obtain ⟨x0, x1, x2, x3, _⟩ := row4 (row_later HRA.out hb1); clear ho1 hb1)
        | (go_at_call 11; refine (HLV.out _).mono ?_; rintro ex w8 ⟨rfl, hb8⟩; have HB8 := Lib.hid (below_step HB1.out hb8); clear hb8))
      go_ret
      exact ⟨rfl, HB8.out⟩
    · obtain ⟨hws, he, hat, hsl, herr, hst⟩ := HBK.out (by first | rfl | trivial) (by omega)
      have HSC := Lib.hid fun (p : Option Addr) (cap : Nat) W (hW : Bs W p BN B) (h1 : p = none → cap = 0) (h2 : BN ≤ cap) (h3 : cap ≤ maxLen) => hS p BN cap B n W hW h1 h2 h3 hbl hn
      have HST := Lib.hid hst
      unfold ScQ scanV at HSC
      generalize scF B n = F at *
      obtain ⟨ws, sq, fe, fsl, fat, ferr⟩ := F
      dsimp only at hws he hat hsl herr HSC
      have hsl2 := hsl.symm
      clear hsl
      subst he hat hsl2 herr
      have HWS := Lib.hid hws
      clear hws hst hS HBK
      go_enter Try.func5, Try.ntmps5
      go_upto_region 7 with (first
        | (go_at_call 15; refine HBU.out.mono ?_; rintro ex w1 ⟨v1, rfl, ho1, hb1⟩; have HX1 := Lib.hid hb1; have HB1 := Lib.hid (below_step HBA.out hb1); obtain ⟨x0, x1, x2, x3, _⟩ := row4 (row_later HRA.out hb1); obtain ⟨p1, c1, hv1, hlc1, hcm1, hbs1, hpc1⟩ := ho1.open; rw [HBN.out] at hv1 hlc1 hbs1; subst hv1; have HD1 := Lib.hid hbs1; have HC1 := Lib.hid (And.intro hpc1 (And.intro hlc1 hcm1)); clear ho1 hb1 hbs1 hpc1 hlc1 hcm1)
        | (go_at_call 13; refine (HSC.out p1 c1 _ HD1.out HC1.out.1 HC1.out.2.1 HC1.out.2.2).mono ?_; rintro ex w4 ⟨q, m, c, L, rfl, hg4, hl4, hk4, hmc4, hcc4, hpc4, hm4, hb4⟩; (try dsimp only); have hbx : Below w4.heap.size w4 (w4.alloc (.cells #[.slice q m c, .int .u64 sq, .int .i64 (BN : Int), .bool sl, .int .i64 (BN : Int), .int .i64 0] 39)) := (Below.refl _ _).alloc (Nat.le_refl _) _; have HX4 := Lib.hid (below_step HX1.out (below_step hb4 hbx)); obtain ⟨y0, y1, y2, y3, _⟩ := row4 (row_later HRA.out HX4.out); have HD4 := Lib.hid (HD1.out.later (below_step hb4 hbx)); have HG4 := Lib.hid (hg4.later hbx); have HL4 := Lib.hid hl4; have HK4 := Lib.hid hk4; have HM4 := Lib.hid hm4; clear hg4 hl4 hk4 hmc4 hcc4 hpc4 hm4 hb4 hbx))
      obtain ⟨wX, hX⟩ : ∃ W, (w4.alloc (.cells #[.slice q m c, .int .u64 sq, .int .i64 (BN : Int), .bool sl, .int .i64 (BN : Int), .int .i64 0] 39)) = W := ⟨_, rfl⟩
      have HS5 : Hid (Sm wX w4.heap.size (.slice q m c) sq BN sl BN 0) := Lib.hid (by rw [← hX]; exact heap_alloc_new _ _)
      rw [hX] at HX4 HD4 HG4
      rw [hX]
      clear y0 y1 y2 y3 x0 x1 x2 x3 r0 r1 r2 r3 hA hX
      obtain ⟨g5, hg5⟩ : ∃ g, w4.heap.size = g := ⟨_, rfl⟩
      rw [hg5] at HS5
      rw [hg5]
      clear hg5
      have HBX := Lib.hid (below_step HBA.out HX4.out)
      -- what each word tells
      have HM : Hid (m = segM (rcLL LL)) := Lib.hid (by rw [← HG4.out.len, ← wdL_length L, show wdL L = ws from HL4.out, HWS.out, posW_length, HPL.out])
      have HWT := Lib.hid fun i j l r (h1 : (rcLL LL)[i]? = some l) (h2 : l[j]? = some r) => (show ∃ (b o : Nat) (x : Wx), q = some ⟨b, o, none⟩ ∧ segM ((rcLL LL).take i) + j < m ∧ Tells B n r x.1 ∧ x.1.Ok ∧ (∀ W, Below wX.heap.size wX W → W.rangeAt b (o + (segM ((rcLL LL).take i) + j) * 39) (mixL x.1.a x.1.dg x.1.t)) ∧ (∀ k', segM ((rcLL LL).take i) + j = k' + 1 → ∃ s0, s0 < x.1.s ∧ ∀ W, Below wX.heap.size wX W → W.cell? ⟨b, o + k' * 39 + 1, none⟩ = some (.int .u64 s0)) from by
        obtain ⟨s', a', hp⟩ := HPG.out i j l r h1 h2
        have hlt : segM ((rcLL LL).take i) + j < m := by
          have h9 := (List.getElem?_eq_some_iff.1 hp).1
          rw [HPL.out] at h9
          rw [HM.out]
          exact h9
        obtain ⟨b, o, x, hq, hx, hxm, hr⟩ := HG4.out.word _ hlt
        have hwd : x.1.wd = wordN (bareN (r.num s')) n a' (makeN (r.num s')).length := by
          have h8 := posW_get (n := n) hp
          rw [← HWS.out, ← show wdL L = ws from HL4.out] at h8
          unfold wdL at h8
          rw [List.getElem?_map, hx] at h8
          simpa using h8
        have hk := congrArg Wd.k hwd
        have hs' := congrArg Wd.s hwd
        have hsg := congrArg Wd.seg hwd
        have hof := congrArg Wd.off hwd
        have hle := congrArg Wd.len hwd
        rw [wordN_k, bareN_k] at hk
        rw [wordN_s, bareN_num_s] at hs'
        rw [wordN_seg] at hsg
        rw [wordN_off] at hof
        rw [wordN_len] at hle
        have hk1 : x.1.k = r.k := hk
        have hs1 : x.1.s = s' := hs'
        have hsg1 : x.1.seg = n := hsg
        have hof1 : x.1.off = a' := hof
        have hle1 : x.1.len = ((makeN (r.num s')).length : Int) := hle
        obtain ⟨z1, z2, z3⟩ := HST.out _ (List.mem_of_getElem? hp)
        dsimp only at z1 z2 z3
        refine ⟨b, o, x, hq, hlt, ⟨hk1, hsg1, by rw [hof1]; exact z1, by rw [hof1, hs1]; exact z2, by rw [hof1, hle1]; exact z3⟩, HK4.out x hxm, fun W hW => range_later hr hW, fun k' hk' => ?_⟩
        have hlt' : k' < m := by omega
        obtain ⟨b2, o2, x2, hq2, hx2, _, hr2⟩ := HG4.out.word k' hlt'
        rw [hq] at hq2
        simp only [Option.some.injEq, Addr.mk.injEq, and_true] at hq2
        obtain ⟨rfl, rfl⟩ := hq2
        obtain ⟨p2, hp2⟩ : ∃ p2, (segPos (rcLL LL) (s + 1) ((makeN (headN n s)).length : Int))[k']? = some p2 := ⟨_, List.getElem?_eq_getElem (by rw [HPL.out, ← HM.out]; exact hlt')⟩
        rw [hk'] at hp
        have hrise := HPR.out k' _ _ hp2 hp
        have hwd2 : x2.1.s = p2.1.s := by
          have h8 := posW_get (n := n) hp2
          rw [← HWS.out, ← show wdL L = ws from HL4.out] at h8
          unfold wdL at h8
          rw [List.getElem?_map, hx2] at h8
          simp only [Option.map_some, Option.some.injEq] at h8
          have h9 := congrArg Wd.s h8
          rw [wordN_s] at h9
          exact h9
        refine ⟨x2.1.s, by rw [hwd2, hs1]; exact hrise, fun W hW => ?_⟩
        exact range_later hr2 hW 1 (.int .u64 x2.1.s) rfl)
      have HRX := Lib.hid fun W (hW : Below wX.heap.size wX W) => (row4 (row_later HRA.out (below_step HX4.out hW)))
      have HGX := Lib.hid fun W (hW : Below wX.heap.size wX W) => (HS5.out.later hW).cells
      clear HPG HPR HST HWS HPL HBU HSC
      go_wp2
      go_loopw [6, 7] (fun kv iv wr => ∃ (i K : Nat), i ≤ ml ∧ iv = .int .i64 (i : Int) ∧ kv = .int .i64 (K : Int) ∧ Hid (K = segM ((rcLL LL).take i)) ∧ Hid (Below wX.heap.size wX wr)) (fun _ iv _ => ml - (intOf iv).toNat)
      case atStart => exact ⟨0, 0, by omega, rfl, rfl, Lib.hid (by simp [segM]), Lib.hid (Below.refl _ _)⟩
      case round =>
        obtain ⟨i, K0, hi, rfl, rfl, HK0, HB⟩ := hrel
        obtain ⟨u0, u1, u2, u3, _⟩ := HRX.out _ HB.out
        by_cases hlt : i < ml
        · obtain ⟨b, off, x, hp, hLk, hRk, hxm, hcell⟩ := (HLL.out.later (below_step HBX.out HB.out)).rr i hlt
          subst hp
          have hii : (i : Int) < (ml : Int) := by omega
          have HXF := Lib.hid (HF.out x hxm)
          have HXL : Hid ((rcL x.L).length = x.n) := Lib.hid (by rw [rcL_length]; exact HXF.out.gs.len)
          have HTI := Lib.hid (HTK.out i _ hRk)
          rw [← HK0.out, HXL.out] at HTI
          have HWI := Lib.hid fun j r h2 => HWT.out i j _ r hRk h2
          rw [← HK0.out] at HWI
          have HCI := Lib.hid fun W (hW : Below wX.heap.size wX W) => (show W.cell? ⟨b, off + i, none⟩ = some (.slice x.p x.n x.c) from by
            obtain ⟨x9, h91, _, _, h94⟩ := (HLL.out.later (below_step HBX.out hW)).rrAt i hlt
            rw [hLk] at h91
            simp only [Option.some.injEq] at h91
            subst h91
            exact h94)
          have hxn := HXF.out.len
          have HILT := Lib.hid hlt
          obtain ⟨xp, xn, xc, XL⟩ := x
          dsimp only at HXL HTI HWI HCI hxn hcell HXF
          clear hLk hRk hxm
          go_wp2
          go_loopw [6, 8] (fun kv jv wq => ∃ (j K : Nat), j ≤ xn ∧ jv = .int .i64 (j : Int) ∧ kv = .int .i64 (K : Int) ∧ Hid (K = K0 + j) ∧ Hid (Below wX.heap.size wX wq)) (fun _ jv _ => xn - (intOf jv).toNat)
          case atStart => exact ⟨0, K0, by omega, rfl, rfl, Lib.hid rfl, HB⟩
          case round =>
            obtain ⟨j, K, hj, rfl, rfl, HK, HBq⟩ := hrel
            obtain ⟨t0, t1, t2, t3, _⟩ := HRX.out _ HBq.out
            have hcell2 := HCI.out _ HBq.out
            by_cases hlt2 : j < xn
            · obtain ⟨b2, off2, y, hp2, hYj, hRj, hym, _, _⟩ := HXF.out.gs.rec j hlt2
              dsimp only at hp2
              subst hp2
              have hji : (j : Int) < (xn : Int) := by omega
              have HYF := Lib.hid (HXF.out.rcs y hym)
              obtain ⟨bw, ow, x, hq, hKm, HT, hxo, hrw, hprev⟩ := HWI.out j _ hRj
              subst hq
              rw [← HK.out] at hKm hrw hprev
              have hKi : (K : Int) < (m : Int) := by omega
              have HREC := Lib.hid fun W (hW : Below w.heap.size w W) => (show W.cell? ⟨b2, off2 + j * 38, none⟩ = some (.int .i64 y.1.k) ∧ W.rangeAt b2 (off2 + j * 38) (mixL y.1.a y.1.dg y.1.z) from by
                obtain ⟨y9, h91, _, _, h94, h95⟩ := ((HXF.out.later hW).gs).recAt j hlt2
                rw [hYj] at h91
                simp only [Option.some.injEq] at h91
                subst h91
                exact ⟨h94, h95⟩)
              have htk : x.1.k = y.1.k := HT.k
              have hts : x.1.seg = n := HT.seg
              have HTE := Lib.hid HT
              have HXO := Lib.hid hxo
              obtain ⟨OFF, hOFF⟩ : ∃ q, x.1.off = q := ⟨_, rfl⟩
              obtain ⟨LEN, hLEN⟩ : ∃ q, x.1.len = q := ⟨_, rfl⟩
              obtain ⟨SQ, hSQ⟩ : ∃ q, x.1.s = q := ⟨_, rfl⟩
              obtain ⟨YK, hYK⟩ : ∃ q, y.1.k = q := ⟨_, rfl⟩
              have HEV := Lib.hid fun W (hW : Below wX.heap.size wX W) => (show W.cell? ⟨g5, 0, none⟩ = some (.slice (some ⟨bw, ow, none⟩) m c) ∧ W.cell? ⟨b2, off2 + j * 38, none⟩ = some (.int .i64 YK) ∧ W.cell? ⟨bw, ow + K * 39, none⟩ = some (.int .i64 YK) ∧ W.cell? ⟨bw, ow + K * 39 + 1, none⟩ = some (.int .u64 SQ) ∧ W.cell? ⟨bw, ow + K * 39 + 36, none⟩ = some (.int .i64 n) ∧ W.cell? ⟨bw, ow + K * 39 + 37, none⟩ = some (.int .i64 OFF) ∧ W.cell? ⟨bw, ow + K * 39 + 38, none⟩ = some (.int .i64 LEN) from by
                have h1 := (HREC.out W (below_step HBX.out hW)).1
                obtain ⟨z0, z1, z2, z3, z4⟩ := word_cells (hrw W hW)
                rw [htk, hYK] at z0
                rw [hSQ] at z1
                rw [hts] at z2
                rw [hOFF] at z3
                rw [hLEN] at z4
                rw [hYK] at h1
                exact ⟨(HGX.out W hW).1, h1, z0, z1, z2, z3, z4⟩)
              have HJLT := Lib.hid hlt2
              have HPV := Lib.hid hprev
              rw [hSQ] at HPV
              have hTEr := HT.r
              have hTEe := HT.e
              have hTEn := HT.n
              rw [hOFF] at hTEr hTEe hTEn
              rw [hSQ] at hTEr
              rw [hLEN] at hTEn
              have HTR := Lib.hid hTEr
              have HTEE := Lib.hid hTEe
              have HTN := Lib.hid hTEn
              have HOB : Hid (-9223372036854775808 ≤ OFF ∧ OFF ≤ 9223372036854775807) := Lib.hid (by rw [← hOFF]; exact hxo.off)
              have HSB : Hid (0 ≤ SQ ∧ SQ < 18446744073709551616) := Lib.hid (by rw [← hSQ]; exact hxo.s)
              clear hrw hprev HT hxo htk hts hYj hRj hym hOFF hLEN hSQ hYK hTEr hTEe hTEn
              obtain ⟨a0, a1, a2, a3, a4, a5, a6⟩ := HEV.out _ HBq.out
              have HKI := Lib.hid hKi
              go_upto_region 14 with fail
              go_cut [132] (fun cv wx => cv = .bool false ∧ Hid (Below wX.heap.size wX wx))
              case first =>
                have hk1 : ¬ ((K : Int) ≥ (m : Int)) := by omega
                have hk2 : ¬ ((m : Int) ≤ (K : Int)) := by omega
                have hk3 : ¬ (m ≤ K) := by omega
                have hk4 : decide ((K : Int) ≥ (m : Int)) = false := decide_eq_false hk1
                have hk5 : decide ((m : Int) ≤ (K : Int)) = false := decide_eq_false hk2
                have hk6 : decide (m ≤ K) = false := decide_eq_false hk3
                by_cases hK0 : K = 0
                · have hpos : ¬ ((K : Int) > 0) := by omega
                  have hpos2 : ¬ (0 < K) := by omega
                  have hg1 : decide ((K : Int) > 0) = false := decide_eq_false hpos
                  have hg2 : decide (0 < (K : Int)) = false := decide_eq_false hpos
                  have hg3 : decide (0 < K) = false := decide_eq_false hpos2
                  clear hK0
                  go_quiet (fail)
                  have hBD : Below wr.heap.size wr (wr.drewN nq) := below_drewN (Below.refl _ _) _
                  go_wp2_with fail
                  go_meet
                  exact ⟨rfl, Lib.hid (below_step HBq.out hBD)⟩
                · obtain ⟨K', hK'⟩ : ∃ q, K = q + 1 := ⟨K - 1, by omega⟩
                  obtain ⟨s0, hs0, hc0⟩ := HPV.out K' hK'
                  have p0 := hc0 _ HBq.out
                  have hpos : (K : Int) > 0 := by omega
                  have hpos2 : 0 < K := by omega
                  have hg1 : decide ((K : Int) > 0) = true := decide_eq_true hpos
                  have hg2 : decide (0 < (K : Int)) = true := decide_eq_true hpos
                  have hg3 : decide (0 < K) = true := decide_eq_true hpos2
                  have hix : (K : Int) - 1 = (K' : Int) := by omega
                  have hKm' : (K' : Int) < (m : Int) := by omega
                  have hkmb := HM4.out
                  have hiw : IntKind.i64.wrap ((K : Int) - 1) = (K' : Int) := by simp [IntKind.wrap, IntKind.bits, IntKind.signed]; omega
                  have hiw2 : wrap64 ((K : Int) - 1) = (K' : Int) := by unfold wrap64; omega
                  have d0 : decide (SQ ≤ s0) = false := decide_eq_false (by omega)
                  clear hK0 hK' hs0 hc0
                  go_quiet (fail)
                  have hBD : Below wr.heap.size wr (wr.drewN nq) := below_drewN (Below.refl _ _) _
                  go_wp2_with fail
                  go_meet
                  exact ⟨rfl, Lib.hid (below_step HBq.out hBD)⟩
              case rest =>
                obtain ⟨rfl, HBc⟩ := hcut
                have HP14 := Lib.hid (rparse14_any p1 BN c1 B OFF wc (HD4.out.later HBc.out) HC1.out.1 HC1.out.2.1 HC1.out.2.2 hbl HOB.out)
                unfold RpQ at HP14
                rw [HTR.out, HTEE.out, HTN.out] at HP14
                have HYK := Lib.hid (show 1 ≤ y.1.k ∧ y.1.k ≤ 8 from by
                  obtain ⟨_, _, _, _, _, _, hh, _⟩ := rp_forth (show Byt B from HD4.out.byte) HTEE.out
                  rw [HTR.out] at hh
                  exact rightN_k hh)
                have HEND := Lib.hid (rp_next (show Byt B from HD4.out.byte) HTEE.out)
                rw [HTN.out, HBN.out] at HEND
                have hend := HEND.out
                obtain ⟨EN, hEN⟩ : ∃ q, OFF + LEN = q := ⟨_, rfl⟩
                have hw64 : wrap64 (OFF + LEN) = EN := by rw [← hEN]; unfold wrap64; omega
                have hwi : IntKind.i64.wrap (OFF + LEN) = EN := by rw [← hEN]; simp [IntKind.wrap, IntKind.bits, IntKind.signed]; omega
                rw [hEN] at HP14
                clear hEN hend HTN HEND
                obtain ⟨z0, z1, z2, z3, z4, z5, z6⟩ := HEV.out _ HBc.out
                go_upto_region 17 with (first
                  | (go_at_call 16; refine HP14.out.mono ?_; rintro ex w5 ⟨X, rfl, hf5, hr5, hb5⟩; have HF5 := Lib.hid hf5; have HR5 := Lib.hid hr5; have HB5 := Lib.hid (below_step HBc.out hb5); have HXD := Lib.hid hf5.dg.1; clear hf5 hr5 hb5)
                  | (refine wpList_store_row rfl 29 _ _ rfl w5.heap.size _ rfl rfl 29 _ (heap_alloc_new _ _) (Rq.sizeOf X HXD.out) (Rq.sizes rq0 X rfl HXD.out) X.one ?_; generalize hw6 : World.setRow _ _ _ = w6))
                obtain ⟨g9, hg9⟩ : ∃ g, w5.heap.size = g := ⟨_, rfl⟩
                have HB56 : Hid (Below w5.heap.size w5 w6) := Lib.hid (by rw [← hw6]; exact below_setRow8 ((Below.refl _ _).alloc (Nat.le_refl _) _) _ _ (Nat.le_refl _))
                have HR6 : Hid (Rm w6 g9 X) := Lib.hid (by rw [← hg9, ← hw6]; exact Mx.row (show Rm (w5.alloc (.cells (mixC rq0.a rq0.dg rq0.z) 29)) w5.heap.size rq0 from heap_alloc_new _ _))
                have HB6 := Lib.hid (below_step HB5.out HB56.out)
                have HX6 := Lib.hid (HF5.out.later HB56.out)
                rw [hg9]
                clear hw6 hg9 z0 z1 z2 z3 z4 z5 z6 a0 a1 a2 a3 a4 a5 a6 t0 t1 t2 t3 hcell2
                obtain ⟨t0, t1, t2, t3, _⟩ := HRX.out _ HB6.out
                have hcell2 := HCI.out _ HB6.out
                have HLR := Lib.hid (rec_load (HREC.out _ (below_step HBX.out HB6.out)).2)
                have HBR := Lib.hid (rbare_any y.1 w6 (HYF.out.1.later (below_step HBX.out HB6.out)) HYK.out)
                unfold Rq.v at HBR
                go_upto_region 18 with (first
                  | (refine wpList_ld rfl 29 _ rfl _ rfl _ HLR.out ?_)
                  | (go_at_call 17; refine HBR.out.mono ?_; rintro ex w7 ⟨Y, rfl, hf7, hr7, hb7⟩; have HF7 := Lib.hid hf7; have HR7 := Lib.hid hr7; have HX7 := Lib.hid hb7; have HB7 := Lib.hid (below_step HB6.out hb7); have HYD := Lib.hid hf7.dg.1; clear hf7 hr7 hb7)
                  | (refine wpList_store_row rfl 29 _ _ rfl w7.heap.size _ rfl rfl 29 _ (heap_alloc_new _ _) (Rq.sizeOf Y HYD.out) (Rq.sizes rq0 Y rfl HYD.out) Y.one ?_; generalize hw8 : World.setRow _ _ _ = w8))
                obtain ⟨g12, hg12⟩ : ∃ g, w7.heap.size = g := ⟨_, rfl⟩
                have HB78 : Hid (Below w7.heap.size w7 w8) := Lib.hid (by rw [← hw8]; exact below_setRow8 ((Below.refl _ _).alloc (Nat.le_refl _) _) _ _ (Nat.le_refl _))
                have HR8 : Hid (Rm w8 g12 Y) := Lib.hid (by rw [← hg12, ← hw8]; exact Mx.row (show Rm (w7.alloc (.cells (mixC rq0.a rq0.dg rq0.z) 29)) w7.heap.size rq0 from heap_alloc_new _ _))
                have HB8 := Lib.hid (below_step HB7.out HB78.out)
                have HGX12 : Hid (wX.heap.size ≤ g12) := Lib.hid (by rw [← hg12]; exact HB7.out.size)
                have HG612 : Hid (w6.heap.size ≤ g12) := Lib.hid (by rw [← hg12]; exact HX7.out.size)
                have HG712 : Hid (w7.heap.size ≤ g12) := Lib.hid (by rw [← hg12]; exact Nat.le_refl _)
                have HX68 := Lib.hid (below_step HX7.out HB78.out)
                rw [hg12]
                clear hw8 hg12 t0 t1 t2 t3 hcell2
                obtain ⟨z0, z1, z2, z3, z4, z5, z6⟩ := HEV.out _ HB8.out
                have cl1 := (HR8.out.cells HYD.out).2.1
                have fr1 := Mx.frozen HR8.out 1
                obtain ⟨w9, hw9⟩ : ∃ W, w8.setCell ⟨g12, 1, none⟩ (.int .u64 SQ) = W := ⟨_, rfl⟩
                obtain ⟨Y2, hY2⟩ : ∃ Z, { Y with s := SQ } = Z := ⟨_, rfl⟩
                have HR9 : Hid (Rm w9 g12 Y2) := Lib.hid (by rw [← hw9, ← hY2]; exact HR8.out.setS _)
                have HB9 : Hid (Below wX.heap.size wX w9) := Lib.hid (by rw [← hw9]; exact HB8.out.setCell (p := ⟨g12, 1, none⟩) HGX12.out _)
                have HX69 : Hid (Below w6.heap.size w6 w9) := Lib.hid (by rw [← hw9]; exact HX68.out.setCell (p := ⟨g12, 1, none⟩) HG612.out _)
                have HX79 : Hid (Below w7.heap.size w7 w9) := Lib.hid (by rw [← hw9]; exact HB78.out.setCell (p := ⟨g12, 1, none⟩) HG712.out _)
                have HF9 : Hid (Y2.Fit w9) := Lib.hid (by
                  have h1 := HF7.out.later HX79.out
                  rw [← hY2]
                  exact ⟨h1.bs, h1.pc, h1.nc, h1.cm, h1.dg, h1.nm, HSB.out, h1.k, h1.N, h1.Z⟩)
                have HFX9 := Lib.hid (HX6.out.later HX69.out)
                have HRC9 : Hid (X.rc = Y2.rc) := Lib.hid (by
                  rw [HR5.out, ← hY2]
                  show _ = { Y.rc with s := SQ }
                  rw [HR7.out]
                  rfl)
                have HY2D : Hid (Y2.dg.length = 32) := Lib.hid (by rw [← hY2]; exact HYD.out)
                have HSAME := Lib.hid fun W (hW : Below w9.heap.size w9 W) => rsame14_any X Y2 W (HFX9.out.later hW) (HF9.out.later hW) HRC9.out (Nat.le_trans HFX9.out.nc HFX9.out.cm)
                have HS19 := Lib.hid fun W (hW : Below w9.heap.size w9 W) => (show W.cell? ⟨g5, 0, none⟩ = some (.slice (some ⟨bw, ow, none⟩) m c) ∧ W.cell? ⟨bw, ow + K * 39 + 37, none⟩ = some (.int .i64 OFF) ∧ W.cell? ⟨bw, ow + K * 39 + 38, none⟩ = some (.int .i64 LEN) ∧ W.rangeAt g9 0 (mixL X.a X.dg X.z) ∧ W.rangeAt g12 0 (mixL Y2.a Y2.dg Y2.z) from by
                  obtain ⟨q0, _, _, _, _, q5, q6⟩ := HEV.out _ (below_step HB9.out hW)
                  exact ⟨q0, q5, q6, Mx.range (HR6.out.later (below_step HX69.out hW)), Mx.range (HR9.out.later hW)⟩)
                have HLA : Hid ((Try.prog.info? 29).map (·.size) = some (mixL X.a X.dg X.z).length) := Lib.hid (by rw [mixL_length, HXD.out]; exact size38)
                have HLB : Hid ((Try.prog.info? 29).map (·.size) = some (mixL Y2.a Y2.dg Y2.z).length) := Lib.hid (by rw [mixL_length, HY2D.out]; exact size38)
                go_upto_region 19 with fail
                clear cl1 fr1 z0 z1 z2 z3 z4 z5 z6 hw9 hY2
                unfold Rq.v mixC at HSAME
                obtain ⟨LA, hLA⟩ : ∃ l, mixL X.a X.dg X.z = l := ⟨_, rfl⟩
                obtain ⟨LB, hLB⟩ : ∃ l, mixL Y2.a Y2.dg Y2.z = l := ⟨_, rfl⟩
                rw [hLA, hLB] at HSAME HS19
                rw [hLA] at HLA
                rw [hLB] at HLB
                clear hLA hLB
                refine wp_region_held_drew (S := (fun W => W.cell? ⟨g5, 0, none⟩ = some (.slice (some ⟨bw, ow, none⟩) m c) ∧ W.cell? ⟨bw, ow + K * 39 + 37, none⟩ = some (.int .i64 OFF) ∧ W.cell? ⟨bw, ow + K * 39 + 38, none⟩ = some (.int .i64 LEN) ∧ W.rangeAt g9 0 LA ∧ W.rangeAt g12 0 LB)) (by kernel_rfl) (HS19.out _ (Below.refl _ _).drew) (fun hHeld => ?_)
                refine take_at 0 (v := ?vv1) rfl (by kernel_rfl) (by kernel_rfl) (by kernel_rfl) (fun _ _ _ h => h) (Or.inl ⟨by rfl, ?hy1⟩) (by assumption) ?rest1
                case hy1 => intro w hSw; (try dsimp only at hSw); go_simp; (try with_reducible rfl)
                (try simp only [Act.put, List.setIfInBounds_toArray, List.set_cons_zero, List.set_cons_succ])
                refine take_at 1 (v := ?vv2) rfl (by kernel_rfl) (by kernel_rfl) (by kernel_rfl) (fun _ _ _ h => h) (Or.inl ⟨by rfl, ?hy2⟩) (by assumption) ?rest2
                case hy2 => intro w hSw; (try dsimp only at hSw); go_simp; (try with_reducible rfl)
                (try simp only [Act.put, List.setIfInBounds_toArray, List.set_cons_zero, List.set_cons_succ])
                refine take_at 2 (v := ?vv3) rfl (by kernel_rfl) (by kernel_rfl) (by kernel_rfl) (fun _ _ _ h => h) (Or.inl ⟨by rfl, ?hy3⟩) (by assumption) ?rest3
                case hy3 => intro w hSw; (try dsimp only at hSw); go_simp; (try with_reducible rfl)
                (try simp only [Act.put, List.setIfInBounds_toArray, List.set_cons_zero, List.set_cons_succ])
                refine take_at 3 (v := ?vv4) rfl (by kernel_rfl) (by kernel_rfl) (by kernel_rfl) (fun _ _ _ h => h) (Or.inl ⟨by rfl, ?hy4⟩) (by assumption) ?rest4
                case hy4 => intro w hSw; (try dsimp only at hSw); go_simp; (try with_reducible rfl)
                (try simp only [Act.put, List.setIfInBounds_toArray, List.set_cons_zero, List.set_cons_succ])
                refine take_at 4 (v := ?vv5) rfl (by kernel_rfl) (by kernel_rfl) (by kernel_rfl) (fun _ _ _ h => h) (Or.inl ⟨by rfl, ?hy5⟩) (by assumption) ?rest5
                case hy5 => intro w hSw; (try dsimp only at hSw); go_simp; (try with_reducible rfl)
                (try simp only [Act.put, List.setIfInBounds_toArray, List.set_cons_zero, List.set_cons_succ])
                refine take_at 5 (v := ?vv6) rfl (by kernel_rfl) (by kernel_rfl) (by kernel_rfl) (fun _ _ _ h => h) (Or.inl ⟨by rfl, ?hy6⟩) (by assumption) ?rest6
                case hy6 => intro w hSw; (try dsimp only at hSw); go_simp; (try with_reducible rfl)
                (try simp only [Act.put, List.setIfInBounds_toArray, List.set_cons_zero, List.set_cons_succ])
                refine take_at 6 (v := ?vv7) rfl (by kernel_rfl) (by kernel_rfl) (by kernel_rfl) (fun _ _ _ h => h) (Or.inl ⟨by rfl, ?hy7⟩) (by assumption) ?rest7
                case hy7 => intro w hSw; (try dsimp only at hSw); go_simp; (try with_reducible rfl)
                (try simp only [Act.put, List.setIfInBounds_toArray, List.set_cons_zero, List.set_cons_succ])
                refine take_at 7 (v := ?vv8) rfl (by kernel_rfl) (by kernel_rfl) (by kernel_rfl) (fun _ _ _ h => h) (Or.inl ⟨by rfl, ?hy8⟩) (by assumption) ?rest8
                case hy8 => intro w hSw; (try dsimp only at hSw); go_simp; (try with_reducible rfl)
                (try simp only [Act.put, List.setIfInBounds_toArray, List.set_cons_zero, List.set_cons_succ])
                refine take_at 8 (v := ?vv9) rfl (by kernel_rfl) (by kernel_rfl) (by kernel_rfl) (fun _ _ _ h => h) (Or.inl ⟨by rfl, ?hy9⟩) (by assumption) ?rest9
                case hy9 => intro w hSw; (try dsimp only at hSw); go_simp; (try with_reducible rfl)
                (try simp only [Act.put, List.setIfInBounds_toArray, List.set_cons_zero, List.set_cons_succ])
                refine take_at 9 (v := ?vv10) rfl (by kernel_rfl) (by kernel_rfl) (by kernel_rfl) (fun _ _ _ h => h) (Or.inl ⟨by rfl, ?hy10⟩) (by assumption) ?rest10
                case hy10 => intro w hSw; (try dsimp only at hSw); go_simp; (try with_reducible rfl)
                (try simp only [Act.put, List.setIfInBounds_toArray, List.set_cons_zero, List.set_cons_succ])
                refine take_at 10 (v := ?vv11) rfl (by kernel_rfl) (by kernel_rfl) (by kernel_rfl) (fun _ _ _ h => h) (Or.inl ⟨by rfl, ?hy11⟩) (by assumption) ?rest11
                case hy11 => intro w hSw; (try dsimp only at hSw); go_simp; (try with_reducible rfl)
                (try simp only [Act.put, List.setIfInBounds_toArray, List.set_cons_zero, List.set_cons_succ])
                refine take_at 11 (v := ?vv12) rfl (by kernel_rfl) (by kernel_rfl) (by kernel_rfl) (fun _ _ _ h => h) (Or.inl ⟨by rfl, ?hy12⟩) (by assumption) ?rest12
                case hy12 => intro w hSw; (try dsimp only at hSw); go_simp; (try with_reducible rfl)
                (try simp only [Act.put, List.setIfInBounds_toArray, List.set_cons_zero, List.set_cons_succ])
                refine take_at 12 (v := ?vv13) rfl (by kernel_rfl) (by kernel_rfl) (by kernel_rfl) (fun _ _ _ h => h) (Or.inl ⟨by rfl, ?hy13⟩) (by assumption) ?rest13
                case hy13 => intro w hSw; (try dsimp only at hSw); go_simp; (try with_reducible rfl)
                (try simp only [Act.put, List.setIfInBounds_toArray, List.set_cons_zero, List.set_cons_succ])
                refine take_at 13 (v := ?vv14) rfl (by kernel_rfl) (by kernel_rfl) (by kernel_rfl) (fun _ _ _ h => h) (Or.inl ⟨by rfl, ?hy14⟩) (by assumption) ?rest14
                case hy14 => intro w hSw; (try dsimp only at hSw); go_simp; (try with_reducible rfl)
                (try simp only [Act.put, List.setIfInBounds_toArray, List.set_cons_zero, List.set_cons_succ])
                refine take_at 14 (v := ?vv15) rfl (by kernel_rfl) (by kernel_rfl) (by kernel_rfl) (fun _ _ _ h => h) (Or.inl ⟨by rfl, ?hy15⟩) (by assumption) ?rest15
                case hy15 => intro w hSw; (try dsimp only at hSw); go_simp; (try with_reducible rfl)
                (try simp only [Act.put, List.setIfInBounds_toArray, List.set_cons_zero, List.set_cons_succ])
                refine take_at 15 (v := ?vv16) rfl (by kernel_rfl) (by kernel_rfl) (by kernel_rfl) (fun _ _ _ h => h) (Or.inl ⟨by rfl, ?hy16⟩) (by assumption) ?rest16
                case hy16 => intro w hSw; (try dsimp only at hSw); go_simp; (try with_reducible rfl)
                (try simp only [Act.put, List.setIfInBounds_toArray, List.set_cons_zero, List.set_cons_succ])
                refine take_at 16 (v := ?vv17) rfl (by kernel_rfl) (by kernel_rfl) (by kernel_rfl) (fun _ _ _ h => h) (Or.inl ⟨by rfl, ?hy17⟩) (by assumption) ?rest17
                case hy17 => intro w hSw; (try dsimp only at hSw); go_simp; (try with_reducible rfl)
                (try simp only [Act.put, List.setIfInBounds_toArray, List.set_cons_zero, List.set_cons_succ])
                refine take_at 17 (v := ?vv18) rfl (by kernel_rfl) (by kernel_rfl) (by kernel_rfl) (fun _ _ _ h => h) (Or.inl ⟨by rfl, ?hy18⟩) (by assumption) ?rest18
                case hy18 => intro w hSw; (try dsimp only at hSw); go_simp; (try with_reducible rfl)
                (try simp only [Act.put, List.setIfInBounds_toArray, List.set_cons_zero, List.set_cons_succ])
                refine take_at 18 (v := ?vv19) rfl (by kernel_rfl) (by kernel_rfl) (by kernel_rfl) (fun _ _ _ h => h) (Or.inl ⟨by rfl, ?hy19⟩) (by assumption) ?rest19
                case hy19 => intro w hSw; (try dsimp only at hSw); go_simp; (try with_reducible rfl)
                (try simp only [Act.put, List.setIfInBounds_toArray, List.set_cons_zero, List.set_cons_succ])
                refine take_at 19 (v := ?vv20) rfl (by kernel_rfl) (by kernel_rfl) (by kernel_rfl) (fun _ _ _ h => h) (Or.inl ⟨by rfl, ?hy20⟩) (by assumption) ?rest20
                case hy20 => intro w hSw; (try dsimp only at hSw); go_simp; (try with_reducible rfl)
                (try simp only [Act.put, List.setIfInBounds_toArray, List.set_cons_zero, List.set_cons_succ])
                refine take_at 20 (v := ?vv21) rfl (by kernel_rfl) (by kernel_rfl) (by kernel_rfl) (fun _ _ _ h => h) (Or.inl ⟨by rfl, ?hy21⟩) (by assumption) ?rest21
                case hy21 => intro w hSw; (try dsimp only at hSw); go_simp; (try with_reducible rfl)
                (try simp only [Act.put, List.setIfInBounds_toArray, List.set_cons_zero, List.set_cons_succ])
                refine take_at 21 (v := ?vv22) rfl (by kernel_rfl) (by kernel_rfl) (by kernel_rfl) (fun _ _ _ h => h) (Or.inl ⟨by rfl, ?hy22⟩) (by assumption) ?rest22
                case hy22 => intro w hSw; (try dsimp only at hSw); go_simp; (try with_reducible rfl)
                (try simp only [Act.put, List.setIfInBounds_toArray, List.set_cons_zero, List.set_cons_succ])
                refine take_at 22 rfl (by kernel_rfl) (by kernel_rfl) (by kernel_rfl) (fun _ _ _ h => h) (yieldsIf_load_mid (by rfl) _ _ rfl _ _ rfl _ _ (fun _ h => h.2.2.2.1) Try.underlying29 rfl HLA.out) (by assumption) ?_
                (try simp only [Act.put, List.setIfInBounds_toArray, List.set_cons_zero, List.set_cons_succ])
                refine take_at 23 rfl (by kernel_rfl) (by kernel_rfl) (by kernel_rfl) (fun _ _ _ h => h) (yieldsIf_load_mid (by rfl) _ _ rfl _ _ rfl _ _ (fun _ h => h.2.2.2.2) Try.underlying29 rfl HLB.out) (by assumption) ?_
                (try simp only [Act.put, List.setIfInBounds_toArray, List.set_cons_zero, List.set_cons_succ])
                refine ready_at 24 rfl (by kernel_rfl) (fun K hK => ?_)
                go_simp
                refine (HSAME.out _ (Below.refl _ _).drew).mono ?_
                rintro ex wS ⟨rfl, hbS⟩
                have HBS : Hid (Below w9.heap.size w9 wS) := Lib.hid (below_step (Below.refl w9.heap.size w9).drew hbS)
                have KS := Lib.hid (HS19.out _ HBS.out)
                clear hbS
                first
                  | refine hK.out _ _ ?hS25 (fun hHeld => ?rest25)
                  | (go_wp2_with fail; refine hK.out _ _ ?hS25 (fun hHeld => ?rest25))
                case hS25 => exact KS.out
                clear hK K
                (try simp only [Act.put, List.setIfInBounds_toArray, List.set_cons_zero, List.set_cons_succ])
                refine take_at 25 (v := ?vv26) rfl (by kernel_rfl) (by kernel_rfl) (by kernel_rfl) (fun _ _ _ h => h) (Or.inl ⟨by rfl, ?hy26⟩) (by assumption) ?rest26
                case hy26 => intro w hSw; (try dsimp only at hSw); go_simp; (try with_reducible rfl)
                (try simp only [Act.put, List.setIfInBounds_toArray, List.set_cons_zero, List.set_cons_succ])
                refine take_at 26 (v := ?vv27) rfl (by kernel_rfl) (by kernel_rfl) (by kernel_rfl) (fun _ _ _ h => h) (Or.inl ⟨by rfl, ?hy27⟩) (by assumption) ?rest27
                case hy27 => intro w hSw; (try dsimp only at hSw); go_simp; (try with_reducible rfl)
                (try simp only [Act.put, List.setIfInBounds_toArray, List.set_cons_zero, List.set_cons_succ])
                refine wpAnyH_done (by kernel_rfl) ?_ _
                have HBE := Lib.hid (below_step HB9.out HBS.out)
                have hjl := HJLT.out
                have hkm := HM4.out
                go_wp2
                exact ⟨⟨j + 1, K + 1, by omega, by go_num, by go_num, Lib.hid (by rw [HK.out]; omega), HBE⟩, by simp [intOf] <;> omega⟩
            · obtain rfl : j = xn := by omega
              go_wp2
              exact ⟨⟨i + 1, K, by have := HILT.out; omega, by go_num, rfl, Lib.hid (by rw [HTI.out, HK.out]), HBq⟩, by have := HILT.out; simp [intOf] <;> omega⟩
        · obtain rfl : i = ml := by omega
          have hKm : K0 = m := by
            rw [HK0.out, HM.out]
            congr 1
            exact List.take_of_length_le (by rw [HLS.out]; exact Nat.le_refl _)
          subst hKm
          obtain ⟨g0, _⟩ := HGX.out _ HB.out
          go_wp2_with (go_at_call 11; refine (HLV.out _).mono ?_; rintro ex w8 ⟨rfl, hb8⟩; have HB8 := Lib.hid (below_step (below_step HBX.out HB.out) hb8); clear hb8)
          go_ret
          exact ⟨rfl, HB8.out⟩
  · have hne : (E != 0) = true := by simpa using hz
    go_enter Try.func5, Try.ntmps5
    go_wp2_with (first
      | (go_at_call 15; refine HBU.out.mono ?_; rintro ex w1 ⟨v1, rfl, ho1, hb1⟩; have HB1 := Lib.hid (below_step HBA.out hb1); clear ho1 hb1)
      | (go_at_call 11; refine (HLV.out _).mono ?_; rintro ex w8 ⟨rfl, hb8⟩; have HB8 := Lib.hid (below_step HB1.out hb8); clear hb8))
    go_ret
    exact ⟨rfl, HB8.out⟩
end Go.Proofs.Ytjdigncieoaglaa
