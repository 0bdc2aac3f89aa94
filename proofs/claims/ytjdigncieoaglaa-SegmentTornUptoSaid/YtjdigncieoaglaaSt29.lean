/- Layer 14, the reference: Word; Layer 14, the program: Word -/
import Derived.Test.YtjdigncieoaglaaSt11
import Derived.Test.YtjdigncieoaglaaSt25
set_option linter.unusedSimpArgs false
set_option linter.unusedVariables false
namespace Go.Proofs.Ytjdigncieoaglaa
set_option linter.unusedVariables false
open Go.RowKit Go.Lib

set_option maxRecDepth 100000 in
set_option maxHeartbeats 4000000 in
theorem rword_any (x : Rq) (seg off len : Int) (w : World) (hx : x.Fit w) (hn : x.n ≤ 140737488355328) :
    Calls Try.prog 40 #[x.v, locV seg off len] w fun e w' => e = .returned (wordQ x seg off len).v ∧ Below w.heap.size w w' := by
  obtain ⟨wA, hA, hm, hb, c0, c1, _⟩ := box_rec w x hx.dg.1
  obtain ⟨wB, hB⟩ : ∃ W, wA.alloc (.cells #[.int .i64 seg, .int .i64 off, .int .i64 len] 48) = W := ⟨_, rfl⟩
  obtain ⟨wC, hC⟩ : ∃ W, wB.alloc (.cells (mixC wq0.a wq0.dg wq0.t) 50) = W := ⟨_, rfl⟩
  have hsA : wA.heap.size = w.heap.size + 1 := by rw [← hA]; simp
  have hsB : wB.heap.size = wA.heap.size + 1 := by rw [← hB]; simp
  have hsC : wC.heap.size = wB.heap.size + 1 := by rw [← hC]; simp
  have hbB : Below wA.heap.size wA wB := by rw [← hB]; exact (Below.refl _ _).alloc (Nat.le_refl _) _
  have hbC : Below wB.heap.size wB wC := by rw [← hC]; exact (Below.refl _ _).alloc (Nat.le_refl _) _
  have hrB : wB.heap[wA.heap.size]? = some (.cells #[.int .i64 seg, .int .i64 off, .int .i64 len] 48 (0, 0)) := by rw [← hB]; exact heap_alloc_new _ _
  have hmC : Wm wC wB.heap.size wq0 := by rw [← hC]; exact heap_alloc_new _ _
  obtain ⟨g1, hg1⟩ : ∃ g, wA.heap.size = g := ⟨_, rfl⟩
  obtain ⟨g2, hg2⟩ : ∃ g, wB.heap.size = g := ⟨_, rfl⟩
  obtain ⟨g3, hg3⟩ : ∃ g, wC.heap.size = g := ⟨_, rfl⟩
  have HNW : Hid (∀ Z : Obj, (wC.alloc Z).heap[g3]? = some Z) := Lib.hid fun Z => by rw [← hg3]; exact heap_alloc_new _ _
  have HG : Hid (g1 = w.heap.size + 1 ∧ g2 = g1 + 1 ∧ g3 = g2 + 1) := Lib.hid (by omega)
  have HRC : Hid (Rm wC w.heap.size x) := Lib.hid ((hm.later hbB).later hbC)
  have HBC : Hid (Below w.heap.size w wC) := Lib.hid (below_step (below_step hb hbB) hbC)
  have HMC : Hid (Wm wC g2 wq0) := Lib.hid (by rw [← hg2]; exact hmC)
  have HSC := Lib.hid hg3
  have hrC := row_later hrB hbC
  rw [hg1] at hrC
  obtain ⟨l0, l1, l2, _⟩ := row3 hrC
  obtain ⟨e0, e1, _⟩ := HRC.out.cells hx.dg.1
  have HX := Lib.hid hx
  have HFT := Lib.hid fun W (hW : Below w.heap.size w W) => hx.later hW
  have HQ : Hid (wordQ x seg off len = _) := Lib.hid (by unfold wordQ; rfl)
  have HBA := Lib.hid fun W (hW : Below w.heap.size w W) (hk : 1 ≤ x.k ∧ x.k ≤ 8) => rbare_any x W (hx.later hW) hk
  have HLC := Lib.hid fun W (hW : W.heap[w.heap.size]? = wC.heap[w.heap.size]?) => Rm.load (show Rm W w.heap.size x from Mx.keep HRC.out hW) hx.dg.1
  obtain ⟨Q, hQ⟩ : ∃ Q, wordQ x seg off len = Q := ⟨_, rfl⟩
  rw [hQ] at HQ ⊢
  rw [wq0C] at hC
  unfold Rq.v at HBA ⊢
  unfold locV
  obtain ⟨k, s, dg, nm, p, n, c, da, N, Z⟩ := x
  dsimp only at *
  generalize hM : mixC (Rq.a _) _ _ = M at *
  clear hM hx hm hb hsA hsB hsC hbB hbC hrB hmC hrC c0 c1 hQ
  go_enter Try.func40, Try.ntmps40
  go_upto_region 2 with (first
    | (refine wpList_build_is rfl 50 _ rfl (mixC (Wq.a ⟨k, s, dg0, ⟨#[]⟩, 0, seg, off, len⟩) dg0 (Wq.t ⟨k, s, dg0, ⟨#[]⟩, 0, seg, off, len⟩)) ?_ ?_; kernel_rfl)
    | (refine wpList_store_row rfl 50 _ _ rfl g3 _ rfl rfl 50 _ (HNW.out _) (Wq.sizeOf ⟨k, s, dg0, ⟨#[]⟩, 0, seg, off, len⟩ rfl) (Wq.sizes wq0 ⟨k, s, dg0, ⟨#[]⟩, 0, seg, off, len⟩ rfl rfl) (Wq.one ⟨k, s, dg0, ⟨#[]⟩, 0, seg, off, len⟩) ?_; generalize hwS : World.setRow _ _ _ = wS))
  have hKS : ∀ g, g ≠ g3 → g < wC.heap.size → wS.heap[g]? = wC.heap[g]? := fun g h1 h2 => (keep_row hwS g h1).trans (heap_alloc_old wC _ h2)
  have HKS := Lib.hid hKS
  have HWS : Hid (Wm wS g3 ⟨k, s, dg0, ⟨#[]⟩, 0, seg, off, len⟩) := Lib.hid (by rw [← hwS]; exact Mx.row (show Wm (wC.alloc (.cells (mixC wq0.a wq0.dg wq0.t) 50)) g3 wq0 from HNW.out _))
  have HBS : Hid (Below w.heap.size w wS) := Lib.hid (by rw [← hwS]; exact below_setRow8 (HBC.out.alloc HBC.out.size _) _ _ (by have := HG.out; omega))
  have HSS : Hid (wS.heap.size = g3 + 1) := Lib.hid (by rw [← hwS]; simp [HSC.out])
  have hk0 : w.heap.size ≠ g3 ∧ w.heap.size < wC.heap.size ∧ g2 ≠ g3 ∧ g2 < wC.heap.size := by have := HG.out; have := HSC.out; omega
  have HZS : Hid (Wm wS g2 wq0) := Lib.hid (Mx.keep HMC.out (HKS.out g2 hk0.2.2.1 hk0.2.2.2))
  have HRS : Hid (Rm wS w.heap.size _) := Lib.hid (Mx.keep HRC.out (HKS.out _ hk0.1 hk0.2.1))
  have HLS := Lib.hid (HLC.out wS (HKS.out _ hk0.1 hk0.2.1))
  obtain ⟨e0, e1, _⟩ := HRS.out.cells HX.out.dg.1
  clear hwS hKS hk0 l0 l1 l2
  by_cases hk : k < 1 ∨ k > 8
  · replace HQ : Hid (Q = ⟨k, s, dg0, ⟨#[]⟩, 0, seg, off, len⟩) := Lib.hid (by rw [HQ.out, if_pos hk])
    by_cases h1 : k < 1
    · go_wp2_with (first
        | (refine wpList_ld rfl _ _ rfl _ rfl _ (HWS.out.load rfl) ?_)
        | (refine wpList_store_row rfl 50 _ _ rfl g2 _ rfl rfl 50 _ HZS.out (Wq.sizeOf ⟨k, s, dg0, ⟨#[]⟩, 0, seg, off, len⟩ rfl) (Wq.sizes wq0 ⟨k, s, dg0, ⟨#[]⟩, 0, seg, off, len⟩ rfl rfl) (Wq.one ⟨k, s, dg0, ⟨#[]⟩, 0, seg, off, len⟩) ?_; generalize hwZ : World.setRow _ _ _ = wZ))
      have HZ : Wm wZ g2 ⟨k, s, dg0, ⟨#[]⟩, 0, seg, off, len⟩ := by rw [← hwZ]; exact Mx.row HZS.out
      refine bodyPost_ret (HZ.res1 rfl rfl _ rfl) rfl ?_
      exact ⟨by rw [HQ.out], by rw [← hwZ]; exact below_setRow8 HBS.out _ _ (by have := HG.out; omega)⟩
    · have h8 : k > 8 := by omega
      clear hk
      go_wp2_with (first
        | (refine wpList_ld rfl _ _ rfl _ rfl _ (HWS.out.load rfl) ?_)
        | (refine wpList_store_row rfl 50 _ _ rfl g2 _ rfl rfl 50 _ HZS.out (Wq.sizeOf ⟨k, s, dg0, ⟨#[]⟩, 0, seg, off, len⟩ rfl) (Wq.sizes wq0 ⟨k, s, dg0, ⟨#[]⟩, 0, seg, off, len⟩ rfl rfl) (Wq.one ⟨k, s, dg0, ⟨#[]⟩, 0, seg, off, len⟩) ?_; generalize hwZ : World.setRow _ _ _ = wZ))
      have HZ : Wm wZ g2 ⟨k, s, dg0, ⟨#[]⟩, 0, seg, off, len⟩ := by rw [← hwZ]; exact Mx.row HZS.out
      refine bodyPost_ret (HZ.res1 rfl rfl _ rfl) rfl ?_
      exact ⟨by rw [HQ.out], by rw [← hwZ]; exact below_setRow8 HBS.out _ _ (by have := HG.out; omega)⟩
  · have hk1 : 1 ≤ k ∧ k ≤ 8 := by omega
    have h1 : ¬ k < 1 := by omega
    have h8 : ¬ k > 8 := by omega
    rw [if_neg hk] at HQ
    have HBR := Lib.hid (HBA.out wS HBS.out hk1)
    clear hk HBA
    go_upto_region 5 with (first
      | (refine wpList_ld rfl _ _ rfl _ rfl _ HLS.out ?_)
      | (go_at_call 17; refine HBR.out.mono ?_; rintro e w1 ⟨y, rfl, hf1, he1, hb1⟩; have HF1 := Lib.hid hf1; have HE1 := Lib.hid he1; have HB1 := Lib.hid hb1; clear hf1 he1 hb1)
      | (refine wpList_store_row rfl 29 _ _ rfl w1.heap.size _ rfl rfl 29 _ (heap_alloc_new _ _) (Rq.sizeOf y HF1.out.dg.1) (Rq.sizes rq0 y rfl HF1.out.dg.1) y.one ?_; generalize hw2 : World.setRow _ _ _ = w2))
    have HY2 : Hid (Rm w2 w1.heap.size y) := Lib.hid (by rw [← hw2]; exact Mx.row (show Rm (w1.alloc (.cells (mixC rq0.a rq0.dg rq0.z) 29)) w1.heap.size rq0 from heap_alloc_new _ _))
    have HK2 : Hid (∀ g, g < wS.heap.size → w2.heap[g]? = wS.heap[g]?) := Lib.hid fun g hg => ((keep_row hw2 g (by have := HB1.out.size; omega)).trans (heap_alloc_old w1 _ (by have := HB1.out.size; omega))).trans (HB1.out.block g hg)
    have HB2 : Hid (Below w.heap.size w w2) := Lib.hid (by rw [← hw2]; exact below_setRow8 ((below_step HBS.out HB1.out).alloc (below_step HBS.out HB1.out).size _) _ _ (below_step HBS.out HB1.out).size)
    have HG2 : Hid (g3 < w1.heap.size ∧ g2 < g3 ∧ w.heap.size ≤ g2 ∧ g3 < wS.heap.size) := Lib.hid (by have h1 := HB1.out.size; have h2 := HSS.out; have h3 := HG.out; omega)
    have HW2 : Hid (Wm w2 g3 ⟨k, s, dg0, ⟨#[]⟩, 0, seg, off, len⟩) := Lib.hid (Mx.keep HWS.out (HK2.out _ HG2.out.2.2.2))
    have HZ2 : Hid (Wm w2 g2 wq0) := Lib.hid (Mx.keep HZS.out (HK2.out _ (by have := HG2.out; omega)))
    have hw2 := hw2
    clear hw2
    have he := HE1.out
    have HQ2 : Hid (Q = ⟨k, s, y.dg, y.nm, (y.n : Int) + y.Z, seg, off, len⟩ ∧ IntKind.i64.wrap ((y.n : Int) + y.Z) = (y.n : Int) + y.Z) := Lib.hid (by
      have d1 := congrArg Rc.dg he
      have d2 := congrArg Rc.nm he
      have d3 := congrArg Rc.da he
      have d4 := congrArg Rc.z he
      have d5 := HF1.out.bs.len
      have d6 := HX.out.bs.len
      have d7 := HX.out.Z
      unfold bareN Rq.rc at d1 d2 d3 d4
      dsimp only at d1 d2 d3 d4 d6 d7
      have d8 : y.nm = if k = 3 ∨ k = 4 then nm else ⟨#[]⟩ := numsOf_inj (by rw [d2]; split <;> rfl)
      have d9 : y.n = if k ≤ 2 then n else 0 := by rw [← d5, d3]; split <;> simp [d6]
      have d10 : (y.n : Int) + y.Z = if k ≤ 2 then (n : Int) else if k = 6 ∨ k = 8 then Z else 0 := by
        rw [d9, d4]
        split
        · rw [if_neg (by omega)]; omega
        · simp
      refine ⟨?_, ?_⟩
      · rw [HQ.out, d1, d8, d10]
      · rw [d10]
        simp only [IntKind.wrap, IntKind.bits, IntKind.signed]
        split
        · simp; omega
        · split <;> simp <;> omega)
    clear he
    have hwr := HQ2.out.2
    have HLY := Lib.hid (Mx.loadDig (P := Try.prog) HY2.out 27 Try.underlying27 rfl (by rw [HF1.out.dg.1]; exact size32) 2 rfl)
    obtain ⟨w3, hw3⟩ : ∃ W, w2.setCells g3 2 (bcs y.dg).toList = W := ⟨_, rfl⟩
    have HY3 : Hid (Rm w3 w1.heap.size y) := Lib.hid (Mx.keep HY2.out (keep_cells hw3 _ (by have := HG2.out; omega)))
    have HW3 : Hid (Wm w3 g3 ⟨k, s, y.dg, ⟨#[]⟩, 0, seg, off, len⟩) := Lib.hid (by rw [← hw3]; exact HW2.out.setDg rfl y.dg HF1.out.dg.1)
    have HZ3 : Hid (Wm w3 g2 wq0) := Lib.hid (Mx.keep HZ2.out (keep_cells hw3 _ (by have := HG2.out; omega)))
    have HB3 : Hid (Below w.heap.size w w3) := Lib.hid (by rw [← hw3]; exact below_setCells (by have := HG2.out; omega) _ _ _ HB2.out)
    have HTH : Hid (w2.there g3 2 (bcs y.dg).size) := Lib.hid (by rw [bcs_size, HF1.out.dg.1]; exact Mx.there HW2.out 2 32 (by simp [Wq.a, Wq.t, dg0]))
    have hnm := (HY3.out.cells HF1.out.dg.1).2.2.1
    have cl34 := (HW3.out.cells HF1.out.dg.1).1
    have fr34 := Mx.frozen HW3.out 34
    obtain ⟨w4, hw4⟩ : ∃ W, w3.setCell ⟨g3, 34, none⟩ (.string y.nm) = W := ⟨_, rfl⟩
    have HY4 : Hid (Rm w4 w1.heap.size y) := Lib.hid (Mx.keep HY3.out (keep_cell hw4 _ (by have := HG2.out; omega)))
    have HW4 : Hid (Wm w4 g3 ⟨k, s, y.dg, y.nm, 0, seg, off, len⟩) := Lib.hid (by rw [← hw4]; exact HW3.out.setNm HF1.out.dg.1 y.nm)
    have HZ4 : Hid (Wm w4 g2 wq0) := Lib.hid (Mx.keep HZ3.out (keep_cell hw4 _ (by have := HG2.out; omega)))
    have HB4 : Hid (Below w.heap.size w w4) := Lib.hid (by rw [← hw4]; exact HB3.out.setCell (by have := HG2.out; show w.heap.size ≤ g3; omega) _)
    obtain ⟨_, _, _, h35, _, h37⟩ := HY4.out.cells HF1.out.dg.1
    have cl35 := (HW4.out.cells HF1.out.dg.1).2
    have fr35 := Mx.frozen HW4.out 35
    obtain ⟨w5, hw5⟩ : ∃ W, w4.setCell ⟨g3, 35, none⟩ (.int .i64 ((y.n : Int) + y.Z)) = W := ⟨_, rfl⟩
    have HW5 : Hid (Wm w5 g3 ⟨k, s, y.dg, y.nm, (y.n : Int) + y.Z, seg, off, len⟩) := Lib.hid (by rw [← hw5]; exact HW4.out.setZ HF1.out.dg.1 _)
    have HZ5 : Hid (Wm w5 g2 wq0) := Lib.hid (Mx.keep HZ4.out (keep_cell hw5 _ (by have := HG2.out; omega)))
    have HB5 : Hid (Below w.heap.size w w5) := Lib.hid (by rw [← hw5]; exact HB4.out.setCell (by have := HG2.out; show w.heap.size ≤ g3; omega) _)
    have HDY := Lib.hid HF1.out.dg.1
    have HW := Lib.hid hw3
    clear hw3 e0 e1
    go_wp2_with (first
      | (refine wpList_ld rfl _ _ rfl _ rfl _ HLY.out ?_)
      | (refine wpList_store_mid rfl 27 _ _ rfl g3 2 _ rfl rfl HTH.out (by rw [bcs_size, HDY.out]; exact size32) (bcs_one _) ?_; rw [HW.out])
      | (refine wpList_ld rfl _ _ rfl _ rfl _ (HW5.out.load HDY.out) ?_)
      | (refine wpList_store_row rfl 50 _ _ rfl g2 _ rfl rfl 50 _ HZ5.out (Wq.sizeOf ⟨k, s, y.dg, y.nm, (y.n : Int) + y.Z, seg, off, len⟩ HDY.out) (Wq.sizes wq0 ⟨k, s, y.dg, y.nm, (y.n : Int) + y.Z, seg, off, len⟩ rfl HDY.out) (Wq.one ⟨k, s, y.dg, y.nm, (y.n : Int) + y.Z, seg, off, len⟩) ?_; generalize hwZ : World.setRow _ _ _ = wZ))
    have HZ : Wm wZ g2 ⟨k, s, y.dg, y.nm, (y.n : Int) + y.Z, seg, off, len⟩ := by rw [← hwZ]; exact Mx.row HZ5.out
    refine bodyPost_ret (HZ.res1 HDY.out rfl _ rfl) rfl ?_
    exact ⟨by rw [HQ2.out.1], by rw [← hwZ]; exact below_setRow8 HB5.out _ _ (by have := HG2.out; omega)⟩
end Go.Proofs.Ytjdigncieoaglaa

namespace Go.Proofs.Ytjdigncieoaglaa
set_option linter.unusedVariables false
open Go.RowKit Go.Lib

theorem list32 {l : List Int} (h : l.length = 32) : l = [l.getD 0 0, l.getD 1 0, l.getD 2 0, l.getD 3 0, l.getD 4 0, l.getD 5 0, l.getD 6 0, l.getD 7 0, l.getD 8 0, l.getD 9 0, l.getD 10 0, l.getD 11 0, l.getD 12 0, l.getD 13 0, l.getD 14 0, l.getD 15 0, l.getD 16 0, l.getD 17 0, l.getD 18 0, l.getD 19 0, l.getD 20 0, l.getD 21 0, l.getD 22 0, l.getD 23 0, l.getD 24 0, l.getD 25 0, l.getD 26 0, l.getD 27 0, l.getD 28 0, l.getD 29 0, l.getD 30 0, l.getD 31 0] := by
  have e : l = (List.range 32).map (fun i => l.getD i 0) := by
    refine List.ext_getElem (by simp [h]) fun i h1 h2 => ?_
    simp [List.getD_eq_getElem?_getD, List.getElem?_eq_getElem h1]
  exact e
set_option maxRecDepth 100000 in
theorem built_word32 (k s z seg off len : Int) (nm : ByteArray) (a0 a1 a2 a3 a4 a5 a6 a7 a8 a9 a10 a11 a12 a13 a14 a15 a16 a17 a18 a19 a20 a21 a22 a23 a24 a25 a26 a27 a28 a29 a30 a31 : Int) :
    Try.prog.built 50 [(0, .int .i64 k), (1, .int .u64 s), (2, .agg (bcs [a0, a1, a2, a3, a4, a5, a6, a7, a8, a9, a10, a11, a12, a13, a14, a15, a16, a17, a18, a19, a20, a21, a22, a23, a24, a25, a26, a27, a28, a29, a30, a31])), (3, .string nm), (4, .int .i64 z), (5, .agg #[.int .i64 seg, .int .i64 off, .int .i64 len])] = some (mixC [.int .i64 k, .int .u64 s] [a0, a1, a2, a3, a4, a5, a6, a7, a8, a9, a10, a11, a12, a13, a14, a15, a16, a17, a18, a19, a20, a21, a22, a23, a24, a25, a26, a27, a28, a29, a30, a31] [.string nm, .int .i64 z, .int .i64 seg, .int .i64 off, .int .i64 len]) := by kernel_rfl
theorem built_word (q : Wq) (h : q.dg.length = 32) :
    Try.prog.built 50 [(0, .int .i64 q.k), (1, .int .u64 q.s), (2, .agg (bcs q.dg)), (3, .string q.nm), (4, .int .i64 q.z), (5, .agg #[.int .i64 q.seg, .int .i64 q.off, .int .i64 q.len])] = some (mixC q.a q.dg q.t) := by
  have e := list32 h
  obtain ⟨l, hl⟩ : ∃ l, q.dg = l := ⟨_, rfl⟩
  unfold Wq.a Wq.t
  rw [hl] at e ⊢
  rw [e]
  exact built_word32 _ _ _ _ _ _ _ (l.getD 0 0) (l.getD 1 0) (l.getD 2 0) (l.getD 3 0) (l.getD 4 0) (l.getD 5 0) (l.getD 6 0) (l.getD 7 0) (l.getD 8 0) (l.getD 9 0) (l.getD 10 0) (l.getD 11 0) (l.getD 12 0) (l.getD 13 0) (l.getD 14 0) (l.getD 15 0) (l.getD 16 0) (l.getD 17 0) (l.getD 18 0) (l.getD 19 0) (l.getD 20 0) (l.getD 21 0) (l.getD 22 0) (l.getD 23 0) (l.getD 24 0) (l.getD 25 0) (l.getD 26 0) (l.getD 27 0) (l.getD 28 0) (l.getD 29 0) (l.getD 30 0) (l.getD 31 0)

/-- what a record's own fields say -/
structure OwnQ (x y : Rq) : Prop where
  dg : y.dg.length = 32
  word : ∀ seg off len, wordQ x seg off len = ⟨y.k, y.s, y.dg, y.nm, y.Z + (y.n : Int), seg, off, len⟩
  bd : -9223372036854775808 ≤ y.Z + (y.n : Int) ∧ y.Z + (y.n : Int) ≤ 9223372036854775807
  nl : y.n ≤ 2097216
theorem own_any (x : Rq) (w : World) (hx : x.Fit w) (hn : x.n ≤ 2097216) :
    Calls Try.prog 34 #[x.v] w fun e w' => ∃ y : Rq, e = .returned y.v ∧ OwnQ x y ∧ Below w.heap.size w w' := by
  by_cases hk : x.k < 1 ∨ x.k > 8
  · refine (own_out x w hx hk).mono ?_
    rintro e w' ⟨rfl, hb⟩
    refine ⟨_, rfl, ⟨rfl, fun seg off len => ?_, ?_, ?_⟩, hb⟩
    · unfold wordQ
      rw [if_pos hk]
      rfl
    · show _ ≤ (0 : Int) + ((0 : Nat) : Int) ∧ (0 : Int) + ((0 : Nat) : Int) ≤ _
      omega
    · exact Nat.zero_le _
  · refine (own_in x w hx (by omega)).mono ?_
    rintro e w' ⟨y, rfl, hf, he, hb, hy⟩
    refine ⟨_, rfl, ⟨hf.dg.1, fun seg off len => ?_, ?_, ?_⟩, hb⟩
    · have e1 : y.Z + (y.n : Int) = if x.k ≤ 2 then (x.n : Int) else if x.k = 6 ∨ x.k = 8 then x.Z else 0 := by
        rw [hy]
        unfold bareQ
        dsimp only
        by_cases h2 : x.k ≤ 2
        · rw [if_pos h2, if_pos h2, if_neg (by omega)]; omega
        · rw [if_neg h2, if_neg h2]; simp
      rw [e1]
      unfold wordQ
      rw [if_neg hk, hy]
      rfl
    · have hZ := hx.Z
      rw [hy]
      unfold bareQ
      dsimp only
      by_cases h2 : x.k ≤ 2
      · rw [if_pos h2, if_neg (by omega)]; omega
      · rw [if_neg h2]
        split <;> omega
    · rw [hy]
      show (if x.k ≤ 2 then x.n else 0) ≤ _
      split <;> omega

set_option maxRecDepth 100000 in
set_option maxHeartbeats 4000000 in
theorem cword_ok : cWordOk := by
  intro x seg off len w hx hn
  obtain ⟨wA, hA, hm, hb, c0, c1, _⟩ := box_rec w x hx.dg.1
  obtain ⟨wB, hB⟩ : ∃ W, wA.alloc (.cells #[.int .i64 seg, .int .i64 off, .int .i64 len] 48) = W := ⟨_, rfl⟩
  obtain ⟨wC, hC⟩ : ∃ W, wB.alloc (.cells (mixC wq0.a wq0.dg wq0.t) 50) = W := ⟨_, rfl⟩
  have hsA : wA.heap.size = w.heap.size + 1 := by rw [← hA]; simp
  have hsB : wB.heap.size = wA.heap.size + 1 := by rw [← hB]; simp
  have hbB : Below wA.heap.size wA wB := by rw [← hB]; exact (Below.refl _ _).alloc (Nat.le_refl _) _
  have hbC : Below wB.heap.size wB wC := by rw [← hC]; exact (Below.refl _ _).alloc (Nat.le_refl _) _
  have hrB : wB.heap[wA.heap.size]? = some (.cells #[.int .i64 seg, .int .i64 off, .int .i64 len] 48 (0, 0)) := by rw [← hB]; exact heap_alloc_new _ _
  have hmC : Wm wC wB.heap.size wq0 := by rw [← hC]; exact heap_alloc_new _ _
  obtain ⟨g1, hg1⟩ : ∃ g, wA.heap.size = g := ⟨_, rfl⟩
  obtain ⟨g2, hg2⟩ : ∃ g, wB.heap.size = g := ⟨_, rfl⟩
  have HG : Hid (g1 = w.heap.size + 1 ∧ g2 = g1 + 1) := Lib.hid (by omega)
  have HRC : Hid (Rm wC w.heap.size x) := Lib.hid ((hm.later hbB).later hbC)
  have HBC : Hid (Below w.heap.size w wC) := Lib.hid (below_step (below_step hb hbB) hbC)
  have HMC : Hid (Wm wC g2 wq0) := Lib.hid (by rw [← hg2]; exact hmC)
  have hrC := row_later hrB hbC
  rw [hg1] at hrC
  have HLC := Lib.hid hrC
  have HOW := Lib.hid fun W (hW : Below w.heap.size w W) => own_any x W (hx.later hW) hn
  have HLX := Lib.hid (HRC.out.load hx.dg.1)
  have HXD := Lib.hid hx.dg.1
  rw [wq0C] at hC
  unfold Rq.v at HOW ⊢
  unfold locV
  generalize hM : mixC x.a x.dg x.z = M at *
  clear hx hm hb hsA hsB hbB hbC hrB hmC hrC c0 c1 hn
  go_enter Try.func56, Try.ntmps56
  go_upto_region 2 with (first
    | (refine wpList_ld rfl _ _ rfl _ rfl _ HLX.out ?_)
    | (go_at_call 34; refine (HOW.out _ HBC.out).mono ?_; rintro e w2 ⟨y, rfl, hq2, hb2⟩; have HQ2 := Lib.hid hq2; have HB2 := Lib.hid (below_step HBC.out hb2); have HR2 : Hid (w2.heap[w.heap.size]? = some (.cells M 29 (0, 0))) := Lib.hid (by rw [← hM]; exact HRC.out.later hb2); have HW2 : Hid (Wm w2 g2 wq0) := Lib.hid (Mx.later HMC.out hb2); have HL2 := Lib.hid (row_later HLC.out hb2); have HSZ : Hid (M.size = (mixC y.a y.dg y.z).size) := Lib.hid (by rw [← hM]; exact Rq.sizes x y HXD.out hq2.dg); clear hq2 hb2)
    | (refine wpList_store_row rfl 29 _ _ rfl w.heap.size _ rfl rfl 29 _ HR2.out (Rq.sizeOf y HQ2.out.dg) HSZ.out y.one ?_; generalize hw3 : World.setRow _ _ _ = w3))
  have HR3 : Hid (Rm w3 w.heap.size y) := Lib.hid (by rw [← hw3]; exact Mx.row (show Mx w2 w.heap.size 29 x.a x.dg x.z from by rw [show Mx w2 w.heap.size 29 x.a x.dg x.z = (w2.heap[w.heap.size]? = some (.cells (mixC x.a x.dg x.z) 29 (0, 0))) from rfl, hM]; exact HR2.out))
  have HB3 : Hid (Below w.heap.size w w3) := Lib.hid (by rw [← hw3]; exact below_setRow8 HB2.out _ _ (Nat.le_refl _))
  have HW3 : Hid (Wm w3 g2 wq0) := Lib.hid (Mx.keep HW2.out (keep_row hw3 g2 (by have := HG.out; omega)))
  have HL3 : Hid (w3.heap[g1]? = some (.cells #[.int .i64 seg, .int .i64 off, .int .i64 len] 48 (0, 0))) := Lib.hid ((keep_row hw3 g1 (by have := HG.out; omega)).trans HL2.out)
  obtain ⟨l0, l1, l2, _⟩ := row3 HL3.out
  obtain ⟨d0, d1, d34, d35, _, d37⟩ := HR3.out.cells HQ2.out.dg
  have HLY := Lib.hid (Mx.loadDig (P := Try.prog) HR3.out 27 Try.underlying27 rfl (by rw [HQ2.out.dg]; exact size32) 2 rfl)
  obtain ⟨Q, hQ⟩ : ∃ Q, Q = (⟨y.k, y.s, y.dg, y.nm, y.Z + (y.n : Int), seg, off, len⟩ : Wq) := ⟨_, rfl⟩
  have HQD : Hid (Q.dg.length = 32) := Lib.hid (by rw [hQ]; exact HQ2.out.dg)
  have HBW : Try.prog.built 50 [(0, .int .i64 y.k), (1, .int .u64 y.s), (2, .agg (bcs y.dg)), (3, .string y.nm), (4, .int .i64 (y.Z + (y.n : Int))), (5, .agg #[.int .i64 seg, .int .i64 off, .int .i64 len])] = some (mixC Q.a Q.dg Q.t) := by
    have h := built_word Q HQD.out
    rw [hQ] at h ⊢
    exact h
  have HQQ := Lib.hid hQ
  have HWQ : Hid (wordQ x seg off len = Q) := Lib.hid (by rw [hQ]; exact HQ2.out.word _ _ _)
  have HBU := Lib.hid HBW
  have hbd := HQ2.out.bd
  have hnl := HQ2.out.nl
  have hwr : wrap64 (y.Z + (y.n : Int)) = y.Z + (y.n : Int) := by simp only [wrap64]; omega
  clear hQ HBW hw3
  go_wp2_with (first
    | (refine wpList_ld rfl _ _ rfl _ rfl _ HLY.out ?_)
    | (refine wpList_build_is rfl 50 _ rfl (mixC Q.a Q.dg Q.t) ?_ ?_; focus (simp only [List.map_toArray, List.map_cons, List.map_nil]; exact HBU.out))
    | (refine wpList_store_row rfl 50 _ _ rfl g2 _ rfl rfl 50 _ HW3.out (Wq.sizeOf Q HQD.out) (Wq.sizes wq0 Q rfl HQD.out) Q.one ?_; generalize hwZ : World.setRow _ _ _ = wZ))
  have HZ : Wm wZ g2 Q := by rw [← hwZ]; exact Mx.row HW3.out
  refine bodyPost_ret (HZ.res1 HQD.out rfl _ rfl) rfl ?_
  exact ⟨by rw [HWQ.out], by rw [← hwZ]; exact below_setRow8 HB3.out _ _ (by have := HG.out; omega)⟩
end Go.Proofs.Ytjdigncieoaglaa
