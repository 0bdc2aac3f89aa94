/- Layer 10: the reference's Same: two files that read alike. -/
import Derived.Test.YtapobakolnlpmaaInoJ
import Derived.Test.YtapobakolnlpmaaInoM
import Derived.Deep.DeepCutAuto
namespace Go.Proofs.Ytapobakolnlpmaa
set_option linter.unusedVariables false
open Go.RowKit Go.Lib

theorem chs_eq_getD {L M : List Wd} (h : chs L = chs M) (j : Nat) (hj : j < L.length) : (L.getD j wd0).c = (M.getD j wd0).c := by
  have hm : M.length = L.length := by rw [← chs_length M, ← h, chs_length]
  have h1 := chs_getD L j hj
  have h2 := chs_getD M j (by omega)
  rw [h, h2] at h1
  simpa using h1.symm

theorem Cw.later {w w' : World} {B : Nat} {c : Ch} {p : Option Addr} {n cap : Nat} (h : Cw w B c p n cap) (hb : Below w.heap.size w w') : Cw w' B c p n cap := h.keep (hb.mono h.lt)

set_option maxRecDepth 100000 in
set_option maxHeartbeats 2000000 in
theorem rsame_ino (x y : Ni) (w : World) (hx : Ni.fit w x) (hy : Ni.fit w y) (ho : x.fi.ok) (he : y.fi = x.fi) :
    Calls Try.prog 8 #[x.v, y.v] w fun e w' => e = .returned (.bool true) ∧ Below w.heap.size w w' := by
  obtain ⟨hn, hm, hzl, hll⟩ := Ni.len hx ho
  obtain ⟨hn2, hm2, hzl2, hll2⟩ := Ni.len hy (by rw [he]; exact ho)
  have hdat := Ni.dat hx ho
  obtain ⟨p, n, c, q, m, d, zs, L⟩ := x
  obtain ⟨p2, n2, c2, q2, m2, d2, zs2, L2⟩ := y
  have hz : zs2 = zs := congrArg Fi.b he
  have hL : chs L2 = chs L := congrArg Fi.l he
  subst hz
  have hnn : n2 = n := (show zs2.length = n2 from hzl2).symm.trans hzl
  subst hnn
  have hmm : m2 = m := by
    have h1 : L2.length = m2 := hll2
    have h2 : L.length = m := hll
    rw [← h1, ← h2, ← chs_length, ← chs_length L, hL]
  subst hmm
  have HX := Lib.hid hx
  have HY := Lib.hid hy
  have HL := Lib.hid hL
  have HLL : Hid (L.length = m2) := Lib.hid hll
  have HLL2 : Hid (L2.length = m2) := Lib.hid hll2
  have HNM : Hid (n2 ≤ maxLen) := Lib.hid (by have h : n2 ≤ 2097152 := hn; unfold maxLen; omega)
  have HDAT : Hid (∀ j, (L.getD j wd0).n ≤ 2097152) := Lib.hid hdat
  obtain ⟨wA, hA⟩ : ∃ A, (w.alloc (.cells #[.slice p n2 c, .slice q m2 d] 25)).alloc (.cells #[.slice p2 n2 c2, .slice q2 m2 d2] 25) = A := ⟨_, rfl⟩
  have HBA : Hid (Below w.heap.size w wA) := Lib.hid (by rw [← hA]; exact below_alloc' (below_alloc' (Below.refl _ _) _) _)
  have HI : Hid (Iw wA w.heap.size ⟨p, n2, c, q, m2, d, zs2, L⟩) := Lib.hid (by rw [← hA]; exact Iw.later (heap_alloc_new _ _) (below_alloc' (Below.refl _ _) _))
  have HJ : Hid (Iw wA (w.heap.size + 1) ⟨p2, n2, c2, q2, m2, d2, zs2, L2⟩) := Lib.hid (by rw [← hA]; exact two_new _ _ _)
  have HXA := Lib.hid (HX.out.later HBA.out)
  have HYA := Lib.hid (HY.out.later HBA.out)
  obtain ⟨i0, i1⟩ := HI.out.cells
  obtain ⟨j0, j1⟩ := HJ.out.cells
  have hne : (((m2 : Nat) : Int) != (m2 : Int)) = false := by simp
  have hmb : m2 ≤ 1048575 := hm
  unfold Ni.v
  clear hx hy ho he hn hm hzl hll hn2 hm2 hzl2 hll2 hL hdat
  go_enter Try.func8, Try.ntmps8
  go_wp2_with fail
  clear hA
  refine (tsame_any p p2 n2 n2 c c2 zs2 zs2 _ HNM.out HNM.out HXA.out.1 HYA.out.1).mono ?_
  rintro e4 w4 ⟨rfl, nq, rfl⟩
  have HB4 := Lib.hid (below_drewN (Below.refl wA.heap.size wA) nq)
  generalize wA.drewN nq = w4 at *
  rw [decide_eq_true (rfl : zs2 = zs2)]
  clear i0 i1 j0 j1
  obtain ⟨i0, i1⟩ := (HI.out.later HB4.out).cells
  obtain ⟨j0, j1⟩ := (HJ.out.later HB4.out).cells
  go_wp2
  go_loopw [5] (fun i wr => ∃ k : Nat, k ≤ m2 ∧ i = .int .i64 (k : Int) ∧ Hid (Below wA.heap.size wA wr)) (fun i _ => m2 - (intOf i).toNat)
  case atStart => exact ⟨0, by omega, rfl, HB4⟩
  case round =>
    clear HB4 i0 i1 j0 j1
    obtain ⟨k, hk, rfl, HB⟩ := hrel
    by_cases hlt : k < m2
    · obtain ⟨b, off, rfl, x0, x1, x2⟩ := HXA.out.2.2.2.1.ptr k hlt
      obtain ⟨b2, off2, rfl, y0, y1, y2⟩ := HYA.out.2.2.2.1.ptr k hlt
      have HFX := Lib.hid (HXA.out.2.2.2.1.fit k)
      have HFY := Lib.hid (HYA.out.2.2.2.1.fit k)
      have HCE := Lib.hid (chs_eq_getD HL.out k (by rw [HLL2.out]; exact hlt))
      have HDK := Lib.hid (HDAT.out k)
      generalize L.getD k wd0 = xx at *
      generalize L2.getD k wd0 = yy at *
      obtain ⟨xc, xp, xn, xcap⟩ := xx
      obtain ⟨yc, yp, yn, ycap⟩ := yy
      have hce : yc = xc := HCE.out
      subst hce
      clear HCE
      dsimp only at x0 x1 x2 y0 y1 y2 HDK
      have HK : Hid (∀ W, Below wA.heap.size wA W → W.cell? ⟨w.heap.size, 1, none⟩ = some (.slice (some ⟨b, off, none⟩) m2 d) ∧ W.cell? ⟨w.heap.size + 1, 1, none⟩ = some (.slice (some ⟨b2, off2, none⟩) m2 d2) ∧ W.cell? ⟨b, off + k * 3, none⟩ = some (.bool yc.cut) ∧ W.cell? ⟨b, off + k * 3 + 1, none⟩ = some (.int .i64 yc.off) ∧ W.cell? ⟨b, off + k * 3 + 2, none⟩ = some (.slice xp xn xcap) ∧ W.cell? ⟨b2, off2 + k * 3, none⟩ = some (.bool yc.cut) ∧ W.cell? ⟨b2, off2 + k * 3 + 1, none⟩ = some (.int .i64 yc.off) ∧ W.cell? ⟨b2, off2 + k * 3 + 2, none⟩ = some (.slice yp yn ycap)) := Lib.hid fun W hW => by
        refine ⟨(HI.out.later hW).cells.2, (HJ.out.later hW).cells.2, ?_, ?_, ?_, ?_, ?_, ?_⟩
        · rw [hW.cell (World.block_lt_of_cell? wA _ x0)]; exact x0
        · rw [hW.cell (World.block_lt_of_cell? wA _ x1)]; exact x1
        · rw [hW.cell (World.block_lt_of_cell? wA _ x2)]; exact x2
        · rw [hW.cell (World.block_lt_of_cell? wA _ y0)]; exact y0
        · rw [hW.cell (World.block_lt_of_cell? wA _ y1)]; exact y1
        · rw [hW.cell (World.block_lt_of_cell? wA _ y2)]; exact y2
      clear x0 x1 x2 y0 y1 y2
      have hkn : (k : Int) < (m2 : Int) := by omega
      have hk0 : (0 : Int) ≤ (k : Int) := by omega
      obtain ⟨i1, j1, _⟩ := HK.out _ HB.out
      have k0 := HK.out _ HB.out
      have HB0 := Lib.hid (below_drew' HB.out)
      have k1 := HK.out _ HB0.out
      go_upto_region 6 with fail
      go_cut [6, 7] (fun a e wx => ∃ (g h : Nat), a = .pointer (some ⟨g, 0, none⟩) ∧ e = .pointer (some ⟨h, 0, none⟩) ∧ Hid (Cw wx g yc xp xn xcap) ∧ Hid (Cw wx h yc yp yn ycap) ∧ Hid (Below wA.heap.size wA wx))
      case first =>
        go_region_held3 (fun W => W.cell? ⟨w.heap.size, 1, none⟩ = some (.slice (some ⟨b, off, none⟩) m2 d) ∧ W.cell? ⟨w.heap.size + 1, 1, none⟩ = some (.slice (some ⟨b2, off2, none⟩) m2 d2) ∧ W.cell? ⟨b, off + k * 3, none⟩ = some (.bool yc.cut) ∧ W.cell? ⟨b, off + k * 3 + 1, none⟩ = some (.int .i64 yc.off) ∧ W.cell? ⟨b, off + k * 3 + 2, none⟩ = some (.slice xp xn xcap) ∧ W.cell? ⟨b2, off2 + k * 3, none⟩ = some (.bool yc.cut) ∧ W.cell? ⟨b2, off2 + k * 3 + 1, none⟩ = some (.int .i64 yc.off) ∧ W.cell? ⟨b2, off2 + k * 3 + 2, none⟩ = some (.slice yp yn ycap)) (first | exact k0 | exact k1 | exact HK.out _ (below_alloc' HB0.out _) | exact HK.out _ (below_alloc' (below_alloc' HB0.out _) _)) (fail)
        all_goals (go_wp2_with fail)
        all_goals go_meet
        · exact ⟨_, _, rfl, rfl, Lib.hid (Cw.later (heap_alloc_new wr (.cells #[.bool yc.cut, .int .i64 yc.off, .slice xp xn xcap] 48)) (below_drew' (below_alloc' (Below.refl _ _) _))), Lib.hid (two_new _ _ _), Lib.hid (below_drew' (below_alloc' (below_alloc' HB.out _) _))⟩
        · exact ⟨_, _, rfl, rfl, Lib.hid (two_new _ _ _), Lib.hid (Cw.later (heap_alloc_new wr (.cells #[.bool yc.cut, .int .i64 yc.off, .slice yp yn ycap] 48)) (below_drew' (below_alloc' (Below.refl _ _) _))), Lib.hid (below_drew' (below_alloc' (below_alloc' HB.out _) _))⟩
      case rest =>
        obtain ⟨g, h, rfl, rfl, HG, HH, HB6⟩ := hcut
        obtain ⟨g0, g1, g2⟩ := HG.out.cells
        obtain ⟨h0, h1, h2⟩ := HH.out.cells
        have e0 : (yc.cut != yc.cut) = false := by simp
        have e1 : (yc.off != yc.off) = false := by simp
        have HDX := Lib.hid (HFX.out.1.later HB6.out)
        have HDY := Lib.hid (HFY.out.1.later HB6.out)
        have HXN : Hid (xn ≤ maxLen) := Lib.hid (by have := HDK.out; unfold maxLen; omega)
        have HYN : Hid (yn ≤ maxLen) := Lib.hid (by have h1 := HFX.out.1.1; have h2 := HFY.out.1.1; have h3 := HXN.out; dsimp only at h1 h2; omega)
        obtain ⟨i1', j1', _⟩ := HK.out _ HB6.out
        go_wp2_with fail
        refine (tsame_any xp yp xn yn xcap ycap yc.dat yc.dat _ HXN.out HYN.out HDX.out HDY.out).mono ?_
        rintro e7 w7 ⟨rfl, nq7, rfl⟩
        have HB7 := Lib.hid (below_drewN HB6.out nq7)
        generalize wc.drewN nq7 = w7 at *
        rw [decide_eq_true (rfl : yc.dat = yc.dat)]
        go_wp2
        refine ⟨?_, by simp [intOf]; omega⟩
        first
          | exact ⟨k + 1, by omega, by go_num, HB7⟩
          | ((repeat apply Exists.intro); refine ⟨?_, rfl⟩; exact ⟨k + 1, by omega, by go_num, HB7⟩)
    · obtain rfl : k = m2 := by omega
      obtain ⟨i0, i1⟩ := (HI.out.later HB.out).cells
      go_wp2
      go_ret
      exact ⟨rfl, below_step HBA.out HB.out⟩
end Go.Proofs.Ytapobakolnlpmaa
