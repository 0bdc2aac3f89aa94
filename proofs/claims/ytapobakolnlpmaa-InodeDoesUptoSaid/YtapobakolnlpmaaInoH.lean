/- Layer 10: the program's Cut. -/
import Derived.Test.YtapobakolnlpmaaInoG
namespace Go.Proofs.Ytapobakolnlpmaa
set_option linter.unusedVariables false
open Go.RowKit Go.Lib

set_option maxRecDepth 100000 in
set_option maxHeartbeats 2000000 in
theorem icut_any (x : Ni) (k : Int) (w : World) (h : Ni.fit w x) (ho : x.fi.ok) (hk : InI64 k) :
    Calls Try.prog 9 #[x.v, .int .i64 k] w fun e w' => ∃ y : Ni, e = .returned (.tuple #[y.v, .int .i64 (cutE x.fi k)]) ∧ Ni.fit w' y ∧ y.fi = cutP x.fi k ∧ Below w.heap.size w w' := by
  obtain ⟨hn, hm, hzl, hll⟩ := Ni.len h ho
  have HN := Lib.hid fun W hW => inow_any x W hW ho
  have HC := Lib.hid fun W hW => iclone_any x W hW ho
  have HNB := Lib.hid (nowP_bound ho)
  have HOK := Lib.hid ho
  have HI := Lib.hid hk
  obtain ⟨p, n, c, q, m, d, zs, L⟩ := x
  have HB0 : Hid (Below w.heap.size w (w.alloc (.cells #[.slice p n c, .slice q m d] 25))) := Lib.hid ((Below.refl _ _).alloc (Nat.le_refl _) _)
  have HB1 : Hid (Below w.heap.size w ((w.alloc (.cells #[.slice p n c, .slice q m d] 25)).alloc (.cells #[.slice none 0 0, .slice none 0 0] 25))) := Lib.hid (HB0.out.alloc HB0.out.size _)
  have HZ1 : Hid (Iw ((w.alloc (.cells #[.slice p n c, .slice q m d] 25)).alloc (.cells #[.slice none 0 0, .slice none 0 0] 25)) (w.heap.size + 1) ni0) := Lib.hid (two_new _ _ _)
  have HI0 : Hid (Iw (w.alloc (.cells #[.slice p n c, .slice q m d] 25)) w.heap.size ⟨p, n, c, q, m, d, zs, L⟩) := Lib.hid (heap_alloc_new _ _)
  have HI1 : Hid (Iw ((w.alloc (.cells #[.slice p n c, .slice q m d] 25)).alloc (.cells #[.slice none 0 0, .slice none 0 0] 25)) w.heap.size ⟨p, n, c, q, m, d, zs, L⟩) := Lib.hid (HI0.out.later ((Below.refl _ _).alloc (Nat.le_refl _) _))
  obtain ⟨wA, hA⟩ : ∃ A, (w.alloc (.cells #[.slice p n c, .slice q m d] 25)).alloc (.cells #[.slice none 0 0, .slice none 0 0] 25) = A := ⟨_, rfl⟩
  have HF := Lib.hid h
  rw [hA] at HB1 HZ1 HI1
  have HSA : Hid (wA.heap.size = w.heap.size + 2) := Lib.hid (by rw [← hA]; simp)
  obtain ⟨k0, k1⟩ := HI1.out.cells
  generalize hF : Ni.fi ⟨p, n, c, q, m, d, zs, L⟩ = F at *
  clear h ho hF HB0 HI0 hk
  unfold Ni.v at HN HC ⊢
  go_enter Try.func9, Try.ntmps9
  go_wp2_with fail
  clear hA
  refine (HC.out _ (HF.out.later HB1.out)).mono ?_
  rintro e w2 ⟨⟨yp, yn, yc, yq, ym, yd, yz, yL⟩, rfl, hf2, hy2, ho2, ha2, hab2, hb2⟩
  have HXa : Hid (Below w2.heap.size w2 (w2.alloc (.cells #[.slice yp yn yc, .slice yq ym yd] 25))) := Lib.hid ((Below.refl _ _).alloc (Nat.le_refl _) _)
  have HF3 := Lib.hid (hf2.later HXa.out)
  have HY3 : Hid (Iw (w2.alloc (.cells #[.slice yp yn yc, .slice yq ym yd] 25)) w2.heap.size ⟨yp, yn, yc, yq, ym, yd, yz, yL⟩) := Lib.hid (heap_alloc_new _ _)
  have HYF := Lib.hid hy2
  have HO3 := Lib.hid (ho2.later HXa.out)
  have HA3 : Hid (Apart (.slice yq ym yd) yL) := Lib.hid ha2
  have HAB3 : Hid (ApB (.slice yq ym yd) yp yn) := Lib.hid hab2
  have HB3 := Lib.hid (below_step hb2 HXa.out)
  have HBW := Lib.hid (below_step HB1.out HB3.out)
  have HZ3 := Lib.hid (HZ1.out.later HB3.out)
  have HI3 := Lib.hid (HI1.out.later HB3.out)
  have HGE : Hid (w.heap.size + 2 ≤ w2.heap.size) := Lib.hid (by have := hb2.size; have := HSA.out; omega)
  clear hf2 hy2 ho2 ha2 hab2 hb2 HI1 HZ1 k0 k1
  obtain ⟨G, hG⟩ : ∃ G, w2.heap.size = G := ⟨_, rfl⟩
  obtain ⟨w3, hw3⟩ : ∃ W, w2.alloc (.cells #[.slice yp yn yc, .slice yq ym yd] 25) = W := ⟨_, rfl⟩
  rw [hw3, hG] at HY3
  rw [hw3] at HF3 HO3 HB3 HZ3 HI3 HBW
  rw [hG] at HGE
  have HK3 := HI3.out.cells
  obtain ⟨i0, i1⟩ := HI3.out.cells
  obtain ⟨j0, j1⟩ := HY3.out.cells
  obtain ⟨z0, z1⟩ := HZ3.out.cells
  have f0 := HZ3.out.frozen 0
  have f1 := HZ3.out.frozen 1
  by_cases hneg : k < 0
  · have HE : Hid (cutE F k = 20) := Lib.hid (by unfold cutE; rw [if_pos (Or.inl hneg)])
    have HP : Hid (cutP F k = F) := Lib.hid (by unfold cutP; rw [if_pos (Or.inl hneg)])
    have hb1 : decide (k < 0) = true := decide_eq_true hneg
    go_wp2
    clear hw3 hG
    refine bodyPost_ret (Iw.results_tmp (y := ⟨yp, yn, yc, yq, ym, yd, yz, yL⟩) (cells2_stored HZ3.out _ _) rfl _ rfl) rfl ?_
    refine ⟨_, by rw [HE.out]; rfl, HF3.out.stored HZ3.out.sl2 (stored2_keep _ _ _ _), by rw [HP.out]; exact HYF.out, (HBW.out.setCell (p := ⟨w.heap.size + 1, 0, none⟩) (Nat.le_succ _) _).setCell (p := ⟨w.heap.size + 1, 1, none⟩) (Nat.le_succ _) _⟩
  · go_wp2_with fail
    clear hw3 hG
    refine (HN.out _ (HF.out.later HBW.out)).mono ?_
    rintro e w4 ⟨v4, rfl, ho4, hb4⟩
    obtain ⟨p4, c4, hv4, _⟩ := ho4.open
    subst hv4
    have HBV := Lib.hid (below_step HBW.out hb4)
    have HB4 := Lib.hid (below_step HB3.out hb4)
    have HF4 := Lib.hid (HF3.out.later hb4)
    have HO4 : Hid (Ow w4 wA.heap.size (.slice yq ym yd) yL) := Lib.hid (HO3.out.later hb4)
    have HY4 := Lib.hid (HY3.out.later hb4)
    have HZ4 := Lib.hid (HZ3.out.later hb4)
    have hN1 := HNB.out
    generalize hNN : nowP F = N at *
    have HNN := Lib.hid hNN
    clear ho4 hb4 i0 i1 j0 j1 z0 z1 f0 f1 HK3 HO3 HF3 HY3 HZ3 HB3 HBW HI3 hNN HC HN
    obtain ⟨j0, j1⟩ := HY4.out.cells
    obtain ⟨z0, z1⟩ := HZ4.out.cells
    have f0 := HZ4.out.frozen 0
    have f1 := HZ4.out.frozen 1
    have g1 := HY4.out.frozen 1
    by_cases hbig : (N.length : Int) < k
    · have HE : Hid (cutE F k = 20) := Lib.hid (by unfold cutE; rw [HNN.out, if_pos (Or.inr hbig)])
      have HP : Hid (cutP F k = F) := Lib.hid (by unfold cutP; rw [HNN.out, if_pos (Or.inr hbig)])
      generalize N.length = nl at *
      go_wp2
      refine bodyPost_ret (Iw.results_tmp (y := ⟨yp, yn, yc, yq, ym, yd, yz, yL⟩) (cells2_stored HZ4.out _ _) rfl _ rfl) rfl ?_
      refine ⟨_, by rw [HE.out]; rfl, HF4.out.stored HZ4.out.sl2 (stored2_keep _ _ _ _), by rw [HP.out]; exact HYF.out, (HBV.out.setCell (p := ⟨w.heap.size + 1, 0, none⟩) (Nat.le_succ _) _).setCell (p := ⟨w.heap.size + 1, 1, none⟩) (Nat.le_succ _) _⟩
    · have HE : Hid (cutE F k = 0) := Lib.hid (by unfold cutE; rw [HNN.out, if_neg (by omega)])
      have HP : Hid (cutP F k = ⟨F.b, F.l ++ [⟨k, true, []⟩]⟩) := Lib.hid (by unfold cutP; rw [HNN.out, if_neg (by omega)])
      have HLY : Hid (yL.length = ym) := Lib.hid HO4.out.len
      have HYM : Hid (ym ≤ 1048576) := Lib.hid (by
        have h1 : yL.length = ym := HO4.out.len
        have h2 : (chs yL).length = F.l.length := by rw [← HYF.out]; rfl
        rw [chs_length] at h2
        have h3 := HOK.out.2.1
        omega)
      have HWS := Lib.hid (ws_one (w := w4) ⟨⟨k, true, []⟩, none, 0, 0⟩ ⟨Bs.empty _ _, fun _ => rfl, Nat.le_refl _, by simp, HI.out⟩)
      have HO6 := Lib.hid (HO4.out.alloc (.cells #[.bool true, .int .i64 k, .slice none 0 0] 48))
      have HX6 : Hid (Below w4.heap.size w4 (w4.alloc (.cells #[.bool true, .int .i64 k, .slice none 0 0] 48))) := Lib.hid ((Below.refl _ _).alloc (Nat.le_refl _) _)
      have HI6 := Lib.hid (HY4.out.later HX6.out)
      have HZ6 := Lib.hid (HZ4.out.later HX6.out)
      have HB6 := Lib.hid (below_step HB4.out HX6.out)
      have HL6 : Hid (Bs _ yp yn yz) := Lib.hid (HF4.out.1.later HX6.out)
      generalize N.length = nl at *
      go_wp2_with (refine wpList_append_wds rfl (.tmp 20) (.tmp 23) 23 rfl Try.underlying23 info48 wA.heap.size (.slice yq ym yd) yL rfl HO6.out HA3.out _ _ _ [⟨⟨k, true, []⟩, none, 0, 0⟩] rfl HWS.out (fun x hx => by obtain rfl := List.mem_singleton.1 hx; exact fun h => absurd h (Nat.lt_irrefl 0)) (fun h => by cases h) (by rw [HLY.out]; have := HYM.out; omega) HB6.out.size ?_; intro v6 w6 ho6 hg6; obtain ⟨q6, d6, hv6, hld6, _, hws6, hpn6⟩ := ho6.open; have hlen6 : (yL ++ [(⟨⟨k, true, []⟩, none, 0, 0⟩ : Wd)]).length = ym + 1 := (List.length_append.trans (by rw [HLY.out, List.length_singleton])); rw [hlen6] at hv6 hld6 hws6; subst hv6; have HI7 := Lib.hid (HI6.out.grown HO6.out hg6); have HZ7 := Lib.hid (HZ6.out.grown HO6.out hg6); have HL7 := Lib.hid (HL6.out.grown HAB3.out hg6); have HW7 := Lib.hid hws6; have HP7 := Lib.hid hpn6; have HD7 := Lib.hid hld6; have HB7 := Lib.hid (below_new_ow HB6.out HO6.out hg6 HB6.out.size); obtain ⟨k0, k1⟩ := HI7.out.cells; have h1 := HI7.out.frozen 1; have HI8 : Hid (Iw (w6.setCell ⟨G, 1, none⟩ (.slice q6 (ym + 1) d6)) G ⟨yp, yn, yc, q6, ym + 1, d6, yz, yL ++ [⟨⟨k, true, []⟩, none, 0, 0⟩]⟩) := Lib.hid (HI7.out.set1 _ _ _ _); have HZ8 : Hid (Iw (w6.setCell ⟨G, 1, none⟩ (.slice q6 (ym + 1) d6)) (w.heap.size + 1) ni0) := Lib.hid (by unfold Iw; rw [stored1_keep _ _ _ _ _ (by have := HGE.out; omega)]; exact HZ7.out); obtain ⟨a0, a1⟩ := HI8.out.cells; obtain ⟨b0, b1⟩ := HZ8.out.cells; have e0 := HZ8.out.frozen 0; have e1 := HZ8.out.frozen 1; clear ho6 hg6 hws6 hpn6 hld6 hlen6)
      have HF8 : Hid (Ni.fit (w6.setCell ⟨G, 1, none⟩ (.slice q6 (ym + 1) d6)) ⟨yp, yn, yc, q6, ym + 1, d6, yz, yL ++ [⟨⟨k, true, []⟩, none, 0, 0⟩]⟩) := Lib.hid ⟨HL7.out.stored HI7.out.sl2 (stored1_keep _ _ _ _), HF4.out.2.1, HF4.out.2.2.1, HW7.out.stored HI7.out.sl2 (stored1_keep _ _ _ _), HP7.out, HD7.out⟩
      have HB8 : Hid (Below w.heap.size w (w6.setCell ⟨G, 1, none⟩ (.slice q6 (ym + 1) d6))) := Lib.hid ((below_step HB1.out HB7.out).setCell (p := ⟨G, 1, none⟩) (by have := HGE.out; show w.heap.size ≤ G; omega) _)
      have HX8 : Hid (chs (yL ++ [⟨⟨k, true, []⟩, none, 0, 0⟩]) = F.l ++ [⟨k, true, []⟩]) := Lib.hid (by rw [← HYF.out]; simp [Ni.fi, chs])
      have HZB : Hid (yz = F.b) := Lib.hid (by rw [← HYF.out]; rfl)
      refine bodyPost_ret (Iw.results_tmp (y := ⟨yp, yn, yc, q6, ym + 1, d6, yz, yL ++ [⟨⟨k, true, []⟩, none, 0, 0⟩]⟩) (cells2_stored HZ8.out _ _) rfl _ rfl) rfl ?_
      refine ⟨_, by rw [HE.out]; rfl, HF8.out.stored HZ8.out.sl2 (stored2_keep _ _ _ _), ?_, (HB8.out.setCell (p := ⟨w.heap.size + 1, 0, none⟩) (Nat.le_succ _) _).setCell (p := ⟨w.heap.size + 1, 1, none⟩) (Nat.le_succ _) _⟩
      rw [HP.out]
      show Fi.mk yz (chs (yL ++ [⟨⟨k, true, []⟩, none, 0, 0⟩])) = _
      rw [HZB.out, HX8.out]
end Go.Proofs.Ytapobakolnlpmaa
