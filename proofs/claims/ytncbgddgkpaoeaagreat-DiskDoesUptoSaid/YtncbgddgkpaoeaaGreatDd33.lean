/- Layer 10: the program's Append; Layer 10: the program's Cut -/
import Derived.Test.YtncbgddgkpaoeaaGreatDd18
import Derived.Deep.RegionHeld3
import Derived.Deep.DeepCutAuto
import Derived.Deep.RegionLaw
set_option linter.unusedSimpArgs false
set_option linter.unusedVariables false
namespace Go.Proofs.YtncbgddgkpaoeaaGreat
set_option linter.unusedVariables false
open Go.RowKit Go.Lib

set_option maxRecDepth 100000 in
set_option maxHeartbeats 2000000 in
theorem iappend_any (x : Ni) (r : Option Addr) (l e : Nat) (bs : List Int) (w : World) (h : Ni.fit w x) (ho : x.fi.ok) (hb : Bs w r l bs) (hr : r = none → e = 0) (hle : l ≤ e) (hl : l ≤ 2097152) :
    Calls Tryz.prog 53 #[x.v, .slice r l e] w fun e w' => ∃ y : Ni, e = .returned (.tuple #[y.v, .int .i64 (appendE x.fi bs)]) ∧ Ni.fit w' y ∧ y.fi = appendP x.fi bs ∧ Below w.heap.size w w' := by
  obtain ⟨hn, hm, hzl, hll⟩ := Ni.len h ho
  have HN := Lib.hid fun W hW => inow_any x W hW ho
  have HC := Lib.hid fun W hW => iclone_any x W hW ho
  have HNB := Lib.hid (nowP_bound ho)
  have HOK := Lib.hid ho
  obtain ⟨p, n, c, q, m, d, zs, L⟩ := x
  have HB0 : Hid (Below w.heap.size w (w.alloc (.cells #[.slice p n c, .slice q m d] 73))) := Lib.hid ((Below.refl _ _).alloc (Nat.le_refl _) _)
  have HB1 : Hid (Below w.heap.size w ((w.alloc (.cells #[.slice p n c, .slice q m d] 73)).alloc (.cells #[.slice none 0 0, .slice none 0 0] 73))) := Lib.hid (HB0.out.alloc HB0.out.size _)
  have HZ1 : Hid (Iw ((w.alloc (.cells #[.slice p n c, .slice q m d] 73)).alloc (.cells #[.slice none 0 0, .slice none 0 0] 73)) (w.heap.size + 1) ni0) := Lib.hid (two_new _ _ _)
  have HI0 : Hid (Iw (w.alloc (.cells #[.slice p n c, .slice q m d] 73)) w.heap.size ⟨p, n, c, q, m, d, zs, L⟩) := Lib.hid (heap_alloc_new _ _)
  have HI1 : Hid (Iw ((w.alloc (.cells #[.slice p n c, .slice q m d] 73)).alloc (.cells #[.slice none 0 0, .slice none 0 0] 73)) w.heap.size ⟨p, n, c, q, m, d, zs, L⟩) := Lib.hid (HI0.out.later ((Below.refl _ _).alloc (Nat.le_refl _) _))
  obtain ⟨wA, hA⟩ : ∃ A, (w.alloc (.cells #[.slice p n c, .slice q m d] 73)).alloc (.cells #[.slice none 0 0, .slice none 0 0] 73) = A := ⟨_, rfl⟩
  have HF := Lib.hid h
  rw [hA] at HB1 HZ1 HI1
  have HSA : Hid (wA.heap.size = w.heap.size + 2) := Lib.hid (by rw [← hA]; simp)
  have HD0 : Hid (Below wA.heap.size wA wA.drew) := Lib.hid ((Below.refl _ _).drew)
  have HD1 : Hid (Below wA.heap.size wA (wA.drew.alloc (.cells #[.slice none 0 0, .slice none 0 0] 73))) := Lib.hid (HD0.out.alloc HD0.out.size _)
  have HZa : Hid (Iw (wA.drew.alloc (.cells #[.slice none 0 0, .slice none 0 0] 73)) wA.heap.size ni0) := Lib.hid (heap_alloc_new wA.drew _)
  have HK : Hid (∀ W, Below wA.heap.size wA W → W.cell? ⟨w.heap.size, 0, none⟩ = some (.slice p n c) ∧ W.cell? ⟨w.heap.size, 1, none⟩ = some (.slice q m d)) := Lib.hid fun W hW => (HI1.out.later hW).cells
  have HFA := Lib.hid fun W (hW : Below wA.heap.size wA W) => HF.out.later (below_step HB1.out hW)
  have k1 := HK.out _ (Below.refl _ _)
  have k0 := HK.out _ HD0.out
  have k0b := HK.out _ HD1.out
  generalize hF : Ni.fi ⟨p, n, c, q, m, d, zs, L⟩ = F at *
  clear h ho hF HB0 HI0
  unfold Ni.v at HN HC ⊢
  go_enter Tryz.func53, Tryz.ntmps53
  go_wp2_with fail
  clear hA
  go_upto_region 1 with fail
  go_cut [6, 7] (fun g nl wx => ∃ (G : Nat) (y : Ni), g = .pointer (some ⟨G, 0, none⟩) ∧ nl = .int .i64 ((nowP F).length : Int) ∧ Hid (Iw wx G y) ∧ Hid (Ni.fit wx y) ∧ Hid (y.fi = F) ∧ Hid (Ow wx wA.heap.size (.slice y.q y.m y.d) y.L) ∧ Hid (Apart (.slice y.q y.m y.d) y.L) ∧ Hid (ApB (.slice y.q y.m y.d) y.p y.n) ∧ Hid (Below wA.heap.size wA wx) ∧ Hid (wA.heap.size ≤ G))
  case first =>
    go_region_held3 (fun W => W.cell? ⟨w.heap.size, 0, none⟩ = some (.slice p n c) ∧ W.cell? ⟨w.heap.size, 1, none⟩ = some (.slice q m d)) (first | exact k0 | exact k1 | exact k0b | exact k2 | exact k2b | exact k3 | exact k3b | exact k3c | exact k3d | exact k3e) (first
      | (go_at_call 88; refine (HC.out _ (by first | exact HFA.out _ HD0.out | exact HFA.out _ HD1.out)).mono ?_; rintro e w2 ⟨⟨yp, yn, yc, yq, ym, yd, yz, yL⟩, rfl, hf2, hy2, ho2, ha2, hab2, hb2⟩; have HAB2 := Lib.hid hab2; have HF2 := Lib.hid hf2; have HY2 := Lib.hid hy2; have HA2 := Lib.hid ha2; have HB2 : Hid (Below wA.heap.size wA w2) := Lib.hid (by first | exact below_step HD0.out hb2 | exact below_step HD1.out hb2); have HO2 : Hid (Ow w2 wA.heap.size (.slice yq ym yd) yL) := Lib.hid (by first | exact ho2.mono HD0.out.size | exact ho2.mono HD1.out.size); have k2 := HK.out _ HB2.out; have HB2b := Lib.hid (HB2.out.alloc HB2.out.size (.cells #[.slice none 0 0, .slice none 0 0] 73)); have k2b := HK.out _ HB2b.out; have HZb : Hid (Iw (w2.alloc (.cells #[.slice none 0 0, .slice none 0 0] 73)) w2.heap.size ni0) := Lib.hid (heap_alloc_new _ _); (try have HZ2 := Lib.hid (HZa.out.later hb2)); clear hf2 hy2 ho2 ha2 hab2 hb2)
      | (go_at_call 89; refine (HN.out _ (by first | exact HFA.out _ HB2.out | exact HFA.out _ HB2b.out)).mono ?_; rintro e w3 ⟨v3, rfl, ho3, hb3⟩; have HO3 := Lib.hid ho3; have HB3 : Hid (Below wA.heap.size wA w3) := Lib.hid (by first | exact below_step HB2.out hb3 | exact below_step HB2b.out hb3); have HX3 : Hid (Below w2.heap.size w2 w3) := Lib.hid (by first | exact hb3 | exact below_step ((Below.refl _ _).alloc (Nat.le_refl _) _) hb3); have k3 := HK.out _ HB3.out; have k3b := HK.out _ (HB3.out.alloc HB3.out.size (.cells #[.slice none 0 0, .slice none 0 0] 73)); have k3c := HK.out _ (HB3.out.alloc HB3.out.size (.cells #[.slice yp yn yc, .slice yq ym yd] 73)); have k3d := HK.out _ ((HB3.out.setCell (p := ⟨wA.heap.size, 0, none⟩) (Nat.le_refl _) (.slice yp yn yc)).setCell (p := ⟨wA.heap.size, 1, none⟩) (Nat.le_refl _) (.slice yq ym yd)); have k3e := HK.out _ ((HB3.out.setCell (p := ⟨w2.heap.size, 0, none⟩) HB2.out.size (.slice yp yn yc)).setCell (p := ⟨w2.heap.size, 1, none⟩) HB2.out.size (.slice yq ym yd)); (try (have HZ3 := Lib.hid (HZ2.out.later HX3.out); obtain ⟨z0, z1⟩ := HZ3.out.cells; have f0 := HZ3.out.frozen 0; have f1 := HZ3.out.frozen 1)); (try (have HZ3 := Lib.hid (HZb.out.later hb3); obtain ⟨z0, z1⟩ := HZ3.out.cells; have f0 := HZ3.out.frozen 0; have f1 := HZ3.out.frozen 1)); obtain ⟨p3, c3, hv3, _⟩ := ho3.open; subst hv3; clear ho3 hb3))
    all_goals (go_wp2_with fail)
    all_goals go_meet
    all_goals (first
      | exact ⟨_, ⟨yp, yn, yc, yq, ym, yd, yz, yL⟩, rfl, rfl, Lib.hid (heap_alloc_new _ _), Lib.hid ((HF2.out.later HX3.out).later ((Below.refl _ _).alloc (Nat.le_refl _) _)), HY2, Lib.hid ((HO2.out.later HX3.out).alloc _), HA2, HAB2, Lib.hid (HB3.out.alloc HB3.out.size _), Lib.hid HB3.out.size⟩
      | exact ⟨_, ⟨yp, yn, yc, yq, ym, yd, yz, yL⟩, rfl, rfl, Lib.hid (cells2_stored HZ3.out _ _), Lib.hid ((HF2.out.later HX3.out).stored HZ3.out.sl2 (stored2_keep _ _ _ _)), HY2, Lib.hid ((HO2.out.later HX3.out).stored HZ3.out (stored2_keep _ _ _ _)), HA2, HAB2, Lib.hid ((HB3.out.setCell (p := ⟨w2.heap.size, 0, none⟩) HB2.out.size _).setCell (p := ⟨w2.heap.size, 1, none⟩) HB2.out.size _), Lib.hid HB2.out.size⟩
      | exact ⟨_, ⟨yp, yn, yc, yq, ym, yd, yz, yL⟩, rfl, rfl, Lib.hid (cells2_stored HZ3.out _ _), Lib.hid ((HF2.out.later HX3.out).stored HZ3.out.sl2 (stored2_keep _ _ _ _)), HY2, Lib.hid ((HO2.out.later HX3.out).stored HZ3.out (stored2_keep _ _ _ _)), HA2, HAB2, Lib.hid ((HB3.out.setCell (p := ⟨wA.heap.size, 0, none⟩) (Nat.le_refl _) _).setCell (p := ⟨wA.heap.size, 1, none⟩) (Nat.le_refl _) _), Lib.hid (Nat.le_refl _)⟩)
  case rest =>
    obtain ⟨G, ⟨yp, yn, yc, yq, ym, yd, yz, yL⟩, rfl, rfl, HY4, HF4, HYF, HO4, HA4, HAB4, HB4, HG⟩ := hcut
    have HZ4 := Lib.hid (HZ1.out.later HB4.out)
    have HBW : Hid (Below w.heap.size w wc) := Lib.hid (below_step HB1.out HB4.out)
    have HGE : Hid (w.heap.size + 2 ≤ G) := Lib.hid (by have := HG.out; have := HSA.out; omega)
    have HGL := Lib.hid HY4.out.lt
    have HBS := Lib.hid (hb.later HBW.out)
    obtain ⟨i0, i1⟩ := HY4.out.cells
    obtain ⟨z0, z1⟩ := HZ4.out.cells
    have f0 := HZ4.out.frozen 0
    have f1 := HZ4.out.frozen 1
    generalize hNN : nowP F = N at *
    have HNN := Lib.hid hNN
    have hNl := HNB.out
    have hBl := hb.1
    clear hNN HK HI1 HF HZ1 HD0 HD1 HN HC HNB HFA HZa k0 k1 k0b hb
    by_cases hcase : 1048576 < N.length + l
    · have HE : Hid (appendE F bs = 18) := Lib.hid (by unfold appendE; rw [HNN.out, hBl, if_pos hcase])
      have HP : Hid (appendP F bs = F) := Lib.hid (by unfold appendP; rw [HNN.out, hBl, if_pos hcase])
      have hc1 : decide ((N.length : Int) + (l : Int) > 1048576) = true := by simp; omega
      generalize N.length = nl at *
      clear hcase hBl
      go_wp2
      refine bodyPost_ret (Iw.results_tmp (y := ⟨yp, yn, yc, yq, ym, yd, yz, yL⟩) (cells2_stored HZ4.out _ _) rfl _ rfl) rfl ?_
      refine ⟨_, by rw [HE.out]; rfl, HF4.out.stored HZ4.out.sl2 (stored2_keep _ _ _ _), by rw [HP.out]; exact HYF.out, (HBW.out.setCell (p := ⟨w.heap.size + 1, 0, none⟩) (Nat.le_succ _) _).setCell (p := ⟨w.heap.size + 1, 1, none⟩) (Nat.le_succ _) _⟩
    · have HE : Hid (appendE F bs = 0) := Lib.hid (by unfold appendE; rw [HNN.out, hBl, if_neg hcase])
      have hc1 : decide ((N.length : Int) + (l : Int) > 1048576) = false := by simp; omega
      by_cases hl0 : l = 0
      · have HP : Hid (appendP F bs = F) := Lib.hid (by unfold appendP; rw [HNN.out, hBl, if_neg hcase, if_pos hl0])
        have hl1 : ¬ 0 < l := by omega
        generalize N.length = nl at *
        clear hcase hBl hl0
        go_wp2
        refine bodyPost_ret (Iw.results_tmp (y := ⟨yp, yn, yc, yq, ym, yd, yz, yL⟩) (cells2_stored HZ4.out _ _) rfl _ rfl) rfl ?_
        refine ⟨_, by rw [HE.out]; rfl, HF4.out.stored HZ4.out.sl2 (stored2_keep _ _ _ _), by rw [HP.out]; exact HYF.out, (HBW.out.setCell (p := ⟨w.heap.size + 1, 0, none⟩) (Nat.le_succ _) _).setCell (p := ⟨w.heap.size + 1, 1, none⟩) (Nat.le_succ _) _⟩
      · have HP : Hid (appendP F bs = ⟨F.b, F.l ++ [⟨(N.length : Int), false, bs⟩]⟩) := Lib.hid (by unfold appendP; rw [HNN.out, hBl, if_neg hcase, if_neg hl0])
        have hl1 : 0 < l := by omega
        generalize N.length = nl at *
        clear hcase hBl hl0
        have HD := Lib.hid (show Below wc.heap.size wc wc.drew from (Below.refl _ _).drew)
        have hbl := HBS.out.1
        have HLY : Hid (yL.length = ym) := Lib.hid HO4.out.len
        have HNI : Hid (InI64 (nl : Int)) := Lib.hid (by unfold InI64; omega)
        have HYM : Hid (ym ≤ 1048576) := Lib.hid (by
          have h1 : yL.length = ym := HO4.out.len
          have h2 : (chs yL).length = F.l.length := by rw [← HYF.out]; rfl
          rw [chs_length] at h2
          have h3 := HOK.out.2.1
          omega)
        go_wp2_with fail
        go_region_law (first
            | (go_simp; go_at_call 28; refine (wclone_any r l e bs _ (HBS.out.later HD.out) hr hl).mono ?_; rintro e5 w5 ⟨v5, rfl, ho5, hb5⟩; obtain ⟨p5, c5, hv5, hlc5, hcm5, hbs5, hpn5⟩ := ho5.open; rw [hbl] at hv5 hlc5 hbs5; subst hv5; have HB5 := Lib.hid (below_step HD.out hb5); have HAM := Lib.hid (apB_of ho5 HO4.out HD.out.size); have HWS := Lib.hid (ws_one (w := w5) ⟨⟨(nl : Int), false, bs⟩, p5, l, c5⟩ ⟨hbs5, hpn5, hlc5, hcm5, HNI.out⟩); have HO6 := Lib.hid ((HO4.out.later HB5.out).alloc (.cells #[.bool false, .int .i64 (nl : Int), .slice p5 l c5] 137)); have HBX := Lib.hid (HB5.out.alloc HB5.out.size (.cells #[.bool false, .int .i64 (nl : Int), .slice p5 l c5] 137)); have HI6 := Lib.hid (HY4.out.later HBX.out); obtain ⟨l0, l1⟩ := (HY4.out.later HB5.out).cells; obtain ⟨n0, n1⟩ := HI6.out.cells; have HZ6 := Lib.hid (HZ4.out.later HBX.out); have HB6 := Lib.hid (HB4.out.trans (HBX.out.mono HB4.out.size)); have HL6 := Lib.hid (HF4.out.1.later HBX.out); clear ho5 hb5 hbs5 hpn5 hlc5 hcm5)
            | (refine step_append_wds rfl (.tmp 25) (.tmp 30) 71 rfl Tryz.underlying71 info48 wA.heap.size (.slice yq ym yd) yL rfl HO6.out HA4.out _ _ _ [⟨⟨(nl : Int), false, bs⟩, p5, l, c5⟩] rfl HWS.out (fun x hx => by obtain rfl := List.mem_singleton.1 hx; exact HAM.out) (fun h => by cases h) (by rw [HLY.out]; have := HYM.out; omega) HB6.out.size ?_; intro v6 w6 ho6 hg6; obtain ⟨q6, d6, hv6, hld6, _, hws6, hpn6⟩ := ho6.open; have hlen6 : (yL ++ [(⟨⟨(nl : Int), false, bs⟩, p5, l, c5⟩ : Wd)]).length = ym + 1 := (List.length_append.trans (by rw [HLY.out, List.length_singleton])); rw [hlen6] at hv6 hld6 hws6; subst hv6; have HI7 := Lib.hid (HI6.out.grown HO6.out hg6); have HZ7 := Lib.hid (HZ6.out.grown HO6.out hg6); have HL7 := Lib.hid (HL6.out.grown HAB4.out hg6); have HW7 := Lib.hid hws6; have HP7 := Lib.hid hpn6; have HD7 := Lib.hid hld6; have HB7 := Lib.hid (below_new_ow HB6.out HO6.out hg6 HB6.out.size); obtain ⟨j0, j1⟩ := HI7.out.cells; have g1 := HI7.out.frozen 1; clear ho6 hg6 hws6 hpn6 hld6 hlen6))
        all_goals (
          have HI8 : Hid (Iw (w6.setCell ⟨G, 1, none⟩ (.slice q6 (ym + 1) d6)) G ⟨yp, yn, yc, q6, ym + 1, d6, yz, yL ++ [⟨⟨(nl : Int), false, bs⟩, p5, l, c5⟩]⟩) := Lib.hid (HI7.out.set1 _ _ _ _)
          have HF8 : Hid (Ni.fit (w6.setCell ⟨G, 1, none⟩ (.slice q6 (ym + 1) d6)) ⟨yp, yn, yc, q6, ym + 1, d6, yz, yL ++ [⟨⟨(nl : Int), false, bs⟩, p5, l, c5⟩]⟩) := Lib.hid ⟨HL7.out.stored HI7.out.sl2 (stored1_keep _ _ _ _), HF4.out.2.1, HF4.out.2.2.1, HW7.out.stored HI7.out.sl2 (stored1_keep _ _ _ _), HP7.out, HD7.out⟩
          have HZ8 : Hid (Iw (w6.setCell ⟨G, 1, none⟩ (.slice q6 (ym + 1) d6)) (w.heap.size + 1) ni0) := Lib.hid (by
            unfold Iw
            rw [stored1_keep _ _ _ _ _ (by have := HGE.out; omega)]
            exact HZ7.out)
          have HB8 : Hid (Below w.heap.size w (w6.setCell ⟨G, 1, none⟩ (.slice q6 (ym + 1) d6))) := Lib.hid ((below_step HB1.out HB7.out).setCell (p := ⟨G, 1, none⟩) (by have := HGE.out; show w.heap.size ≤ G; omega) _)
          have HX8 : Hid (chs (yL ++ [⟨⟨(nl : Int), false, bs⟩, p5, l, c5⟩]) = F.l ++ [⟨(nl : Int), false, bs⟩]) := Lib.hid (by rw [← HYF.out]; simp [Ni.fi, chs])
          have HZB : Hid (yz = F.b) := Lib.hid (by rw [← HYF.out]; rfl)
          clear HI7 HZ7 HB7 HW7 HL7 HB6 HL6 HZ6 HI6 HBX HO6 HWS HAM HB5 j0 j1 g1 l0 l1 n0 n1 HO4 HA4 HAB4
          generalize w6.setCell ⟨G, 1, none⟩ (.slice q6 (ym + 1) d6) = w7 at *
          generalize yL ++ [⟨⟨(nl : Int), false, bs⟩, p5, l, c5⟩] = L7 at *
          obtain ⟨a0, a1⟩ := HI8.out.cells
          obtain ⟨b0, b1⟩ := HZ8.out.cells
          have e0 := HZ8.out.frozen 0
          have e1 := HZ8.out.frozen 1
          go_wp2
          refine bodyPost_ret (Iw.results_tmp (y := ⟨yp, yn, yc, q6, ym + 1, d6, yz, L7⟩) (cells2_stored HZ8.out _ _) rfl _ rfl) rfl ?_
          refine ⟨_, by rw [HE.out]; rfl, HF8.out.stored HZ8.out.sl2 (stored2_keep _ _ _ _), ?_, (HB8.out.setCell (p := ⟨w.heap.size + 1, 0, none⟩) (Nat.le_succ _) _).setCell (p := ⟨w.heap.size + 1, 1, none⟩) (Nat.le_succ _) _⟩
          rw [HP.out]
          show Fi.mk yz (chs L7) = _
          rw [HZB.out, HX8.out])
end Go.Proofs.YtncbgddgkpaoeaaGreat

namespace Go.Proofs.YtncbgddgkpaoeaaGreat
set_option linter.unusedVariables false
open Go.RowKit Go.Lib

set_option maxRecDepth 100000 in
set_option maxHeartbeats 2000000 in
theorem icut_any (x : Ni) (k : Int) (w : World) (h : Ni.fit w x) (ho : x.fi.ok) (hk : InI64 k) :
    Calls Tryz.prog 70 #[x.v, .int .i64 k] w fun e w' => ∃ y : Ni, e = .returned (.tuple #[y.v, .int .i64 (cutE x.fi k)]) ∧ Ni.fit w' y ∧ y.fi = cutP x.fi k ∧ Below w.heap.size w w' := by
  obtain ⟨hn, hm, hzl, hll⟩ := Ni.len h ho
  have HN := Lib.hid fun W hW => inow_any x W hW ho
  have HC := Lib.hid fun W hW => iclone_any x W hW ho
  have HNB := Lib.hid (nowP_bound ho)
  have HOK := Lib.hid ho
  have HI := Lib.hid hk
  obtain ⟨p, n, c, q, m, d, zs, L⟩ := x
  have HB0 : Hid (Below w.heap.size w (w.alloc (.cells #[.slice p n c, .slice q m d] 73))) := Lib.hid ((Below.refl _ _).alloc (Nat.le_refl _) _)
  have HB1 : Hid (Below w.heap.size w ((w.alloc (.cells #[.slice p n c, .slice q m d] 73)).alloc (.cells #[.slice none 0 0, .slice none 0 0] 73))) := Lib.hid (HB0.out.alloc HB0.out.size _)
  have HZ1 : Hid (Iw ((w.alloc (.cells #[.slice p n c, .slice q m d] 73)).alloc (.cells #[.slice none 0 0, .slice none 0 0] 73)) (w.heap.size + 1) ni0) := Lib.hid (two_new _ _ _)
  have HI0 : Hid (Iw (w.alloc (.cells #[.slice p n c, .slice q m d] 73)) w.heap.size ⟨p, n, c, q, m, d, zs, L⟩) := Lib.hid (heap_alloc_new _ _)
  have HI1 : Hid (Iw ((w.alloc (.cells #[.slice p n c, .slice q m d] 73)).alloc (.cells #[.slice none 0 0, .slice none 0 0] 73)) w.heap.size ⟨p, n, c, q, m, d, zs, L⟩) := Lib.hid (HI0.out.later ((Below.refl _ _).alloc (Nat.le_refl _) _))
  obtain ⟨wA, hA⟩ : ∃ A, (w.alloc (.cells #[.slice p n c, .slice q m d] 73)).alloc (.cells #[.slice none 0 0, .slice none 0 0] 73) = A := ⟨_, rfl⟩
  have HF := Lib.hid h
  rw [hA] at HB1 HZ1 HI1
  have HSA : Hid (wA.heap.size = w.heap.size + 2) := Lib.hid (by rw [← hA]; simp)
  obtain ⟨k0, k1⟩ := HI1.out.cells
  generalize hF : Ni.fi ⟨p, n, c, q, m, d, zs, L⟩ = F at *
  clear h ho hF HB0 HI0 hk
  unfold Ni.v at HN HC ⊢
  go_enter Tryz.func70, Tryz.ntmps70
  go_wp2_with fail
  clear hA
  refine (HC.out _ (HF.out.later HB1.out)).mono ?_
  rintro e w2 ⟨⟨yp, yn, yc, yq, ym, yd, yz, yL⟩, rfl, hf2, hy2, ho2, ha2, hab2, hb2⟩
  have HXa : Hid (Below w2.heap.size w2 (w2.alloc (.cells #[.slice yp yn yc, .slice yq ym yd] 73))) := Lib.hid ((Below.refl _ _).alloc (Nat.le_refl _) _)
  have HF3 := Lib.hid (hf2.later HXa.out)
  have HY3 : Hid (Iw (w2.alloc (.cells #[.slice yp yn yc, .slice yq ym yd] 73)) w2.heap.size ⟨yp, yn, yc, yq, ym, yd, yz, yL⟩) := Lib.hid (heap_alloc_new _ _)
  have HYF := Lib.hid hy2
  have HO3 := Lib.hid (ho2.later HXa.out)
  have HA3 : Hid (Apart (.slice yq ym yd) yL) := Lib.hid ha2
  have HAB3 : Hid (ApB (.slice yq ym yd) yp yn) := Lib.hid hab2
  have HB3 := Lib.hid (below_step hb2 HXa.out)
  have HBW := Lib.hid (below_step HB1.out HB3.out)
  have HZ3 := Lib.hid (HZ1.out.later HB3.out)
  have HI3 := Lib.hid (HI1.out.later HB3.out)
  have HGE : Hid (w.heap.size + 2 ≤ w2.heap.size) := Lib.hid (by have := hb2.size; have := HSA.out; omega)
  clear hf2 hy2 ho2 ha2 hab2 hb2 HI1 HZ1 k0 k1
  obtain ⟨G, hG⟩ : ∃ G, w2.heap.size = G := ⟨_, rfl⟩
  obtain ⟨w3, hw3⟩ : ∃ W, w2.alloc (.cells #[.slice yp yn yc, .slice yq ym yd] 73) = W := ⟨_, rfl⟩
  rw [hw3, hG] at HY3
  rw [hw3] at HF3 HO3 HB3 HZ3 HI3 HBW
  rw [hG] at HGE
  have HK3 := HI3.out.cells
  obtain ⟨i0, i1⟩ := HI3.out.cells
  obtain ⟨j0, j1⟩ := HY3.out.cells
  obtain ⟨z0, z1⟩ := HZ3.out.cells
  have f0 := HZ3.out.frozen 0
  have f1 := HZ3.out.frozen 1
  by_cases hneg : k < 0
  · have HE : Hid (cutE F k = 20) := Lib.hid (by unfold cutE; rw [if_pos (Or.inl hneg)])
    have HP : Hid (cutP F k = F) := Lib.hid (by unfold cutP; rw [if_pos (Or.inl hneg)])
    have hb1 : decide (k < 0) = true := decide_eq_true hneg
    go_wp2
    clear hw3 hG
    refine bodyPost_ret (Iw.results_tmp (y := ⟨yp, yn, yc, yq, ym, yd, yz, yL⟩) (cells2_stored HZ3.out _ _) rfl _ rfl) rfl ?_
    refine ⟨_, by rw [HE.out]; rfl, HF3.out.stored HZ3.out.sl2 (stored2_keep _ _ _ _), by rw [HP.out]; exact HYF.out, (HBW.out.setCell (p := ⟨w.heap.size + 1, 0, none⟩) (Nat.le_succ _) _).setCell (p := ⟨w.heap.size + 1, 1, none⟩) (Nat.le_succ _) _⟩
  · go_wp2_with fail
    clear hw3 hG
    refine (HN.out _ (HF.out.later HBW.out)).mono ?_
    rintro e w4 ⟨v4, rfl, ho4, hb4⟩
    obtain ⟨p4, c4, hv4, _⟩ := ho4.open
    subst hv4
    have HBV := Lib.hid (below_step HBW.out hb4)
    have HB4 := Lib.hid (below_step HB3.out hb4)
    have HF4 := Lib.hid (HF3.out.later hb4)
    have HO4 : Hid (Ow w4 wA.heap.size (.slice yq ym yd) yL) := Lib.hid (HO3.out.later hb4)
    have HY4 := Lib.hid (HY3.out.later hb4)
    have HZ4 := Lib.hid (HZ3.out.later hb4)
    have hN1 := HNB.out
    generalize hNN : nowP F = N at *
    have HNN := Lib.hid hNN
    clear ho4 hb4 i0 i1 j0 j1 z0 z1 f0 f1 HK3 HO3 HF3 HY3 HZ3 HB3 HBW HI3 hNN HC HN
    obtain ⟨j0, j1⟩ := HY4.out.cells
    obtain ⟨z0, z1⟩ := HZ4.out.cells
    have f0 := HZ4.out.frozen 0
    have f1 := HZ4.out.frozen 1
    have g1 := HY4.out.frozen 1
    by_cases hbig : (N.length : Int) < k
    · have HE : Hid (cutE F k = 20) := Lib.hid (by unfold cutE; rw [HNN.out, if_pos (Or.inr hbig)])
      have HP : Hid (cutP F k = F) := Lib.hid (by unfold cutP; rw [HNN.out, if_pos (Or.inr hbig)])
      generalize N.length = nl at *
      go_wp2
      refine bodyPost_ret (Iw.results_tmp (y := ⟨yp, yn, yc, yq, ym, yd, yz, yL⟩) (cells2_stored HZ4.out _ _) rfl _ rfl) rfl ?_
      refine ⟨_, by rw [HE.out]; rfl, HF4.out.stored HZ4.out.sl2 (stored2_keep _ _ _ _), by rw [HP.out]; exact HYF.out, (HBV.out.setCell (p := ⟨w.heap.size + 1, 0, none⟩) (Nat.le_succ _) _).setCell (p := ⟨w.heap.size + 1, 1, none⟩) (Nat.le_succ _) _⟩
    · have HE : Hid (cutE F k = 0) := Lib.hid (by unfold cutE; rw [HNN.out, if_neg (by omega)])
      have HP : Hid (cutP F k = ⟨F.b, F.l ++ [⟨k, true, []⟩]⟩) := Lib.hid (by unfold cutP; rw [HNN.out, if_neg (by omega)])
      have HLY : Hid (yL.length = ym) := Lib.hid HO4.out.len
      have HYM : Hid (ym ≤ 1048576) := Lib.hid (by
        have h1 : yL.length = ym := HO4.out.len
        have h2 : (chs yL).length = F.l.length := by rw [← HYF.out]; rfl
        rw [chs_length] at h2
        have h3 := HOK.out.2.1
        omega)
      have HWS := Lib.hid (ws_one (w := w4) ⟨⟨k, true, []⟩, none, 0, 0⟩ ⟨Bs.empty _ _, fun _ => rfl, Nat.le_refl _, by simp, HI.out⟩)
      have HO6 := Lib.hid (HO4.out.alloc (.cells #[.bool true, .int .i64 k, .slice none 0 0] 137))
      have HX6 : Hid (Below w4.heap.size w4 (w4.alloc (.cells #[.bool true, .int .i64 k, .slice none 0 0] 137))) := Lib.hid ((Below.refl _ _).alloc (Nat.le_refl _) _)
      have HI6 := Lib.hid (HY4.out.later HX6.out)
      have HZ6 := Lib.hid (HZ4.out.later HX6.out)
      have HB6 := Lib.hid (below_step HB4.out HX6.out)
      have HL6 : Hid (Bs _ yp yn yz) := Lib.hid (HF4.out.1.later HX6.out)
      generalize N.length = nl at *
      go_wp2_with (refine wpList_append_wds rfl (.tmp 20) (.tmp 23) 71 rfl Tryz.underlying71 info48 wA.heap.size (.slice yq ym yd) yL rfl HO6.out HA3.out _ _ _ [⟨⟨k, true, []⟩, none, 0, 0⟩] rfl HWS.out (fun x hx => by obtain rfl := List.mem_singleton.1 hx; exact fun h => absurd h (Nat.lt_irrefl 0)) (fun h => by cases h) (by rw [HLY.out]; have := HYM.out; omega) HB6.out.size ?_; intro v6 w6 ho6 hg6; obtain ⟨q6, d6, hv6, hld6, _, hws6, hpn6⟩ := ho6.open; have hlen6 : (yL ++ [(⟨⟨k, true, []⟩, none, 0, 0⟩ : Wd)]).length = ym + 1 := (List.length_append.trans (by rw [HLY.out, List.length_singleton])); rw [hlen6] at hv6 hld6 hws6; subst hv6; have HI7 := Lib.hid (HI6.out.grown HO6.out hg6); have HZ7 := Lib.hid (HZ6.out.grown HO6.out hg6); have HL7 := Lib.hid (HL6.out.grown HAB3.out hg6); have HW7 := Lib.hid hws6; have HP7 := Lib.hid hpn6; have HD7 := Lib.hid hld6; have HB7 := Lib.hid (below_new_ow HB6.out HO6.out hg6 HB6.out.size); obtain ⟨k0, k1⟩ := HI7.out.cells; have h1 := HI7.out.frozen 1; have HI8 : Hid (Iw (w6.setCell ⟨G, 1, none⟩ (.slice q6 (ym + 1) d6)) G ⟨yp, yn, yc, q6, ym + 1, d6, yz, yL ++ [⟨⟨k, true, []⟩, none, 0, 0⟩]⟩) := Lib.hid (HI7.out.set1 _ _ _ _); have HZ8 : Hid (Iw (w6.setCell ⟨G, 1, none⟩ (.slice q6 (ym + 1) d6)) (w.heap.size + 1) ni0) := Lib.hid (by unfold Iw; rw [stored1_keep _ _ _ _ _ (by have := HGE.out; omega)]; exact HZ7.out); obtain ⟨a0, a1⟩ := HI8.out.cells; obtain ⟨b0, b1⟩ := HZ8.out.cells; have e0 := HZ8.out.frozen 0; have e1 := HZ8.out.frozen 1; clear ho6 hg6 hws6 hpn6 hld6 hlen6)
      have HF8 : Hid (Ni.fit (w6.setCell ⟨G, 1, none⟩ (.slice q6 (ym + 1) d6)) ⟨yp, yn, yc, q6, ym + 1, d6, yz, yL ++ [⟨⟨k, true, []⟩, none, 0, 0⟩]⟩) := Lib.hid ⟨HL7.out.stored HI7.out.sl2 (stored1_keep _ _ _ _), HF4.out.2.1, HF4.out.2.2.1, HW7.out.stored HI7.out.sl2 (stored1_keep _ _ _ _), HP7.out, HD7.out⟩
      have HB8 : Hid (Below w.heap.size w (w6.setCell ⟨G, 1, none⟩ (.slice q6 (ym + 1) d6))) := Lib.hid ((below_step HB1.out HB7.out).setCell (p := ⟨G, 1, none⟩) (by have := HGE.out; show w.heap.size ≤ G; omega) _)
      have HX8 : Hid (chs (yL ++ [⟨⟨k, true, []⟩, none, 0, 0⟩]) = F.l ++ [⟨k, true, []⟩]) := Lib.hid (by rw [← HYF.out]; simp [Ni.fi, chs])
      have HZB : Hid (yz = F.b) := Lib.hid (by rw [← HYF.out]; rfl)
      refine bodyPost_ret (Iw.results_tmp (y := ⟨yp, yn, yc, q6, ym + 1, d6, yz, yL ++ [⟨⟨k, true, []⟩, none, 0, 0⟩]⟩) (cells2_stored HZ8.out _ _) rfl _ rfl) rfl ?_
      refine ⟨_, by rw [HE.out]; rfl, HF8.out.stored HZ8.out.sl2 (stored2_keep _ _ _ _), ?_, (HB8.out.setCell (p := ⟨w.heap.size + 1, 0, none⟩) (Nat.le_succ _) _).setCell (p := ⟨w.heap.size + 1, 1, none⟩) (Nat.le_succ _) _⟩
      rw [HP.out]
      show Fi.mk yz (chs (yL ++ [⟨⟨k, true, []⟩, none, 0, 0⟩])) = _
      rw [HZB.out, HX8.out]
end Go.Proofs.YtncbgddgkpaoeaaGreat
