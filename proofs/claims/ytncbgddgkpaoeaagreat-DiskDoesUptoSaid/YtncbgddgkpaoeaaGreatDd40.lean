/- The statement DiskDoes: what any calls come to on any disk, call by call. -/
import Derived.Test.YtncbgddgkpaoeaaGreatDd4
import Derived.Test.YtncbgddgkpaoeaaGreatDd9
import Derived.Test.YtncbgddgkpaoeaaGreatDd29
import Derived.Test.YtncbgddgkpaoeaaGreatDd31
import Derived.Test.YtncbgddgkpaoeaaGreatDd32
import Derived.Test.YtncbgddgkpaoeaaGreatDd35
import Derived.Test.YtncbgddgkpaoeaaGreatDd36
import Derived.Test.YtncbgddgkpaoeaaGreatDd37
import Derived.Test.YtncbgddgkpaoeaaGreatDd38
import Derived.Test.YtncbgddgkpaoeaaGreatDd39
set_option linter.unusedSimpArgs false
set_option linter.unusedVariables false
namespace Go.Proofs.YtncbgddgkpaoeaaGreat
set_option linter.unusedVariables false
open Go.RowKit Go.Lib Go.Maps

theorem imgP_length (d : Dk) : (imageP d).length = d.F.l.length := by unfold imageP; simp
theorem same_eq (p q : Option Addr) (n m c d : Nat) (xs : List Int) (w : World) (hn : n ≤ maxLen) (hm : m ≤ maxLen) (hx : Bs w p n xs) (hy : Bs w q m xs) :
    Calls Tryz.prog 21 #[.slice p n c, .slice q m d] w fun e w' => e = .returned (.bool true) ∧ ∃ q, w' = w.drewN q :=
  (same_any p q n m c d xs xs w hn hm hx hy).mono fun e w' ⟨h1, h2⟩ => ⟨h1.trans (by rw [decide_eq_true rfl]), h2⟩
theorem namesP_length {m : Nat} {d : Dk} (ho : d.Ok m) : (nowQ d.F).length ≤ m := by
  have := behP_length d.F d.F.p.length
  have h2 := ho.len
  have h3 : (nowQ d.F).length ≤ d.F.l.length + d.F.p.length := this
  omega
theorem Gs.str {w : World} {p : Option Addr} {n : Nat} {L : List ByteArray} (h : Gs encS w p n L) (j : Nat) (hj : j < n) : ∃ b off, p = some ⟨b, off, none⟩ ∧ w.cell? ⟨b, off + j, none⟩ = some (.string (L.getD j ⟨#[]⟩)) := by
  obtain ⟨b, off, hp, hc⟩ := h.ptr j hj
  refine ⟨b, off, hp, ?_⟩
  have := hc 0 _ rfl
  rwa [show encS.k = 1 from rfl, Nat.mul_one, Nat.add_zero] at this

set_option maxRecDepth 100000 in
set_option maxHeartbeats 4000000 in
theorem dsame_any {w : World} {D M E m : Nat} {n : Int} {φ : Int → Int} {P : Int → Prop} {d : Dk} (hd : Dw w D M d) (hr : Rw w E (reD φ n d)) (hn : Rn φ P n d) (ho : d.Ok m) (hro : (reD φ n d).Ok m) (hm : m ≤ 1048575) (c : Cx) (hc : c.Fit w) :
    Calls Tryz.prog 11 #[.pointer (some ⟨D, 0, none⟩), .pointer (some ⟨E, 0, none⟩), c.v] w fun e w' => e = .returned (.bool true) ∧ Below w.heap.size w w' := by
  obtain ⟨x, fu, g, hx⟩ := hd
  obtain ⟨y, p, l, cap, L, hy⟩ := hr
  have hll := hc.len
  obtain ⟨hcb, hcp, hcl, hck, hcs, hct, hcd, hcn⟩ := hc
  obtain ⟨ck, cs, ct, cp, cl, ce, cz, cn⟩ := c
  unfold Cx.cl at hck hcs hct hcd hcn
  unfold Cx.v
  dsimp only at hcb hcp hcl hck hcs hct hcd hcn hll ⊢
  obtain ⟨wA, hA⟩ : ∃ A, w.alloc (.cells #[.int .i64 ck, .string cs, .string ct, .slice cp cl ce, .int .i64 cn] 34) = A := ⟨_, rfl⟩
  have HBA : Hid (Below w.heap.size w wA) := Lib.hid (by rw [← hA]; exact (Below.refl _ _).alloc (Nat.le_refl _) _)
  have hcx : Cxw wA w.heap.size ⟨ck, cs, ct, cp, cl, ce, cz, cn⟩ := by unfold Cxw; rw [← hA]; exact heap_alloc_new _ _
  have HCX := Lib.hid hcx
  have HX := Lib.hid (hx.later HBA.out)
  have HY := Lib.hid (hy.later HBA.out)
  have hIl : InI (cl : Int) := by unfold InI; omega
  have HFC := Lib.hid fun W (hW : Below wA.heap.size wA W) => dfree_any (HX.out.later hW) ho (by omega)
  have HFR := Lib.hid fun W (hW : Below wA.heap.size wA W) => rfree12_any (HY.out.later hW) hro (by omega)
  rw [show leftP (reD φ n d).lb (usedK (reD φ n d).K) = leftP d.lb (usedK d.K) from by show leftP d.lb (usedK (mK φ d.K)) = _; rw [used_map], show leftP (reD φ n d).lf ((reD φ n d).K.length : Int) = leftP d.lf (d.K.length : Int) from by show leftP d.lf ((mK φ d.K).length : Int) = _; rw [mK_length]] at HFR
  have HCA := Lib.hid fun W (hW : Below wA.heap.size wA W) => dcalls_any (HX.out.later hW)
  have HCC : Hid (∀ W, Below wA.heap.size wA W → W.cell? ⟨E, 8, none⟩ = some (.int .i64 d.calls)) := Lib.hid fun W hW => (HY.out.later hW).b.cells.2.2.2.2.2.2.2.2
  have HIM := Lib.hid fun W (hW : Below wA.heap.size wA W) => dimage_any (HX.out.later hW) ho (by omega)
  have HIR := Lib.hid fun W (hW : Below wA.heap.size wA W) => rimage12_any (HY.out.later hW) hro (by omega)
  rw [re_image hn ho] at HIR
  have HIL : Hid ((imageP d).length ≤ 2097152) := Lib.hid (by rw [imgP_length]; have := ho.len; omega)
  have HRD := Lib.hid fun W (hW : Below wA.heap.size wA W) => dread_any (HX.out.later hW) ho (by omega) cs hcs cn (cl : Int) hcn hIl
  have HRR := Lib.hid fun W (hW : Below wA.heap.size wA W) => rread12_any (HY.out.later hW) hro (by omega) cs cn (cl : Int) hcn hIl
  rw [re_read hn ho] at HRR
  have HSZ := Lib.hid fun W (hW : Below wA.heap.size wA W) => dsize_any (HX.out.later hW) ho (by omega) cs hcs
  have HBY := Lib.hid fun W (hW : Below wA.heap.size wA W) => rbytes12_any (HY.out.later hW) hro (by omega) cs
  rw [re_bytes hn ho] at HBY
  have HNM := Lib.hid fun W (hW : Below wA.heap.size wA W) => dnames_any (HX.out.later hW) ho (by omega)
  have HNW := Lib.hid fun W (hW : Below wA.heap.size wA W) => rfnow_any y W (HY.out.f.later hW) (by rw [HY.out.fd]; exact hro.fd (by omega))
  rw [hy.fd, show nowQ (reD φ n d).F = (nowQ d.F).map (mN φ) from now_map φ d.F] at HNW
  have HNC : Hid (∀ W, Below wA.heap.size wA W → W.cell? ⟨E, 2, none⟩ = some (.slice y.p y.n y.c) ∧ W.cell? ⟨E, 3, none⟩ = some (.slice y.q y.m y.d) ∧ W.cell? ⟨E, 6, none⟩ = some (.bool d.off)) := Lib.hid fun W hW => by
    obtain ⟨_, _, e2, e3, _, _, e6, _⟩ := (HY.out.later hW).b.cells
    exact ⟨e2, e3, e6⟩
  have HNL : Hid ((nowQ d.F).length ≤ 1048575) := Lib.hid (by have := namesP_length ho; omega)
  have HNP : Hid (namesP d = (nowQ d.F).map Nd.s) := Lib.hid rfl
  obtain ⟨c0, c1, c2, c3, c4⟩ := hcx.cells
  dsimp only at c0 c1 c2 c3 c4
  unfold Fo.v at HNW
  generalize leftP d.lb (usedK d.K) = fa at *
  generalize leftP d.lf (d.K.length : Int) = fb at *
  generalize d.calls = ca at *
  generalize imageP d = IM at *
  generalize readP d cs cn (cl : Int) = RD at *
  generalize bytesP d cs = BY at *
  generalize namesP d = NP at *
  generalize nowQ d.F = NQ at *
  generalize d.off = off at *
  obtain ⟨rd, re⟩ := RD
  obtain ⟨by1, by2⟩ := BY
  dsimp only at HRD HRR HSZ HBY
  clear hx hy hn ho hro hcx hck hct hcd hcs
  go_enter Tryz.func11, Tryz.ntmps11
  go_wp2_with (first
    | (go_at_call 22; refine (HFC.out _ (Below.refl _ _)).mono ?_; rintro e w2 ⟨rfl, hb2⟩; have HB2 := Lib.hid hb2; clear hb2)
    | (go_at_call 41; refine (HFR.out _ HB2.out).mono ?_; rintro e w3 ⟨rfl, hb3⟩; have HB3 := Lib.hid (below_step HB2.out hb3); clear hb3))
  have HD3 := Lib.hid (HB3.out.drew)
  have j0 := Lib.hid (HCC.out _ HB3.out)
  have j1 := Lib.hid (HCC.out _ HD3.out)
  go_region_held3 (fun W => W.cell? ⟨E, 8, none⟩ = some (.int .i64 ca)) (first | with_reducible exact j0.out | with_reducible exact j1.out | with_reducible exact j2.out | with_reducible exact j3.out | with_reducible exact j4.out | with_reducible exact j0.out) (first
    | (go_at_call 26; refine (HCA.out _ HD3.out).mono ?_; rintro e w4 ⟨rfl, rfl⟩)
    | (go_at_call 23; refine (HIM.out _ HD3.out).mono ?_; rintro e w5 ⟨p5, k5, c5, L5, rfl, hg5, he5, hob5, _, _, hb5⟩; have HB5 := Lib.hid (below_step HD3.out hb5); have HG5 := Lib.hid hg5; have HE5 := Lib.hid he5; have HS5 : Hid (∀ y ∈ L5, Bs w5 y.p y.n y.zs) := Lib.hid (fun y hy => by
             obtain ⟨p', cap', hv, _, _, hbs, _⟩ := (hob5 y hy).open
             simp only [Value.slice.injEq] at hv
             obtain ⟨e1, e2, e3⟩ := hv
             rw [e1, e2]; exact hbs); have j2 := Lib.hid (HCC.out _ HB5.out); clear hg5 he5 hob5 hb5)
    | (go_at_call 42; refine (HIR.out _ HB5.out).mono ?_; rintro e w6 ⟨p6, k6, c6, L6, rfl, hg6, he6, hs6, hb6⟩; have HB6 := Lib.hid (below_step HB5.out hb6); have j3 := Lib.hid (HCC.out _ HB6.out); have HFI := Lib.hid (rfiles_any p5 p6 k5 c5 k6 c6 L5 L6 w6 (HG5.out.later hb6) hg6 (fun y hy => (HS5.out y hy).later hb6) hs6 (by rw [HE5.out, he6]) (by
             have h1 := HG5.out.1
             have h2 := congrArg List.length HE5.out
             rw [List.length_map] at h2
             have := HIL.out
             omega)); clear hg6 he6 hs6 hb6)
    | (go_at_call 24; refine HFI.out.mono ?_; rintro e w7 ⟨rfl, hb7⟩; have HB7 := Lib.hid (below_step HB6.out hb7); have j4 := Lib.hid (HCC.out _ HB7.out); clear hb7))
  clear j0 j1 j2 j3 j4 HFI
  have HCE : Hid (∀ W, Below wA.heap.size wA W → W.cell? ⟨w.heap.size, 1, none⟩ = some (.string cs) ∧ W.cell? ⟨w.heap.size, 3, none⟩ = some (.slice cp cl ce) ∧ W.cell? ⟨w.heap.size, 4, none⟩ = some (.int .i64 cn)) := Lib.hid fun W hW => by
    obtain ⟨_, d1, _, d3, d4⟩ := (HCX.out.later hW).cells
    exact ⟨d1, d3, d4⟩
  clear c0 c1 c2 c3 c4
  obtain ⟨i1, i3, i4⟩ := HCE.out _ HB7.out
  cases off with
  | true =>
    simp only [if_true] at HNM
    go_wp2_with (first
      | (go_at_call 20; refine (HRD.out _ HB7.out).mono ?_; rintro e w8 ⟨p8, k8, c8, rfl, hs8, hp8, hl8, hm8, hb8⟩; have HB8 := Lib.hid (below_step HB7.out hb8); have HS8 := Lib.hid hs8; have HM8 : Hid (k8 ≤ maxLen) := Lib.hid (by unfold maxLen; omega); obtain ⟨j1, j3, j4⟩ := HCE.out _ HB8.out; clear hs8 hp8 hl8 hm8 hb8)
      | (go_at_call 43; refine (HRR.out _ HB8.out).mono ?_; rintro e w9 ⟨p9, k9, c9, rfl, hs9, hp9, hl9, hm9, hb9⟩; have HB9 := Lib.hid (below_step HB8.out hb9); have HS9 := Lib.hid hs9; have HT9 := Lib.hid (HS8.out.later hb9); have HM9 : Hid (k9 ≤ maxLen) := Lib.hid (by unfold maxLen; omega); obtain ⟨k1, k3, k4⟩ := HCE.out _ HB9.out; clear hs9 hp9 hl9 hm9 hb9)
      | (go_at_call 19; refine (HSZ.out _ HB9.out).mono ?_; rintro e wa ⟨rfl, hba⟩; have HBa := Lib.hid (below_step HB9.out hba); have HSa := Lib.hid (HS9.out.later hba); have HTa := Lib.hid (HT9.out.later hba); obtain ⟨l1, l3, l4⟩ := HCE.out _ HBa.out; clear hba)
      | (go_at_call 44; refine (HBY.out _ HBa.out).mono ?_; rintro e wb ⟨pb, kb, cb, rfl, hsb, hpb, hlb, hxb, hmb, hbb⟩; have HBb := Lib.hid (below_step HBa.out hbb); have HSb := Lib.hid (HSa.out.later hbb); have HTb := Lib.hid (HTa.out.later hbb); have hkb : by1.length = kb := hsb.len; have HSM := Lib.hid (same_eq p8 p9 k8 k9 c8 c9 rd wb HM8.out HM9.out HTb.out HSb.out); clear hsb hpb hlb hxb hmb hbb; subst hkb)
      | (go_at_call 21; refine HSM.out.mono ?_; rintro e wc ⟨rfl, nc, hnc⟩; have HBc : Hid (Below wA.heap.size wA wc) := Lib.hid (by rw [hnc]; exact below_drewN HBb.out _); clear hnc)
      | (go_at_call 25; refine (HNM.out _ HBc.out).mono ?_; rintro e wd ⟨pd, kd, cd, rfl, hsd, hpd, hld, hbd⟩; have HBd := Lib.hid (below_step HBc.out hbd); have hkd : (0 : Nat) = kd := hsd.1; obtain ⟨n2, n3, n6⟩ := HNC.out _ HBd.out; clear hsd hpd hld hbd; subst hkd)
      | (go_at_call 34; refine (HNW.out _ HBd.out).mono ?_; rintro e we ⟨ve, rfl, hoe, hbe⟩; have HBe := Lib.hid (below_step HBd.out hbe); obtain ⟨o2, o3, o6⟩ := HNC.out _ HBe.out; clear hoe hbe))
    go_ret
    exact ⟨rfl, below_step HBA.out HBe.out⟩
  | false =>
    simp only [Bool.false_eq_true, if_false] at HNM
    go_wp2_with (first
      | (go_at_call 20; refine (HRD.out _ HB7.out).mono ?_; rintro e w8 ⟨p8, k8, c8, rfl, hs8, hp8, hl8, hm8, hb8⟩; have HB8 := Lib.hid (below_step HB7.out hb8); have HS8 := Lib.hid hs8; have HM8 : Hid (k8 ≤ maxLen) := Lib.hid (by unfold maxLen; omega); obtain ⟨j1, j3, j4⟩ := HCE.out _ HB8.out; clear hs8 hp8 hl8 hm8 hb8)
      | (go_at_call 43; refine (HRR.out _ HB8.out).mono ?_; rintro e w9 ⟨p9, k9, c9, rfl, hs9, hp9, hl9, hm9, hb9⟩; have HB9 := Lib.hid (below_step HB8.out hb9); have HS9 := Lib.hid hs9; have HT9 := Lib.hid (HS8.out.later hb9); have HM9 : Hid (k9 ≤ maxLen) := Lib.hid (by unfold maxLen; omega); obtain ⟨k1, k3, k4⟩ := HCE.out _ HB9.out; clear hs9 hp9 hl9 hm9 hb9)
      | (go_at_call 19; refine (HSZ.out _ HB9.out).mono ?_; rintro e wa ⟨rfl, hba⟩; have HBa := Lib.hid (below_step HB9.out hba); have HSa := Lib.hid (HS9.out.later hba); have HTa := Lib.hid (HT9.out.later hba); obtain ⟨l1, l3, l4⟩ := HCE.out _ HBa.out; clear hba)
      | (go_at_call 44; refine (HBY.out _ HBa.out).mono ?_; rintro e wb ⟨pb, kb, cb, rfl, hsb, hpb, hlb, hxb, hmb, hbb⟩; have HBb := Lib.hid (below_step HBa.out hbb); have HSb := Lib.hid (HSa.out.later hbb); have HTb := Lib.hid (HTa.out.later hbb); have hkb : by1.length = kb := hsb.len; have HSM := Lib.hid (same_eq p8 p9 k8 k9 c8 c9 rd wb HM8.out HM9.out HTb.out HSb.out); clear hsb hpb hlb hxb hmb hbb; subst hkb)
      | (go_at_call 21; refine HSM.out.mono ?_; rintro e wc ⟨rfl, nc, hnc⟩; have HBc : Hid (Below wA.heap.size wA wc) := Lib.hid (by rw [hnc]; exact below_drewN HBb.out _); clear hnc)
      | (go_at_call 25; refine (HNM.out _ HBc.out).mono ?_; rintro e wd ⟨pd, kd, cd, rfl, hsd, hpd, hld, hbd⟩; have HBd := Lib.hid (below_step HBc.out hbd); have HSd := Lib.hid hsd; have hkd : NQ.length = kd := (by rw [← hsd.1, HNP.out, List.length_map]); obtain ⟨n2, n3, n6⟩ := HNC.out _ HBd.out; clear hsd hpd hld hbd)
      | (go_at_call 34; refine (HNW.out _ HBd.out).mono ?_; rintro e we ⟨ve, rfl, hoe, hbe⟩; have HBe := Lib.hid (below_step HBd.out hbe); have HSe := Lib.hid (HSd.out.later hbe); obtain ⟨pe, ce', hve, _, _, hge, _⟩ := hoe.open; rw [List.length_map, hkd] at hve hge; subst hve; have HGe := Lib.hid hge; obtain ⟨o2, o3, o6⟩ := HNC.out _ HBe.out; clear hoe hbe hge))
    go_loopw [22] (fun i wr => ∃ k : Nat, k ≤ kd ∧ i = .int .i64 k ∧ Hid (Below wA.heap.size wA wr) ∧ Hid (Gs encS wr pd kd NP) ∧ Hid (Gs encN wr pe kd (NQ.map (mN φ)))) (fun i _ => kd - (intOf i).toNat)
    case atStart => exact ⟨0, Nat.zero_le _, rfl, HBe, HSe, HGe⟩
    case round =>
      obtain ⟨k, hk, rfl, HB, HS, HG⟩ := hrel
      clear HSe HGe HBe n2 n3 n6 o2 o3 o6
      have hkb : kd ≤ 1048575 := by have := HNL.out; omega
      by_cases hlt : k < kd
      · have hkn : (k : Int) < (kd : Int) := by omega
        have hk0 : (0 : Int) ≤ (k : Int) := by omega
        have hs1 : NP.getD k ⟨#[]⟩ = (NQ.getD k nd0).s := by
          rw [HNP.out, List.getD_eq_getElem?_getD, List.getElem?_map, List.getD_eq_getElem?_getD, List.getElem?_eq_getElem (by omega)]; rfl
        have hs2 : ((NQ.map (mN φ)).getD k nd0).s = (NQ.getD k nd0).s := by
          rw [List.getD_eq_getElem?_getD, List.getElem?_map, List.getD_eq_getElem?_getD, List.getElem?_eq_getElem (by omega)]; rfl
        have HD : Hid (Below wr.heap.size wr wr.drew) := Lib.hid ((Below.refl _ _).drew)
        obtain ⟨b, off, rfl, x0⟩ := HS.out.str k hlt
        obtain ⟨b2, off2, rfl, y0, _⟩ := HG.out.nd k hlt
        have HBD := Lib.hid (below_step HB.out HD.out)
        have HSD := Lib.hid (HS.out.later HD.out)
        have HGD := Lib.hid (HG.out.later HD.out)
        have k1 : wr.drew.cell? ⟨b, off + k, none⟩ = some (.string (NQ.getD k nd0).s) ∧ wr.drew.cell? ⟨b2, off2 + k * 2, none⟩ = some (.string (NQ.getD k nd0).s) := by
          obtain ⟨b', off', hp, x1⟩ := HSD.out.str k hlt
          obtain ⟨b'', off'', hp', y1, _⟩ := HGD.out.nd k hlt
          simp only [Option.some.injEq, Addr.mk.injEq, and_true] at hp hp'
          obtain ⟨rfl, rfl⟩ := hp
          obtain ⟨rfl, rfl⟩ := hp'
          exact ⟨by rw [x1, hs1], by rw [y1, hs2]⟩
        have k0 : wr.cell? ⟨b, off + k, none⟩ = some (.string (NQ.getD k nd0).s) ∧ wr.cell? ⟨b2, off2 + k * 2, none⟩ = some (.string (NQ.getD k nd0).s) := ⟨by rw [x0, hs1], by rw [y0, hs2]⟩
        clear x0 y0 hs1 hs2
        generalize (NQ.getD k nd0).s = ys at *
        go_wp2_with fail
        go_region_held3 (fun W => W.cell? ⟨b, off + k, none⟩ = some (.string ys) ∧ W.cell? ⟨b2, off2 + k * 2, none⟩ = some (.string ys)) (first | exact k0 | exact k1) (fail)
        clear k0 k1
        go_wp2
        refine ⟨?_, by simp [intOf] <;> omega⟩
        first
          | exact ⟨k + 1, by omega, by go_num, HBD, HSD, HGD⟩
          | ((repeat apply Exists.intro); refine ⟨?_, rfl⟩; exact ⟨k + 1, by omega, by go_num, HBD, HSD, HGD⟩)
      · obtain rfl : k = kd := by omega
        go_wp2
        go_ret
        exact ⟨rfl, below_step HBA.out HB.out⟩
end Go.Proofs.YtncbgddgkpaoeaaGreat

namespace Go.Proofs.YtncbgddgkpaoeaaGreat
set_option linter.unusedVariables false
open Go.RowKit Go.Lib Go.ChangeShapes Go.WideShapes Go.ChangeAt

theorem Rw.kp {A B E : Nat} {w w' : World} {d : Dk} (h : Rw w E d) (hk : Kp A B w w') (hA : A < E) (hB : B < E) (nA : Nix w A) (nB : Nix w B) : Rw w' E d := by
  obtain ⟨x, p, n, c, L, hx⟩ := h
  exact ⟨x, p, n, c, L, hx.kp hk hA hB nA nB⟩
theorem Rw.nix {E : Nat} {w : World} {d : Dk} (h : Rw w E d) : Nix w E := by
  obtain ⟨x, p, n, c, L, hx⟩ := h
  exact hx.b.nix
theorem Dw.nix {A M : Nat} {w : World} {d : Dk} (h : Dw w A M d) : Nix w A ∧ Nix w M := by
  obtain ⟨x, fu, g, hx⟩ := h
  exact hx.nix
theorem Dw.lt2 {A M : Nat} {w : World} {d : Dk} (h : Dw w A M d) : A < w.heap.size ∧ M < w.heap.size := by
  obtain ⟨x, fu, g, hx⟩ := h
  exact ⟨hx.lt, hx.m.lt⟩
theorem Dw.beside {A M B : Nat} {w w' : World} {d : Dk} (h : Dw w A M d) (hk : Kp B B w w') (hA : A ≠ B) (hM : M ≠ B) (nB : Nix w B) : Dw w' A M d := by
  obtain ⟨x, fu, g, hx⟩ := h
  exact ⟨x, fu, g, hx.beside hk hA hM hx.m.lt nB⟩
theorem fit_memE {W : World} {L : List Cx} (hf : ∀ c ∈ L, c.Fit W ∧ c.e ≤ 1048576) {k : Nat} (hk : k < L.length) : (L.getD k cx0).Fit W ∧ (L.getD k cx0).e ≤ 1048576 := by
  rw [List.getD_eq_getElem?_getD, List.getElem?_eq_getElem hk]; exact hf _ (List.getElem_mem _)
theorem cx0_fit (w : World) : cx0.Fit w := ⟨Bs.empty _ _, fun _ => rfl, Nat.le_refl _, by show InI 0; unfold InI; omega, by show (0 : Nat) ≤ 1048576; omega, by show (0 : Nat) ≤ 1048576; omega, by show (0 : Nat) ≤ 1048576; omega, by show InI 0; unfold InI; omega⟩
section
variable {H : Type} {enc : TypeId × Value → H} {W : World} {base : Nat} {held : Bool}
/-- A row of calls, opened; what each could hold, too. -/
theorem open_callsE {fuel : Nat} {a0 : Option Addr} {len cap : Nat} {x : DataW H × List MemPlace} (hk : Rows.uptoBulk x.1 ≤ 1048576)
    (h : DataW.trod enc Tryz.prog W base (fun _ => true) held fuel 25 [.slice a0 len cap] = some x) :
    ∃ L : List Cx, Gs encX W a0 len L ∧ (∀ c ∈ L, c.Fit W ∧ c.e ≤ 1048576) ∧ len * 6 + 1 ≤ Rows.uptoBulk x.1 := by
  obtain ⟨hl0, hm0, hp0, L, hL, hLo, hLs⟩ := open_gs encX Tryz.underlying25 (by kernel_rfl) cxSz (cxI W) open_cx h
  have hlen : L.length * 6 ≤ (L.map cxSz).sum := by
    clear hL hLo hLs
    induction L with
    | nil => simp
    | cons c L ih => simp only [List.map_cons, List.sum_cons, List.length_cons]; have : 6 ≤ cxSz c := by unfold cxSz; omega
                     omega
  have hL1 := hL.1
  have hcs : ∀ c ∈ L, cxSz c ≤ 1048576 := fun c hc => by
    have := sum_mem (List.mem_map_of_mem (f := cxSz) hc)
    omega
  exact ⟨L, hL, fun c hc => ⟨cx_fit (hLo c hc) (hcs c hc), by have := hcs c hc; unfold cxSz at this; omega⟩, by omega⟩
end

set_option maxRecDepth 100000 in
set_option maxHeartbeats 4000000 in
theorem diskDoes_walk (lb lf : Int) (fa : Option Addr) (fn fcap : Nat) (FL : List Fx) (a : Option Addr) (n cap : Nat) (L : List Cx) (w : World) (hlb : InI lb) (hlf : InI lf) (hgf : Gs encF w fa fn FL) (hff : ∀ c ∈ FL, fxI w c ∧ fxSz c ≤ 1048576) (hg : Gs encX w a n L) (hf : ∀ c ∈ L, c.Fit w ∧ c.e ≤ 1048576) (hz : fn * 3 + n * 6 ≤ 1048576) :
    Calls Tryz.prog 3 #[.agg #[.int .i64 lb, .int .i64 lf], .slice fa fn fcap, .slice a n cap] w fun e w' => e = .returned (.bool true) ∧ Below w.heap.size w w' := by
  obtain ⟨wA, hA⟩ : ∃ A, w.alloc (.cells #[.int .i64 lb, .int .i64 lf] 23) = A := ⟨_, rfl⟩
  have HBA : Hid (Below w.heap.size w wA) := Lib.hid (by rw [← hA]; exact (Below.refl _ _).alloc (Nat.le_refl _) _)
  have hrow : wA.heap[w.heap.size]? = some (.cells #[.int .i64 lb, .int .i64 lf] 23 (0, 0)) := by rw [← hA]; exact heap_alloc_new _ _
  have HLC : Hid (∀ W, Below wA.heap.size wA W → W.cell? ⟨w.heap.size, 0, none⟩ = some (.int .i64 lb) ∧ W.cell? ⟨w.heap.size, 1, none⟩ = some (.int .i64 lf)) := Lib.hid fun W hW => by
    have hr : W.heap[w.heap.size]? = some (.cells #[.int .i64 lb, .int .i64 lf] 23 (0, 0)) := by rw [hW.block _ (Array.getElem?_eq_some_iff.1 hrow).1]; exact hrow
    exact ⟨by rw [cell_of_row _ _ _ _ _ _ hr]; rfl, by rw [cell_of_row _ _ _ _ _ _ hr]; rfl⟩
  obtain ⟨fs, hfs⟩ : ∃ fs, FL.map Fx.pr = fs := ⟨_, rfl⟩
  have hfl : fs.length = fn := by rw [← hfs, List.length_map, hgf.1]
  have HD0 := Lib.hid fun W (hW : Below w.heap.size w W) => dload_any lb lf hlb hlf fa fn fcap FL W (hgf.later hW) (fun c hc => ⟨⟨(hff c hc).1.1.later hW, (hff c hc).1.2⟩, (hff c hc).2⟩) (by omega)
  have HR0 := Lib.hid fun W (hW : Below w.heap.size w W) => rload12_any lb lf fa fn fcap FL W (hgf.later hW) (fun c hc => ⟨⟨(hff c hc).1.1.later hW, (hff c hc).1.2⟩, (hff c hc).2⟩) (by omega)
  rw [hfs] at HD0 HR0
  obtain ⟨φ, P, hre, hrn⟩ := load_rel lb lf fs
  have hokr := loadR_ok (m := fn) hlb hlf (fs := fs) (by omega) (by omega)
  rw [hre] at HR0 hokr
  have hokc := loadC_ok (m := fn) hlb hlf (fs := fs) (by omega) (by omega)
  generalize loadC lb lf fs = d0 at *
  have HRN := Lib.hid hrn
  have HROK := Lib.hid hokr
  have HOK : Hid (∀ j, j ≤ n → (stepsP d0 (L.take j)).Ok (fn + 2 * j)) := Lib.hid fun j hj =>
    steps_ok hokc (fun c hc => (hf c hc).1) (by rw [hg.1]; omega) j (by rw [hg.1]; exact hj)
  have HG := Lib.hid hg
  have HL := Lib.hid hg.1
  have HF := Lib.hid hf
  have HDO := Lib.hid fun W D M m d => ddo_any (w := W) (D := D) (M := M) (m := m) (d := d)
  have HLV := Lib.hid fun W => dlives_any W
  have HDA : Hid (Below wA.heap.size wA wA.drew) := Lib.hid (Below.refl _ _).drew
  have HBD := Lib.hid (below_step HBA.out HDA.out)
  have l0 := Lib.hid (HLC.out _ (Below.refl _ _))
  have l1 := Lib.hid (HLC.out _ HDA.out)
  generalize (ldB fs).length = κ0 at *
  clear hg hf hgf hff hrn hre hokr hokc hrow hfs hfl
  go_enter Tryz.func3, Tryz.ntmps3
  go_wp2_with fail
  go_region_held3 (fun W => W.cell? ⟨w.heap.size, 0, none⟩ = some (.int .i64 lb) ∧ W.cell? ⟨w.heap.size, 1, none⟩ = some (.int .i64 lf)) (first | with_reducible exact l0.out | with_reducible exact l1.out | with_reducible exact l2.out | with_reducible exact l3.out | with_reducible exact l0.out) (first
    | (go_at_call 7; refine (HD0.out _ HBD.out).mono ?_; rintro e w2 ⟨D, M, rfl, hw2, hD, hM, hb2⟩; have HB2 := Lib.hid (below_step HBD.out hb2); have hAD := HBD.out.size; have HDM : Hid (w.heap.size ≤ D ∧ w.heap.size ≤ M) := Lib.hid ⟨Nat.le_trans hAD hD, Nat.le_trans hAD hM⟩; have HW2 := Lib.hid hw2; have l2 := Lib.hid (HLC.out _ (below_step HDA.out hb2)); have HX2 := Lib.hid (below_step HDA.out hb2); clear hw2 hD hM hb2 hAD)
    | (go_at_call 8; refine (HR0.out _ HB2.out).mono ?_; rintro e w3 ⟨E, rfl, hr3, hE, hb3⟩; have HB3 := Lib.hid (below_step HB2.out hb3); have HDE : Hid (D < E ∧ M < E ∧ w.heap.size ≤ E) := Lib.hid ⟨Nat.lt_of_lt_of_le HW2.out.lt2.1 hE, Nat.lt_of_lt_of_le HW2.out.lt2.2 hE, Nat.le_trans HB2.out.size hE⟩; have HW3 := Lib.hid (HW2.out.later hb3); have HR3 := Lib.hid hr3; have l3 := Lib.hid (HLC.out _ (below_step HX2.out hb3)); clear hr3 hE hb3))
  clear l0 l1 l2 l3
  go_wp2
  go_loopw [9] (fun i wr => ∃ (k : Nat) (κ : Int), k ≤ n ∧ i = .int .i64 (k : Int) ∧ Hid (Dw wr D M (stepsP d0 (L.take k))) ∧ Hid (Rw wr E (reD φ κ (stepsP d0 (L.take k)))) ∧ Hid (Rn φ P κ (stepsP d0 (L.take k))) ∧ Hid ((reD φ κ (stepsP d0 (L.take k))).Ok (fn + 2 * k)) ∧ Hid (Below w.heap.size w wr)) (fun i _ => n - (intOf i).toNat)
  case atStart => exact ⟨0, κ0, Nat.zero_le _, rfl, HW3, HR3, HRN, HROK, HB3⟩
  case round =>
    obtain ⟨k, κ, hk, rfl, HW, HR, HN, HRO, HB⟩ := hrel
    clear HW3 HR3 HB3 HRN HROK HW2 HB2 HX2 HR0 HD0
    by_cases hlt : k < n
    · have hkn : (k : Int) < (n : Int) := by omega
      have hk0 : (0 : Int) ≤ (k : Int) := by omega
      have HST : Hid ((stepP (stepsP d0 (L.take k)) (L.getD k cx0).cl).1 = stepsP d0 (L.take (k + 1))) := Lib.hid (steps_take (by rw [HL.out]; exact hlt)).symm
      have HO := Lib.hid (HOK.out k hk)
      have HO2 := HOK.out (k + 1) (by omega)
      rw [← HST.out] at HO2
      have HO2 := Lib.hid HO2
      have hfy := fit_memE HF.out (k := k) (by rw [HL.out]; exact hlt)
      have HFY := Lib.hid hfy.1
      have hye := hfy.2
      have HCE : Hid (∀ W, Below w.heap.size w W → ∃ b off, a = some ⟨b, off, none⟩ ∧ W.cell? ⟨b, off + k * 5, none⟩ = some (.int .i64 (L.getD k cx0).k) ∧ W.cell? ⟨b, off + k * 5 + 1, none⟩ = some (.string (L.getD k cx0).s) ∧ W.cell? ⟨b, off + k * 5 + 2, none⟩ = some (.string (L.getD k cx0).t) ∧ W.cell? ⟨b, off + k * 5 + 3, none⟩ = some (.slice (L.getD k cx0).p (L.getD k cx0).l (L.getD k cx0).e) ∧ W.cell? ⟨b, off + k * 5 + 4, none⟩ = some (.int .i64 (L.getD k cx0).n)) := Lib.hid fun W hW => (HG.out.later hW).cx k hlt
      obtain ⟨κ', hrs, hrn2⟩ := re_step HN.out HO.out (L.getD k cx0).cl
      have hro2 := step_ok HRO.out (by omega) HFY.out.ok
      rw [hrs] at hro2
      have HRS := Lib.hid hrs
      have HN2 := Lib.hid hrn2
      have HRO2 := Lib.hid hro2
      clear hfy hrs hrn2 hro2
      obtain ⟨b, off, rfl, _⟩ := HCE.out _ HB.out
      generalize stepsP d0 (L.take k) = d at *
      generalize L.getD k cx0 = y at *
      obtain ⟨⟨d2, er⟩, hR⟩ : ∃ R, stepP d y.cl = R := ⟨_, rfl⟩
      have HDK := Lib.hid fun W (hW : Dw W D M d) (hY : y.Fit W) => HDO.out W D M (fn + 2 * k) d hW HO.out (by omega) y hY
      have HPK := Lib.hid fun W (hW : Rw W E (reD φ κ d)) (hY : y.Fit W) => rplay12_any hW HRO.out (by omega) y hY (by unfold maxLen; omega)
      rw [HRS.out] at HPK
      rw [hR] at HDK HPK HST HO2 HN2 HRO2
      dsimp only at HDK HPK HST HO2 HN2 HRO2
      have HSK := Lib.hid fun W (hW : Dw W D M d2) (hX : Rw W E (reD φ κ' d2)) (hY : y.Fit W) => dsame_any hW hX HN2.out HO2.out HRO2.out (by omega) y hY
      have HFY2 := HFY
      clear hR HRS HFY
      obtain ⟨y0, y1, y2, y3, y4, y5, y6, y7⟩ := y
      unfold Cx.v at HDK HPK HSK
      dsimp only at HDK HPK HSK HCE hye
      have HKC : Hid (∀ W, Below w.heap.size w W → W.cell? ⟨b, off + k * 5, none⟩ = some (.int .i64 y0) ∧ W.cell? ⟨b, off + k * 5 + 1, none⟩ = some (.string y1) ∧ W.cell? ⟨b, off + k * 5 + 2, none⟩ = some (.string y2) ∧ W.cell? ⟨b, off + k * 5 + 3, none⟩ = some (.slice y3 y4 y5) ∧ W.cell? ⟨b, off + k * 5 + 4, none⟩ = some (.int .i64 y7)) := Lib.hid fun W hW => by
        obtain ⟨b', off', hp, h⟩ := HCE.out W hW
        simp only [Option.some.injEq, Addr.mk.injEq, and_true] at hp
        obtain ⟨rfl, rfl⟩ := hp
        exact h
      clear HCE
      have HD : Hid (Below wr.heap.size wr wr.drew) := Lib.hid (Below.refl _ _).drew
      have HBQ := Lib.hid (below_step HB.out HD.out)
      have HWQ := Lib.hid (HW.out.later HD.out)
      have HRQ := Lib.hid (HR.out.later HD.out)
      have j0 := Lib.hid (HKC.out _ HB.out)
      have j1 := Lib.hid (HKC.out _ HBQ.out)
      go_wp2_with fail
      go_region_held3 (fun W => W.cell? ⟨b, off + k * 5, none⟩ = some (.int .i64 y0) ∧ W.cell? ⟨b, off + k * 5 + 1, none⟩ = some (.string y1) ∧ W.cell? ⟨b, off + k * 5 + 2, none⟩ = some (.string y2) ∧ W.cell? ⟨b, off + k * 5 + 3, none⟩ = some (.slice y3 y4 y5) ∧ W.cell? ⟨b, off + k * 5 + 4, none⟩ = some (.int .i64 y7)) (first | with_reducible exact j0.out | with_reducible exact j1.out | with_reducible exact j2.out | with_reducible exact j3.out | with_reducible exact j4.out | with_reducible exact j0.out) (first
        | (go_at_call 9; refine (HDK.out _ HWQ.out (HFY2.out.later HBQ.out)).mono ?_; rintro e w2 ⟨rfl, hw2, hk2⟩; have HW2 := Lib.hid hw2; have HB2 := Lib.hid (hk2.onto HBQ.out HBQ.out.size HDM.out.1 HDM.out.2); have HR2 := Lib.hid (HRQ.out.kp hk2 HDE.out.1 HDE.out.2.1 HWQ.out.nix.1 HWQ.out.nix.2); have j2 := Lib.hid (HKC.out _ HB2.out); clear hw2 hk2)
        | (go_at_call 10; refine (HPK.out _ HR2.out (HFY2.out.later HB2.out)).mono ?_; rintro e w3 ⟨rfl, hr3, hk3⟩; have HR3 := Lib.hid hr3; have HB3 := Lib.hid (hk3.onto HB2.out HB2.out.size HDE.out.2.2 HDE.out.2.2); have HW3 := Lib.hid (HW2.out.beside hk3 (Nat.ne_of_lt HDE.out.1) (Nat.ne_of_lt HDE.out.2.1) HR2.out.nix); have j3 := Lib.hid (HKC.out _ HB3.out); clear hr3 hk3)
        | (go_at_call 11; refine (HSK.out _ HW3.out HR3.out (HFY2.out.later HB3.out)).mono ?_; rintro e w4 ⟨rfl, hb4⟩; have HB4 := Lib.hid (below_step HB3.out hb4); have HW4 := Lib.hid (HW3.out.later hb4); have HR4 := Lib.hid (HR3.out.later hb4); have j4 := Lib.hid (HKC.out _ HB4.out); clear hb4))
      clear j0 j1 j2 j3 j4
      go_wp2
      refine ⟨?_, by simp [intOf] <;> omega⟩
      rw [HST.out] at HW4 HR4 HN2 HRO2
      exact ⟨k + 1, κ', by omega, by go_num, HW4, HR4, HN2, HRO2, HB4⟩
    · obtain rfl : k = n := by omega
      have HO := Lib.hid (HOK.out k (Nat.le_refl _))
      generalize stepsP d0 (L.take k) = d at *
      have HSF := Lib.hid (dsame_any HW.out HR.out HN.out HO.out HRO.out (by omega) cx0 (cx0_fit _))
      unfold Cx.v cx0 at HSF
      dsimp only at HSF
      go_wp2_with (first
        | (go_at_call 11; refine HSF.out.mono ?_; rintro e w2 ⟨rfl, hb2⟩; have HB2 := Lib.hid (below_step HB.out hb2); clear hb2)
        | (go_at_call 12; refine (HLV.out _).mono ?_; rintro e w3 ⟨rfl, hb3⟩; have HB3 := Lib.hid (below_step HB2.out hb3); clear hb3))
      go_ret
      exact ⟨rfl, HB3.out⟩

set_option maxRecDepth 100000 in
theorem diskDoes_contract (H : Type) (enc : TypeId × Value → H) (W : World) (base : Nat) (args : Array Value) (ds gs : List (DataW H)) (before : List MemPlace)
    (hval : ∀ (j : Nat) t v, Tryz.f3.params[j]? = some t → args[j]? = some v → Value.okWide Tryz.prog W .any base t v)
    (hW : DataW.Whole enc Tryz.prog Tryz.f3.params.toList Rows.diskDoesSpec.vars false W args.toList ds gs before) (hk : Rows.uptoSmall H (ds ++ gs) = true) :
    Calls Tryz.prog 3 args W fun e W' => ∃ v, e = .returned v ∧ Rows.diskDoesSpec.post enc Tryz.prog Tryz.f3 false true false false W args v W' := by
  have hW' := hW
  obtain ⟨p, q, hA0, hV, rfl, hfz, hnd⟩ := hW
  have hA : DataW.TrodAll enc Tryz.prog W 0 (fun _ => true) true Tryz.f3.params.toList args.toList ds p := hA0
  rw [Tryz.params3] at hA hval
  obtain ⟨v0, vs0, d0, ds0, p0, q0, hargs, rfl, rfl, t0, r0⟩ := trodAll_cons hA
  obtain ⟨v1, vs1, d1, ds1, p1, q1, rfl, rfl, rfl, t1, r1⟩ := trodAll_cons r0
  obtain ⟨v2, vs2, d2, ds2, p2, q2, rfl, rfl, rfl, t2, r2⟩ := trodAll_cons r1
  obtain ⟨rfl, rfl, rfl⟩ := trodAll_nil r2
  obtain rfl : args = #[v0, v1, v2] := by cases args; simp_all
  obtain ⟨rfl, rfl⟩ := trodVars_none hV
  have hk0 := of_decide_eq_true hk
  simp only [Rows.uptoBulkAll, List.append_nil] at hk0
  obtain ⟨lb0, lf0, rfl, hlb0, hlf0⟩ := open_lim (hval 0 23 v0 rfl rfl) t0
  obtain ⟨a1, len1, cap1, rfl⟩ := okWide_slice Tryz.underlying24 (hval 1 24 v1 rfl rfl)
  obtain ⟨fuel1, t1⟩ := t1
  obtain ⟨L1, hg1, hf1, hz1⟩ := open_files (by show Rows.uptoBulk d1 ≤ 1048576; omega) t1
  have hz1' : len1 * 3 + 1 ≤ Rows.uptoBulk d1 := hz1
  obtain ⟨a2, len2, cap2, rfl⟩ := okWide_slice Tryz.underlying25 (hval 2 25 v2 rfl rfl)
  obtain ⟨fuel2, t2⟩ := t2
  obtain ⟨L2, hg2, hf2, hz2⟩ := open_callsE (by show Rows.uptoBulk d2 ≤ 1048576; omega) t2
  have hz2' : len2 * 6 + 1 ≤ Rows.uptoBulk d2 := hz2
  have hk' := of_decide_eq_true hk
  simp only [Rows.uptoBulkAll, List.append_nil] at hk'
  refine (diskDoes_walk  lb0 lf0 a1 len1 cap1 L1 a2 len2 cap2 L2 W hlb0 hlf0 hg1 hf1 hg2 hf2 (by omega)).mono fun e W' ⟨he, hb⟩ => ?_
  subst he
  exact ⟨_, rfl, law_post laidOut (by kernel_rfl) rfl Tryz.underlying4 rfl hW' rfl rfl rfl hb⟩

set_option maxRecDepth 100000 in
theorem diskDoes_lifted (os : Os) (started : os.Started) (H : Type) (enc : TypeId × Value → H) (F : Stop.Interp) :
    ReturnsInHanded {} Tryz.checked os 3 .any ((Rows.OpenSpec.upto Rows.diskDoesSpec).pre6 enc Tryz.prog Tryz.f3 Rows.diskDoesUptoRow.domain false) (((Rows.OpenSpec.upto Rows.diskDoesSpec).at F).post enc Tryz.prog Tryz.f3 false true false false) := by
  refine returnsInHanded_of_cond (C := Tryz.checked) (s := Rows.OpenSpec.upto Rows.diskDoesSpec) (k := Rows.uptoSmall) rfl own started (by kernel_rfl) Tryz.func3
    (OpenSpec.witness (enc := enc) (C := Tryz.checked) (s := Rows.OpenSpec.upto Rows.diskDoesSpec) (k := Rows.uptoSmall) rfl false ⟨#[], #[.agg #[.int .i64 0, .int .i64 0], .slice none 0 0, .slice none 0 0], []⟩ 8 (by kernel_rfl) (by kernel_rfl) (by kernel_rfl)
      (x := ([.agg [.lit (.int .i64 0), .lit (.int .i64 0)], .nil, .nil], [], [])) (by kernel_rfl) rfl (by kernel_rfl)) ?_
  intro W base args ds gs before hval hW _ hk _
  exact diskDoes_contract H enc W base args ds gs before hval hW hk

theorem diskDoesUpto_holds : Rows.DiskDoesUptoSaid :=
  OpenClaim.holds_of_cond 3 Tryz.f3 rfl rfl rfl rfl rfl rfl rfl ⟨rfl, rfl, rfl, rfl, rfl⟩ rfl rfl rfl rfl rfl (by kernel_rfl) Tryz.func3 (by kernel_rfl)
    (of_decide_eq_true (by kernel_rfl)) (by unfold Func.isWrapper; first | (rw [if_pos (by decide +kernel)]; kernel_rfl) | (rw [if_neg (by decide +kernel)]; exact ⟨rfl, rfl⟩))
    (fun os started H enc _ F => diskDoes_lifted os started H enc F)
end Go.Proofs.YtncbgddgkpaoeaaGreat
