/- Layer 14, the program: Make -/
import Derived.Test.YtjdigncieoaglaaSt11
import Derived.Test.YtjdigncieoaglaaSt18
import Derived.Test.YtjdigncieoaglaaSt27
import Derived.Test.YtjdigncieoaglaaSt31
set_option linter.unusedSimpArgs false
set_option linter.unusedVariables false
namespace Go.Proofs.Ytjdigncieoaglaa
set_option linter.unusedVariables false
open Go.RowKit Go.Lib

set_option maxRecDepth 100000 in
set_option maxHeartbeats 2000000 in
theorem cmake_ok : cMakeOk := by
  intro x w hx hn2
  obtain ⟨wA, hA, hm, hb, c0, c1, _⟩ := box_rec w x hx.dg.1
  have HB := Lib.hid hb
  have HS := Lib.hid hb.size
  have HX := Lib.hid hx
  have HXD := Lib.hid hx.dg.1
  have HRA := Lib.hid hm
  have HL := Lib.hid fun W (hW : Below wA.heap.size wA W) => (hm.later hW).load hx.dg.1
  have HRI := Lib.hid fun W (hW : x.Fit W) => cright_ok x W hW hn2
  have HOW := Lib.hid fun W (hW : x.Fit W) (hr : rightN x.rc = 0) => own_in x W hW (rightN_k hr)
  have HDL := Lib.hid fun hr => dataN_len hx.ok hr
  have HM : Hid (makeN x.rc = if rightN x.rc = 0 then frmN x.k x.s (dataN x.rc) else []) := Lib.hid rfl
  have HLB := Lib.hid fun hr => leadN_bare (r := x.rc) (rightN_k hr)
  have HBR := Lib.hid (bare_right (r := x.rc))
  have HFX := Lib.hid fun W (hW : Below w.heap.size w W) => hx.later hW
  have hs := hx.s
  have HRC := Lib.hid (show bareN x.rc = _ from rfl)
  generalize makeN x.rc = FR at *
  generalize rightN x.rc = R at *
  generalize dataN x.rc = D at *
  unfold Rq.v at HRI HOW ⊢
  generalize hM : mixC x.a x.dg x.z = M at *
  clear hx hm hb c0 c1 hn2
  by_cases h : R = 0
  · subst h
    rw [if_pos rfl] at HM
    go_enter Try.func23, Try.ntmps23
    go_upto_region 5 with (first
      | (refine wpList_ld rfl _ _ rfl _ rfl _ (HL.out _ (Below.refl _ _)) ?_)
      | (go_at_call 33; refine (HRI.out _ (HFX.out _ HB.out)).mono ?_; rintro e w1 ⟨rfl, hb1⟩; have HB1 := Lib.hid hb1; clear hb1)
      | (refine wpList_ld rfl _ _ rfl _ rfl _ (HL.out _ HB1.out) ?_)
      | (go_at_call 34; refine (HOW.out _ (HFX.out _ (below_step HB.out HB1.out)) (by first | rfl | trivial)).mono ?_; rintro e w2 ⟨y, rfl, hf2, he2, hb2, hy2⟩; have HB2 := Lib.hid (below_step HB1.out hb2); have HE2 := Lib.hid he2; have HY2 := Lib.hid hy2; have HR2 : Hid (w2.heap[w.heap.size]? = some (.cells M 29 (0, 0))) := Lib.hid (by rw [← hM]; exact HRA.out.later HB2.out); have HFY : Hid (∀ W, x.Fit W → y.Fit W) := Lib.hid fun W hW => by { rw [hy2]; exact bareQ_fit hW }; have HSZ : Hid (M.size = (mixC y.a y.dg y.z).size) := Lib.hid (by rw [← hM]; exact Rq.sizes x y HXD.out hf2.dg.1); have HYD := Lib.hid hf2.dg.1; clear hf2 he2 hb2 hy2)
      | (refine wpList_store_row rfl 29 _ _ rfl w.heap.size _ rfl rfl 29 _ HR2.out (Rq.sizeOf y HYD.out) HSZ.out y.one ?_; generalize hw3 : World.setRow _ _ _ = w3))
    have HR3 : Hid (Rm w3 w.heap.size y) := Lib.hid (by rw [← hw3]; exact Mx.row (show Mx w2 w.heap.size 29 x.a x.dg x.z from HRA.out.later HB2.out))
    have HB3 : Hid (Below w.heap.size w w3) := Lib.hid (by rw [← hw3]; exact below_setRow8 (below_step HB.out HB2.out) _ _ (Nat.le_refl _))
    have HYK : Hid (y.k = x.k ∧ y.s = x.s) := Lib.hid (by rw [HY2.out]; exact ⟨rfl, rfl⟩)
    have HF4 := Lib.hid fun W (hW : Below w3.heap.size w3 W) => HFY.out W (HFX.out W (below_step HB3.out hW))
    have HLE := Lib.hid fun W (hW : Below w3.heap.size w3 W) => lead_any y W (HF4.out W hW) (by rw [HE2.out]; exact HBR.out (by first | rfl | trivial))
    have HCT : Hid (leadN y.rc ++ y.da = D) := Lib.hid (by rw [← HLB.out (by first | rfl | trivial), ← HE2.out]; rfl)
    have HYL := Lib.hid (HF4.out _ (Below.refl _ _)).bs.len
    have HSS := Lib.hid fun W (hW : Below w3.heap.size w3 W) => (show W.cell? ⟨w.heap.size, 0, none⟩ = some (.int .i64 y.k) ∧ W.cell? ⟨w.heap.size, 1, none⟩ = some (.int .u64 y.s) ∧ W.cell? ⟨w.heap.size, 35, none⟩ = some (.slice y.p y.n y.c) ∧ W.rangeAt w.heap.size 0 (mixL y.a y.dg y.z) from by
      obtain ⟨h0, h1, _, h3, _⟩ := (HR3.out.later hW).cells HYD.out
      exact ⟨h0, h1, h3, Mx.range (HR3.out.later hW)⟩)
    have HLZ : Hid ((Try.prog.info? 29).map (·.size) = some (mixL y.a y.dg y.z).length) := Lib.hid (by rw [mixL_length, HYD.out]; exact size38)
    have hD := HDL.out (by first | rfl | trivial)
    obtain ⟨DN, hDN⟩ : ∃ n, D.length = n := ⟨_, rfl⟩
    have HDN := Lib.hid hDN
    rw [hDN] at hD
    obtain ⟨G, hG⟩ : ∃ G, leadN y.rc = G := ⟨_, rfl⟩
    obtain ⟨GN, hGN⟩ : ∃ n, G.length = n := ⟨_, rfl⟩
    have HGN := Lib.hid hGN
    have hsum : GN + y.n = DN := by rw [← hDN, ← HCT.out, List.length_append, hG, hGN, HYL.out]
    rw [hG] at HLE HCT
    unfold Rq.v mixC at HLE
    generalize mixL y.a y.dg y.z = L at *
    clear hDN hG hGN hw3
    refine wp_region_held_drew (S := (fun W => W.cell? ⟨w.heap.size, 0, none⟩ = some (.int .i64 y.k) ∧ W.cell? ⟨w.heap.size, 1, none⟩ = some (.int .u64 y.s) ∧ W.cell? ⟨w.heap.size, 35, none⟩ = some (.slice y.p y.n y.c) ∧ W.rangeAt w.heap.size 0 L)) (by kernel_rfl) (HSS.out _ (Below.refl _ _).drew) (fun hHeld => ?_)
    refine take_at 0 (v := ?vv1) rfl (by kernel_rfl) (by kernel_rfl) (by kernel_rfl) (fun _ _ _ h => h) (Or.inl ⟨by rfl, ?hy1⟩) (by assumption) ?rest1
    case hy1 => intro w hSw; (try dsimp only at hSw); go_simp; (try with_reducible rfl)
    (try simp only [Act.put, List.setIfInBounds_toArray, List.set_cons_zero, List.set_cons_succ])
    refine take_at 1 (v := ?vv2) rfl (by kernel_rfl) (by kernel_rfl) (by kernel_rfl) (fun _ _ _ h => h) (Or.inl ⟨by rfl, ?hy2⟩) (by assumption) ?rest2
    case hy2 => intro w hSw; (try dsimp only at hSw); go_simp; (try with_reducible rfl)
    (try simp only [Act.put, List.setIfInBounds_toArray, List.set_cons_zero, List.set_cons_succ])
    refine take_at 2 (v := ?vv3) rfl (by kernel_rfl) (by kernel_rfl) (by kernel_rfl) (fun _ _ _ h => h) (Or.inl ⟨by rfl, ?hy3⟩) (by assumption) ?rest3
    case hy3 => intro w hSw; (try dsimp only at hSw); go_simp; (try with_reducible rfl)
    (try simp only [Act.put, List.setIfInBounds_toArray, List.set_cons_zero, List.set_cons_succ])
    refine take_at 3 (v := ?vv4) rfl (by kernel_rfl) (by kernel_rfl) (by kernel_rfl) (fun _ _ _ h => h) (Or.inl ⟨by rfl, ?hy4⟩) (by assumption) ?rest4
    case hy4 => intro w hSw; (try dsimp only at hSw); go_simp; (try with_reducible rfl)
    (try simp only [Act.put, List.setIfInBounds_toArray, List.set_cons_zero, List.set_cons_succ])
    refine take_at 4 rfl (by kernel_rfl) (by kernel_rfl) (by kernel_rfl) (fun _ _ _ h => h) (yieldsIf_load_mid (by rfl) _ _ rfl _ _ rfl _ _ (fun _ h => h.2.2.2) Try.underlying29 rfl HLZ.out) (by assumption) ?_
    (try simp only [Act.put, List.setIfInBounds_toArray, List.set_cons_zero, List.set_cons_succ])
    refine take_at 6 (v := ?vv6) rfl (by kernel_rfl) (by kernel_rfl) (by kernel_rfl) (fun _ _ _ h => h) (Or.inl ⟨by rfl, ?hy6⟩) (by assumption) ?rest6
    case hy6 => intro w hSw; (try dsimp only at hSw); go_simp; (try with_reducible rfl)
    (try simp only [Act.put, List.setIfInBounds_toArray, List.set_cons_zero, List.set_cons_succ])
    refine take_at 7 (v := ?vv7) rfl (by kernel_rfl) (by kernel_rfl) (by kernel_rfl) (fun _ _ _ h => h) (Or.inl ⟨by rfl, ?hy7⟩) (by assumption) ?rest7
    case hy7 => intro w hSw; (try dsimp only at hSw); go_simp; (try with_reducible rfl)
    (try simp only [Act.put, List.setIfInBounds_toArray, List.set_cons_zero, List.set_cons_succ])
    refine ready_at 5 rfl (by kernel_rfl) (fun K hK => ?_)
    go_simp
    refine (HLE.out _ (Below.refl _ _).drew).mono ?_
    rintro e w4 ⟨v4, rfl, ho4, hb4⟩
    have HB4 : Hid (Below w3.heap.size w3 w4) := Lib.hid (below_step (Below.refl w3.heap.size w3).drew hb4)
    have HO4 : Hid (Ob w4 w3.heap.size 5 v4 G) := Lib.hid ho4
    obtain ⟨p4, c4, hv4, hlc4, hcm4, hbs4, hpc4⟩ := ho4.open
    rw [HGN.out] at hv4 hlc4 hbs4
    subst hv4
    have KB := Lib.hid (HSS.out _ HB4.out)
    clear ho4 hb4 hbs4 hpc4 hlc4 hcm4
    first
      | refine hK.out _ _ ?hS8 (fun hHeld => ?rest8)
      | (go_wp2_with fail; refine hK.out _ _ ?hS8 (fun hHeld => ?rest8))
    case hS8 => exact KB.out
    clear hK K
    (try simp only [Act.put, List.setIfInBounds_toArray, List.set_cons_zero, List.set_cons_succ])
    refine ready_at 8 rfl (by kernel_rfl) (fun K hK => ?_)
    rw [if_pos (by rfl)]
    refine wp_append_bytes _ _ 23 5 rfl Try.underlying23 info8 w3.heap.size _ G rfl HO4.out y.p y.n y.c y.da rfl (HF4.out _ HB4.out).bs (HF4.out _ HB4.out).pc (by rw [HGN.out]; omega) HB4.out.size ?_
    intro v5 w5 ho5 hg5
    rw [HCT.out] at ho5
    have HB5 := Lib.hid (below_new HB4.out HO4.out hg5 HB4.out.size)
    obtain ⟨p5, c5, hv5, hlc5, hcm5, hbs5, hpc5⟩ := ho5.open
    rw [HDN.out] at hv5 hlc5 hbs5
    subst hv5
    have HD5 := Lib.hid hbs5
    have HP5 := Lib.hid hpc5
    have KC := Lib.hid (HSS.out _ HB5.out)
    clear ho5 hg5 hbs5 hpc5 hlc5 hcm5
    refine hK.out _ _ ?hS9 (fun hHeld => ?rest9)
    case hS9 => exact KC.out
    clear hK K
    (try simp only [Act.put, List.setIfInBounds_toArray, List.set_cons_zero, List.set_cons_succ])
    refine ready_at 9 rfl (by kernel_rfl) (fun K hK => ?_)
    go_simp
    refine (fmake_any y.k y.s p5 DN c5 D _ HD5.out HP5.out (by omega) (by rw [HYK.out.2]; exact hs)).mono ?_
    rintro e w6 ⟨v6, rfl, ho6, hb6⟩
    rw [HYK.out.1, HYK.out.2, ← HM.out] at ho6
    have HB6 := Lib.hid (below_step HB5.out hb6)
    have KD := Lib.hid (HSS.out _ HB6.out)
    have HO6 := Lib.hid (ho6.mono (Nat.le_trans HB3.out.size HB5.out.size))
    clear ho6 hb6
    first
      | refine hK.out _ _ ?hS10 (fun hHeld => ?rest10)
      | (go_wp2_with fail; refine hK.out _ _ ?hS10 (fun hHeld => ?rest10))
    case hS10 => exact KD.out
    clear hK K
    (try simp only [Act.put, List.setIfInBounds_toArray, List.set_cons_zero, List.set_cons_succ])
    refine take_at 10 (v := ?vv11) rfl (by kernel_rfl) (by kernel_rfl) (by kernel_rfl) (fun _ _ _ h => h) (Or.inl ⟨by rfl, ?hy11⟩) (by assumption) ?rest11
    case hy11 => intro w hSw; (try dsimp only at hSw); go_simp; (try with_reducible rfl)
    (try simp only [Act.put, List.setIfInBounds_toArray, List.set_cons_zero, List.set_cons_succ])
    refine take_at 11 (v := ?vv12) rfl (by kernel_rfl) (by kernel_rfl) (by kernel_rfl) (fun _ _ _ h => h) (Or.inl ⟨by rfl, ?hy12⟩) (by assumption) ?rest12
    case hy12 => intro w hSw; (try dsimp only at hSw); go_simp; (try with_reducible rfl)
    (try simp only [Act.put, List.setIfInBounds_toArray, List.set_cons_zero, List.set_cons_succ])
    refine wpAnyH_done (by kernel_rfl) ?_ _
    go_wp2
    go_ret2
    exact ⟨_, rfl, HO6.out, below_step HB3.out HB6.out⟩
  · rw [if_neg h] at HM
    have hne : (R != 0) = true := by simpa using h
    go_enter Try.func23, Try.ntmps23
    go_wp2_with (first
      | (refine wpList_ld rfl _ _ rfl _ rfl _ (HL.out _ (Below.refl _ _)) ?_)
      | (go_at_call 33; refine (HRI.out _ (HFX.out _ HB.out)).mono ?_; rintro e w1 ⟨rfl, hb1⟩; have HB1 := Lib.hid hb1; clear hb1))
    go_ret2
    exact ⟨_, rfl, by rw [HM.out]; exact Ob.nil _ _ _, below_step HB.out HB1.out⟩

end Go.Proofs.Ytjdigncieoaglaa
