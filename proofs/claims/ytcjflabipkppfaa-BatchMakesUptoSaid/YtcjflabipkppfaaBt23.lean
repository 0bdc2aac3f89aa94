/- Layer 14, the reference: Data, Make -/
import Derived.Test.YtcjflabipkppfaaBt16
import Derived.Test.YtcjflabipkppfaaBt22
set_option linter.unusedSimpArgs false
set_option linter.unusedVariables false
namespace Go.Proofs.Ytcjflabipkppfaa
set_option linter.unusedVariables false
open Go.RowKit Go.Lib

set_option maxRecDepth 100000 in
set_option maxHeartbeats 1000000 in
theorem rdata_any (x : Rq) (w : World) (hx : x.Fit w) (hr : rightN x.rc = 0) :
    Calls Try.prog 35 #[x.v] w fun e w' => ∃ v, e = .returned v ∧ Ob w' w.heap.size 5 v (dataN x.rc) ∧ Below w.heap.size w w' := by
  obtain ⟨wA, hA, hm, hb, c0, c1, c34, c35, c36, c37⟩ := box_rec w x hx.dg.1
  have HB := Lib.hid hb
  have HD := Lib.hid (hm.dig hx.dg)
  have HX := Lib.hid (hx.bs.later hb)
  have HPC := Lib.hid hx.pc
  have HDL := Lib.hid hx.dg.1
  have HXL := Lib.hid hx.bs.len
  have HK := Lib.hid (rightN_k hr)
  have HNM := Lib.hid fun (h : x.k = 3 ∨ x.k = 4) => tagP_len (rightN_nm hr h)
  have HDA := Lib.hid fun (h : x.k ≤ 2) => rightN_da hr h
  have HNZ := Lib.hid fun (h : x.k = 6 ∨ x.k = 8) => rightN_nz hr h
  have HHD := Lib.hid fun (h : x.k = 7) => rightN_hd hr h
  have HC := Lib.hid fun W (hW : Below wA.heap.size wA W) => (hm.later hW).cells hx.dg.1
  obtain ⟨R, hR⟩ : ∃ R, dataN x.rc = R := ⟨_, rfl⟩
  rw [hR]
  have HR : Hid (R = dataN x.rc) := Lib.hid hR.symm
  clear hR
  unfold dataN at HR
  unfold Rq.rc at HR HNM HDA HNZ HHD HK
  dsimp only at HR HNM HDA HNZ HHD HK
  have HNL := Lib.hid (numsOf_length x.nm)
  have HS := Lib.hid hb.size
  unfold Rq.v
  obtain ⟨k, s, dg, nm, p, n, c, da, N, Z⟩ := x
  dsimp only at *
  generalize mixC _ _ _ = M at *
  clear hb hx hm hr c1
  rcases kinds (k := k) with h | h | rfl | rfl | rfl | rfl | rfl | rfl | rfl | rfl
  · have := HK.out; omega
  · have := HK.out; omega
  · have hn : n ≤ 65504 := by have := HDA.out (by omega); have := HXL.out; omega
    replace HR : Hid (R = dg ++ da) := Lib.hid (by rw [HR.out]; simp)
    have hl : dg.length + n ≤ 140737488355328 := by have := HDL.out; omega
    have HL := Lib.hid hl
    clear hl c34 c35 c36 c37 HK HNM HDA HNZ HHD
    go_enter Try.func35, Try.ntmps35
    go_wp2_with (first
      | ((fail_if_success (have hh := HB1.out)); refine wpList_append_bytes rfl _ _ 24 5 rfl Try.underlying24 info8 wA.heap.size _ [] rfl (Ob.nil _ _ _) (some ⟨w.heap.size, 2, none⟩) 32 32 dg rfl HD.out (fun h => by cases h) (by simp) (Nat.le_refl _) ?_; intro v1 w1 ho1 hg1; rw [List.nil_append] at ho1; have HB1 : Hid (Below wA.heap.size wA w1) := Lib.hid (below_new (e := 5) (Below.refl _ _) (Ob.nil _ _ _) hg1 (Nat.le_refl _)); have HO1 := Lib.hid ho1; have HX1 := Lib.hid (HX.out.later HB1.out); obtain ⟨_, _, _, d35, _⟩ := HC.out _ HB1.out; clear ho1 hg1)
      | (refine wpList_append_bytes rfl _ _ 24 5 rfl Try.underlying24 info8 wA.heap.size _ dg rfl HO1.out p n c da rfl HX1.out HPC.out HL.out HB1.out.size ?_; intro v2 w2 ho2 hg2; have HB2 := Lib.hid (below_new HB1.out HO1.out hg2 HB1.out.size); have HO2 := Lib.hid ho2; clear ho2 hg2))
    go_ret
    exact ⟨_, rfl, by rw [HR.out]; exact HO2.out.mono HS.out, below_step HB.out HB2.out⟩
  · have hn : n ≤ 65504 := by have := HDA.out (by omega); have := HXL.out; omega
    replace HR : Hid (R = dg ++ da) := Lib.hid (by rw [HR.out]; simp)
    have hl : dg.length + n ≤ 140737488355328 := by have := HDL.out; omega
    have HL := Lib.hid hl
    clear hl c34 c35 c36 c37 HK HNM HDA HNZ HHD
    go_enter Try.func35, Try.ntmps35
    go_wp2_with (first
      | ((fail_if_success (have hh := HB1.out)); refine wpList_append_bytes rfl _ _ 24 5 rfl Try.underlying24 info8 wA.heap.size _ [] rfl (Ob.nil _ _ _) (some ⟨w.heap.size, 2, none⟩) 32 32 dg rfl HD.out (fun h => by cases h) (by simp) (Nat.le_refl _) ?_; intro v1 w1 ho1 hg1; rw [List.nil_append] at ho1; have HB1 : Hid (Below wA.heap.size wA w1) := Lib.hid (below_new (e := 5) (Below.refl _ _) (Ob.nil _ _ _) hg1 (Nat.le_refl _)); have HO1 := Lib.hid ho1; have HX1 := Lib.hid (HX.out.later HB1.out); obtain ⟨_, _, _, d35, _⟩ := HC.out _ HB1.out; clear ho1 hg1)
      | (refine wpList_append_bytes rfl _ _ 24 5 rfl Try.underlying24 info8 wA.heap.size _ dg rfl HO1.out p n c da rfl HX1.out HPC.out HL.out HB1.out.size ?_; intro v2 w2 ho2 hg2; have HB2 := Lib.hid (below_new HB1.out HO1.out hg2 HB1.out.size); have HO2 := Lib.hid ho2; clear ho2 hg2))
    go_ret
    exact ⟨_, rfl, by rw [HR.out]; exact HO2.out.mono HS.out, below_step HB.out HB2.out⟩
  · have hn := HNM.out (by omega)
    replace HR : Hid (R = (([(nm.size : Int)] ++ numsOf nm) ++ dg)) := Lib.hid (by rw [HR.out, HNL.out]; simp)
    rw [HNL.out] at hn
    have hw := wrap8 (n := (nm.size : Int)) (by omega) (by omega)
    have h0 : 0 ≤ (nm.size : Int) ∧ (nm.size : Int) < 256 := by omega
    have HL1 : Hid ([(nm.size : Int)].length + nm.size ≤ 140737488355328) := Lib.hid (by simp; omega)
    have HL2 : Hid (([(nm.size : Int)] ++ numsOf nm).length + 32 ≤ 140737488355328) := Lib.hid (by rw [List.length_append, HNL.out]; simp; omega)
    clear c35 c36 c37 HK HNM HDA HNZ HHD
    go_enter Try.func35, Try.ntmps35
    go_wp2_with (first
      | ((fail_if_success (have hh := HB1.out)); refine wpList_append_bytes rfl _ _ 24 5 rfl Try.underlying24 info8 wA.heap.size _ [] rfl (Ob.nil _ _ _) (some ⟨wA.heap.size, 0, none⟩) 1 1 [(nm.size : Int)] rfl (bs_one wA _ _ h0.1 h0.2) (fun h => by cases h) (by simp) (by simp) ?_; intro v1 w1 ho1 hg1; rw [List.nil_append] at ho1; have HB1 : Hid (Below wA.heap.size wA w1) := Lib.hid (below_new (e := 5) ((Below.refl _ _).alloc (Nat.le_refl _) _) (Ob.nil _ _ _) hg1 (by simp)); have HO1 := Lib.hid ho1; obtain ⟨_, _, d34, _, _⟩ := HC.out _ HB1.out; clear ho1 hg1)
      | (refine wpList_append_text rfl _ _ 24 9 5 rfl Try.underlying24 Try.underlying9 info8 wA.heap.size _ [(nm.size : Int)] rfl HO1.out nm rfl HL1.out HB1.out.size ?_; intro v2 w2 ho2 hg2; have HB2 := Lib.hid (below_new HB1.out HO1.out hg2 HB1.out.size); have HO2 := Lib.hid ho2; have HD2 := Lib.hid (HD.out.later HB2.out); clear ho2 hg2)
      | (refine wpList_append_bytes rfl _ _ 24 5 rfl Try.underlying24 info8 wA.heap.size _ ([(nm.size : Int)] ++ numsOf nm) rfl HO2.out (some ⟨w.heap.size, 2, none⟩) 32 32 dg rfl HD2.out (fun h => by cases h) HL2.out HB2.out.size ?_; intro v3 w3 ho3 hg3; have HB3 := Lib.hid (below_new HB2.out HO2.out hg3 HB2.out.size); have HO3 := Lib.hid ho3; clear ho3 hg3))
    go_ret
    exact ⟨_, rfl, by rw [HR.out]; exact HO3.out.mono HS.out, below_step HB.out HB3.out⟩
  · have hn := HNM.out (by omega)
    replace HR : Hid (R = [(nm.size : Int)] ++ numsOf nm) := Lib.hid (by rw [HR.out, HNL.out]; simp)
    rw [HNL.out] at hn
    have hw := wrap8 (n := (nm.size : Int)) (by omega) (by omega)
    have h0 : 0 ≤ (nm.size : Int) ∧ (nm.size : Int) < 256 := by omega
    have HL1 : Hid ([(nm.size : Int)].length + nm.size ≤ 140737488355328) := Lib.hid (by simp; omega)
    have HL2 : Hid (([(nm.size : Int)] ++ numsOf nm).length + 32 ≤ 140737488355328) := Lib.hid (by rw [List.length_append, HNL.out]; simp; omega)
    clear c35 c36 c37 HK HNM HDA HNZ HHD
    go_enter Try.func35, Try.ntmps35
    go_wp2_with (first
      | ((fail_if_success (have hh := HB1.out)); refine wpList_append_bytes rfl _ _ 24 5 rfl Try.underlying24 info8 wA.heap.size _ [] rfl (Ob.nil _ _ _) (some ⟨wA.heap.size, 0, none⟩) 1 1 [(nm.size : Int)] rfl (bs_one wA _ _ h0.1 h0.2) (fun h => by cases h) (by simp) (by simp) ?_; intro v1 w1 ho1 hg1; rw [List.nil_append] at ho1; have HB1 : Hid (Below wA.heap.size wA w1) := Lib.hid (below_new (e := 5) ((Below.refl _ _).alloc (Nat.le_refl _) _) (Ob.nil _ _ _) hg1 (by simp)); have HO1 := Lib.hid ho1; obtain ⟨_, _, d34, _, _⟩ := HC.out _ HB1.out; clear ho1 hg1)
      | (refine wpList_append_text rfl _ _ 24 9 5 rfl Try.underlying24 Try.underlying9 info8 wA.heap.size _ [(nm.size : Int)] rfl HO1.out nm rfl HL1.out HB1.out.size ?_; intro v2 w2 ho2 hg2; have HB2 := Lib.hid (below_new HB1.out HO1.out hg2 HB1.out.size); have HO2 := Lib.hid ho2; have HD2 := Lib.hid (HD.out.later HB2.out); clear ho2 hg2))
    go_ret
    exact ⟨_, rfl, by rw [HR.out]; exact HO2.out.mono HS.out, below_step HB.out HB2.out⟩
  · replace HR : Hid (R = dg) := Lib.hid (by rw [HR.out]; simp)
    clear c34 c35 c36 c37 HK HNM HDA HNZ HHD
    go_enter Try.func35, Try.ntmps35
    go_wp2_with (refine wpList_append_bytes rfl _ _ 24 5 rfl Try.underlying24 info8 wA.heap.size _ [] rfl (Ob.nil _ _ _) (some ⟨w.heap.size, 2, none⟩) 32 32 dg rfl HD.out (fun h => by cases h) (by simp) (Nat.le_refl _) ?_; intro v1 w1 ho1 hg1; rw [List.nil_append] at ho1; have HB1 : Hid (Below wA.heap.size wA w1) := Lib.hid (below_new (e := 5) (Below.refl _ _) (Ob.nil _ _ _) hg1 (Nat.le_refl _)); have HO1 := Lib.hid ho1; clear ho1 hg1)
    go_ret
    exact ⟨_, rfl, by rw [HR.out]; exact HO1.out.mono HS.out, below_step HB.out HB1.out⟩
  · have hn := HNZ.out (by omega)
    replace HR : Hid (R = ([] ++ putN N 4) ++ putN Z 4) := Lib.hid (by rw [HR.out]; simp)
    have HE : Hid (Bs wA none 0 []) := Lib.hid (Bs.empty _ _)
    have hwN : IntKind.u64.wrap N = N := wrap_u64_in (by omega) (by omega)
    have hwZ : IntKind.u64.wrap Z = Z := wrap_u64_in (by omega) (by omega)
    obtain ⟨x1, e1⟩ : ∃ x, ([] : List Int) ++ putN N 4 = x := ⟨_, rfl⟩
    have l1 : x1.length = 4 := by rw [← e1]; simp [putN_length]
    rw [e1] at HR
    have E1 := Lib.hid e1
    have L1 := Lib.hid l1
    obtain ⟨kA, kB⟩ : wA.cell? ⟨w.heap.size, 36, none⟩ = some (.int .i64 N) ∧ wA.cell? ⟨w.heap.size, 37, none⟩ = some (.int .i64 Z) := ⟨c36, c37⟩
    have KA := Lib.hid (And.intro kA kB)
    have KB : Hid (wA.drew.cell? ⟨w.heap.size, 36, none⟩ = some (.int .i64 N) ∧ wA.drew.cell? ⟨w.heap.size, 37, none⟩ = some (.int .i64 Z)) := Lib.hid ⟨kA, kB⟩
    clear kA kB e1 l1 c34 c35 HK HNM HDA HHD HNZ
    go_enter Try.func35, Try.ntmps35
    go_wp2
    go_region_held3 (fun W => W.cell? ⟨w.heap.size, 36, none⟩ = some (.int .i64 N) ∧ W.cell? ⟨w.heap.size, 37, none⟩ = some (.int .i64 Z)) (first | with_reducible exact KA.out | with_reducible exact KB.out | with_reducible exact KC.out | with_reducible exact KD.out | with_reducible exact KA.out) (first
      | (go_at_call 46; (fail_if_success (have hh := HB1.out)); refine (rput_any none 0 0 [] N 4 _ (Bs.empty _ _) (fun _ => rfl) (by omega) (by omega) (by omega) (by omega) (by omega)).mono ?_; rintro e w1 ⟨v1, rfl, ho1, hb1⟩; rw [E1.out] at ho1; have HB1 : Hid (Below wA.heap.size wA w1) := Lib.hid (below_step (Below.refl _ _).drew hb1); obtain ⟨p1, c1, hv1, hlc1, hcm1, hbs1, hpc1⟩ := ho1.open; rw [L1.out] at hv1 hlc1 hbs1; subst hv1; have HD1 := Lib.hid hbs1; have HP1 := Lib.hid hpc1; obtain ⟨_, _, _, _, d36, d37⟩ := HC.out _ HB1.out; have KC := Lib.hid (And.intro d36 d37); clear ho1 hb1 hbs1 hpc1 d36 d37)
      | (go_at_call 46; refine (rput_any p1 4 c1 x1 Z 4 _ HD1.out HP1.out (by omega) (by omega) (by omega) (by omega) (by omega)).mono ?_; rintro e w2 ⟨v2, rfl, ho2, hb2⟩; have HB2 := Lib.hid (below_step HB1.out hb2); have HO2 := Lib.hid (ho2.mono HB1.out.size); obtain ⟨_, _, _, _, d36, d37⟩ := HC.out _ HB2.out; have KD := Lib.hid (And.intro d36 d37); clear ho2 hb2 d36 d37)
      | fail)
    go_wp2
    go_ret
    exact ⟨_, rfl, by rw [HR.out]; exact HO2.out.mono HS.out, below_step HB.out HB2.out⟩
  · have hn := HHD.out rfl
    replace HR : Hid (R = magN ++ putN N 8) := Lib.hid (by rw [HR.out]; simp)
    have hwN : IntKind.u64.wrap N = N := wrap_u64_in (by omega) (by omega)
    have kc := fun (W : World) (C : Array Value) (n c : Nat) => Lib.run_convert_bytes_const (P := Try.prog) W 24 5 C n c Try.underlying24 Try.underlying5
    obtain ⟨wB, hB⟩ : ∃ W, wA.alloc (.cells #[.int .u8 115, .int .u8 116, .int .u8 105, .int .u8 108, .int .u8 108, .int .u8 97, .int .u8 103, .int .u8 101] 5 (8, 9)) = W := ⟨_, rfl⟩
    have HMB : Hid (Bs wB (some ⟨wA.heap.size, 0, none⟩) 8 magN) := Lib.hid (by rw [← hB]; exact bs_lit_fr wA 5 _ (8, 9) magN 8 rfl magN_byt rfl)
    have HBB : Hid (Below wA.heap.size wA wB) := Lib.hid (by rw [← hB]; exact (Below.refl _ _).alloc (Nat.le_refl _) _)
    obtain ⟨_, _, _, _, d36, _⟩ := HC.out _ HBB.out
    clear c34 c35 c37 HK HNM HDA HNZ HHD
    go_enter Try.func35, Try.ntmps35
    go_wp2_with (go_at_call 46; refine (rput_any _ 8 _ magN N 8 _ HMB.out (fun h => by cases h) (by omega) (by omega) (by omega) (by omega) (by omega)).mono ?_; rintro e w1 ⟨v1, rfl, ho1, hb1⟩; have HB1 := Lib.hid (below_step HBB.out hb1); have HO1 := Lib.hid (ho1.mono HBB.out.size); clear ho1 hb1)
    go_ret
    exact ⟨_, rfl, by rw [HR.out]; exact HO1.out.mono HS.out, below_step HB.out HB1.out⟩
  · have hn := HNZ.out (by omega)
    replace HR : Hid (R = ([] ++ putN N 4) ++ putN Z 4) := Lib.hid (by rw [HR.out]; simp)
    have HE : Hid (Bs wA none 0 []) := Lib.hid (Bs.empty _ _)
    have hwN : IntKind.u64.wrap N = N := wrap_u64_in (by omega) (by omega)
    have hwZ : IntKind.u64.wrap Z = Z := wrap_u64_in (by omega) (by omega)
    obtain ⟨x1, e1⟩ : ∃ x, ([] : List Int) ++ putN N 4 = x := ⟨_, rfl⟩
    have l1 : x1.length = 4 := by rw [← e1]; simp [putN_length]
    rw [e1] at HR
    have E1 := Lib.hid e1
    have L1 := Lib.hid l1
    obtain ⟨kA, kB⟩ : wA.cell? ⟨w.heap.size, 36, none⟩ = some (.int .i64 N) ∧ wA.cell? ⟨w.heap.size, 37, none⟩ = some (.int .i64 Z) := ⟨c36, c37⟩
    have KA := Lib.hid (And.intro kA kB)
    have KB : Hid (wA.drew.cell? ⟨w.heap.size, 36, none⟩ = some (.int .i64 N) ∧ wA.drew.cell? ⟨w.heap.size, 37, none⟩ = some (.int .i64 Z)) := Lib.hid ⟨kA, kB⟩
    clear kA kB e1 l1 c34 c35 HK HNM HDA HHD HNZ
    go_enter Try.func35, Try.ntmps35
    go_wp2
    go_region_held3 (fun W => W.cell? ⟨w.heap.size, 36, none⟩ = some (.int .i64 N) ∧ W.cell? ⟨w.heap.size, 37, none⟩ = some (.int .i64 Z)) (first | with_reducible exact KA.out | with_reducible exact KB.out | with_reducible exact KC.out | with_reducible exact KD.out | with_reducible exact KA.out) (first
      | (go_at_call 46; (fail_if_success (have hh := HB1.out)); refine (rput_any none 0 0 [] N 4 _ (Bs.empty _ _) (fun _ => rfl) (by omega) (by omega) (by omega) (by omega) (by omega)).mono ?_; rintro e w1 ⟨v1, rfl, ho1, hb1⟩; rw [E1.out] at ho1; have HB1 : Hid (Below wA.heap.size wA w1) := Lib.hid (below_step (Below.refl _ _).drew hb1); obtain ⟨p1, c1, hv1, hlc1, hcm1, hbs1, hpc1⟩ := ho1.open; rw [L1.out] at hv1 hlc1 hbs1; subst hv1; have HD1 := Lib.hid hbs1; have HP1 := Lib.hid hpc1; obtain ⟨_, _, _, _, d36, d37⟩ := HC.out _ HB1.out; have KC := Lib.hid (And.intro d36 d37); clear ho1 hb1 hbs1 hpc1 d36 d37)
      | (go_at_call 46; refine (rput_any p1 4 c1 x1 Z 4 _ HD1.out HP1.out (by omega) (by omega) (by omega) (by omega) (by omega)).mono ?_; rintro e w2 ⟨v2, rfl, ho2, hb2⟩; have HB2 := Lib.hid (below_step HB1.out hb2); have HO2 := Lib.hid (ho2.mono HB1.out.size); obtain ⟨_, _, _, _, d36, d37⟩ := HC.out _ HB2.out; have KD := Lib.hid (And.intro d36 d37); clear ho2 hb2 d36 d37)
      | fail)
    go_wp2
    go_ret
    exact ⟨_, rfl, by rw [HR.out]; exact HO2.out.mono HS.out, below_step HB.out HB2.out⟩

set_option maxRecDepth 100000 in
set_option maxHeartbeats 1000000 in
theorem rmake14_any (x : Rq) (w : World) (hx : x.Fit w) :
    Calls Try.prog 20 #[x.v] w fun e w' => ∃ v, e = .returned (.tuple #[v, .int .i64 (rightN x.rc)]) ∧ Ob w' w.heap.size 5 v (makeN x.rc) ∧ Below w.heap.size w w' := by
  obtain ⟨wA, hA, hm, hb, c0, c1, _⟩ := box_rec w x hx.dg.1
  have HB := Lib.hid hb
  have HS := Lib.hid hb.size
  have HX := Lib.hid hx
  have HC := Lib.hid fun W (hW : Below wA.heap.size wA W) => (hm.later hW).cells hx.dg.1
  have HL := Lib.hid fun W (hW : Below wA.heap.size wA W) => (hm.later hW).load hx.dg.1
  have HRI := Lib.hid fun W => rright_any x W hx.dg.1 hx.bs.len hx.nm
  have HDT := Lib.hid fun hr W hW => rdata_any x W (hx.later hW) hr
  have HDL := Lib.hid fun hr => dataN_len hx.ok hr
  have HM : Hid (makeN x.rc = if rightN x.rc = 0 then frmN x.k x.s (dataN x.rc) else []) := Lib.hid rfl
  have hs := hx.s
  generalize makeN x.rc = F at *
  generalize rightN x.rc = R at *
  generalize dataN x.rc = D at *
  unfold Rq.v at HRI HDT ⊢
  have HSZ := Lib.hid (x.sizeOf hx.dg.1)
  have HRW := Lib.hid fun W (hW : Below wA.heap.size wA W) => Mx.range (hm.later hW)
  have HLZ : Hid ((Try.prog.info? 42).map (·.size) = some (mixL x.a x.dg x.z).length) := Lib.hid (by rw [mixL_length, hx.dg.1]; exact size38)
  unfold Rm Mx at hm
  have HMM := Lib.hid hm
  obtain ⟨k, s, dg, nm, p, n, c, da, N, Z⟩ := x
  dsimp only at *
  unfold mixC at *
  generalize mixL _ _ _ = L at *
  clear hx hm hb
  by_cases h : R = 0
  · subst h
    have hD := HDL.out rfl
    obtain ⟨DN, hDN⟩ : ∃ n, D.length = n := ⟨_, rfl⟩
    have HDN := Lib.hid hDN
    rw [hDN] at hD
    clear hDN
    rw [if_pos rfl] at HM
    go_enter Try.func20, Try.ntmps20
    go_wp2_with (first
      | (refine wpList_ld rfl _ _ rfl _ rfl _ (HL.out _ (Below.refl _ _)) ?_)
      | (go_at_call 21; refine (HRI.out _).mono ?_; rintro e w1 ⟨rfl, hb1⟩; have HB1 := Lib.hid hb1; clear hb1))
    obtain ⟨k0, k1, _⟩ := HC.out _ HB1.out.drew
    have KA := Lib.hid (And.intro k0 (And.intro k1 (HRW.out _ HB1.out.drew)))
    clear k0 k1 c0 c1
    refine wp_region_held_drew (S := (fun W => W.cell? ⟨w.heap.size, 0, none⟩ = some (.int .i64 k) ∧ W.cell? ⟨w.heap.size, 1, none⟩ = some (.int .u64 s) ∧ W.rangeAt w.heap.size 0 L)) (by kernel_rfl) KA.out (fun hHeld => ?_)
    refine take_at 0 (v := ?vv1) rfl (by kernel_rfl) (by kernel_rfl) (by kernel_rfl) (fun _ _ _ h => h) (Or.inl ⟨by rfl, ?hy1⟩) (by assumption) ?rest1
    case hy1 => intro w hSw; (try dsimp only at hSw); go_simp; (try with_reducible rfl)
    (try simp only [Act.put, List.setIfInBounds_toArray, List.set_cons_zero, List.set_cons_succ])
    refine take_at 1 (v := ?vv2) rfl (by kernel_rfl) (by kernel_rfl) (by kernel_rfl) (fun _ _ _ h => h) (Or.inl ⟨by rfl, ?hy2⟩) (by assumption) ?rest2
    case hy2 => intro w hSw; (try dsimp only at hSw); go_simp; (try with_reducible rfl)
    (try simp only [Act.put, List.setIfInBounds_toArray, List.set_cons_zero, List.set_cons_succ])
    refine take_at 2 (v := ?vv3) rfl (by kernel_rfl) (by kernel_rfl) (by kernel_rfl) (fun _ _ _ h => h) (Or.inl ⟨by rfl, ?hy3⟩) (by assumption) ?rest3
    case hy3 => intro w hSw; (try dsimp only at hSw); go_simp; (try with_reducible rfl)
    (try simp only [Act.put, List.setIfInBounds_toArray, List.set_cons_zero, List.set_cons_succ])
    refine take_at 3 (v := ?vv4) rfl (by kernel_rfl) (by kernel_rfl) (by kernel_rfl) (fun _ _ _ h => h) (Or.inl ⟨by rfl, ?hy4⟩) (by assumption) ?rest4
    case hy4 => intro w hSw; (try dsimp only at hSw); go_simp; (try with_reducible rfl)
    (try simp only [Act.put, List.setIfInBounds_toArray, List.set_cons_zero, List.set_cons_succ])
    refine take_at 4 rfl (by kernel_rfl) (by kernel_rfl) (by kernel_rfl) (fun _ _ _ h => h) (yieldsIf_load_mid (by rfl) _ _ rfl _ _ rfl _ _ (fun _ h => h.2.2) Try.underlying42 rfl HLZ.out) (by assumption) ?_
    (try simp only [Act.put, List.setIfInBounds_toArray, List.set_cons_zero, List.set_cons_succ])
    refine ready_at 5 rfl (by kernel_rfl) (fun K hK => ?_)
    go_simp
    refine (HDT.out trivial _ (below_step HB.out HB1.out.drew)).mono ?_
    rintro e w2 ⟨v2, rfl, ho2, hb2⟩
    have HB2 := Lib.hid (below_step HB1.out.drew hb2)
    obtain ⟨k0, k1, _⟩ := HC.out _ HB2.out
    have KB := Lib.hid (And.intro k0 (And.intro k1 (HRW.out _ HB2.out)))
    obtain ⟨p2, c2, hv2, hlc2, hcm2, hbs2, hpc2⟩ := ho2.open
    rw [HDN.out] at hv2 hlc2 hbs2
    subst hv2
    have HD2 := Lib.hid hbs2
    have HP2 := Lib.hid hpc2
    clear ho2 hb2 hbs2 hpc2 k0 k1 hlc2 hcm2
    first
      | refine hK.out _ _ ?hS7 (fun hHeld => ?rest7)
      | (go_wp2_with fail; refine hK.out _ _ ?hS7 (fun hHeld => ?rest7))
    case hS7 => exact KB.out
    clear hK K
    (try simp only [Act.put, List.setIfInBounds_toArray, List.set_cons_zero, List.set_cons_succ])
    refine ready_at 6 rfl (by kernel_rfl) (fun K hK => ?_)
    go_simp
    refine (rmake_any k s p2 DN c2 D _ HD2.out HP2.out (by omega) hs).mono ?_
    rintro e w3 ⟨v3, rfl, ho3, hb3⟩
    rw [← HM.out] at ho3
    have HB3 := Lib.hid (below_step HB2.out hb3)
    obtain ⟨k0, k1, _⟩ := HC.out _ HB3.out
    have KC := Lib.hid (And.intro k0 (And.intro k1 (HRW.out _ HB3.out)))
    have HO3 := Lib.hid (ho3.mono HB2.out.size)
    clear ho3 hb3 k0 k1
    first
      | refine hK.out _ _ ?hS8 (fun hHeld => ?rest8)
      | (go_wp2_with fail; refine hK.out _ _ ?hS8 (fun hHeld => ?rest8))
    case hS8 => exact KC.out
    clear hK K
    (try simp only [Act.put, List.setIfInBounds_toArray, List.set_cons_zero, List.set_cons_succ])
    refine take_at 7 (v := ?vv9) rfl (by kernel_rfl) (by kernel_rfl) (by kernel_rfl) (fun _ _ _ h => h) (Or.inl ⟨by rfl, ?hy9⟩) (by assumption) ?rest9
    case hy9 => intro w hSw; (try dsimp only at hSw); go_simp; (try with_reducible rfl)
    (try simp only [Act.put, List.setIfInBounds_toArray, List.set_cons_zero, List.set_cons_succ])
    refine take_at 8 (v := ?vv6) rfl (by kernel_rfl) (by kernel_rfl) (by kernel_rfl) (fun _ _ _ h => h) (Or.inl ⟨by rfl, ?hy6⟩) (by assumption) ?rest6
    case hy6 => intro w hSw; (try dsimp only at hSw); go_simp; (try with_reducible rfl)
    (try simp only [Act.put, List.setIfInBounds_toArray, List.set_cons_zero, List.set_cons_succ])
    refine wpAnyH_done (by kernel_rfl) ?_ _
    go_wp2
    go_ret2
    exact ⟨_, rfl, HO3.out.mono HS.out, below_step HB.out HB3.out⟩
  · rw [if_neg h] at HM
    have hne : (R != 0) = true := by simpa using h
    go_enter Try.func20, Try.ntmps20
    go_wp2_with (first
      | (refine wpList_ld rfl _ _ rfl _ rfl _ (HL.out _ (Below.refl _ _)) ?_)
      | (refine wpList_ld rfl _ _ rfl _ rfl _ (HL.out _ HB1.out) ?_)
      | (go_at_call 21; (fail_if_success (have hh := HB1.out)); refine (HRI.out _).mono ?_; rintro e w1 ⟨rfl, hb1⟩; have HB1 := Lib.hid hb1; clear hb1)
      | (go_at_call 21; refine (HRI.out _).mono ?_; rintro e w2 ⟨rfl, hb2⟩; have HB2 := Lib.hid (below_step HB1.out hb2); clear hb2))
    go_ret2
    exact ⟨_, rfl, by rw [HM.out]; exact Ob.nil _ _ _, below_step HB.out HB2.out⟩
end Go.Proofs.Ytcjflabipkppfaa
