/- Layer 14, the reference: Data, Make; Layer 14, the reference: digest; Layer 14, the reference: read -/
import Derived.Test.YtjdigncieoaglaaSt11
import Derived.Test.YtjdigncieoaglaaSt18
import Derived.Test.YtjdigncieoaglaaSt19
import Derived.Test.YtjdigncieoaglaaSt23
set_option linter.unusedSimpArgs false
set_option linter.unusedVariables false
namespace Go.Proofs.Ytjdigncieoaglaa
set_option linter.unusedVariables false
open Go.RowKit Go.Lib

set_option maxRecDepth 100000 in
set_option maxHeartbeats 1000000 in
theorem rdata_any (x : Rq) (w : World) (hx : x.Fit w) (hr : rightN x.rc = 0) :
    Calls Try.prog 22 #[x.v] w fun e w' => ∃ v, e = .returned v ∧ Ob w' w.heap.size 5 v (dataN x.rc) ∧ Below w.heap.size w w' := by
  obtain ⟨wA, hA, hm, hb, c0, c1, c34, c35, c36, c37⟩ := box_rec w x hx.dg.1
  have HB := Lib.hid hb
  have HD := Lib.hid (hm.dig hx.dg)
  have HX := Lib.hid (hx.bs.later hb)
  have HPC := Lib.hid hx.pc
  have HDL := Lib.hid hx.dg.1
  have HXL := Lib.hid hx.bs.len
  have HK := Lib.hid (rightN_k hr)
  have HNM := Lib.hid fun (h : x.k = 3 ∨ x.k = 4) => tagP_len (rightN_nm hr h)
  have HDA := Lib.hid fun (h : x.k ≤ 2) => rightN_da hr h
  have HNZ := Lib.hid fun (h : x.k = 6 ∨ x.k = 8) => rightN_nz hr h
  have HHD := Lib.hid fun (h : x.k = 7) => rightN_hd hr h
  have HC := Lib.hid fun W (hW : Below wA.heap.size wA W) => (hm.later hW).cells hx.dg.1
  obtain ⟨R, hR⟩ : ∃ R, dataN x.rc = R := ⟨_, rfl⟩
  rw [hR]
  have HR : Hid (R = dataN x.rc) := Lib.hid hR.symm
  clear hR
  unfold dataN at HR
  unfold Rq.rc at HR HNM HDA HNZ HHD HK
  dsimp only at HR HNM HDA HNZ HHD HK
  have HNL := Lib.hid (numsOf_length x.nm)
  have HS := Lib.hid hb.size
  unfold Rq.v
  obtain ⟨k, s, dg, nm, p, n, c, da, N, Z⟩ := x
  dsimp only at *
  generalize mixC _ _ _ = M at *
  clear hb hx hm hr c1
  rcases kinds (k := k) with h | h | rfl | rfl | rfl | rfl | rfl | rfl | rfl | rfl
  · have := HK.out; omega
  · have := HK.out; omega
  · have hn : n ≤ 65504 := by have := HDA.out (by omega); have := HXL.out; omega
    replace HR : Hid (R = dg ++ da) := Lib.hid (by rw [HR.out]; simp)
    have hl : dg.length + n ≤ 140737488355328 := by have := HDL.out; omega
    have HL := Lib.hid hl
    clear hl c34 c35 c36 c37 HK HNM HDA HNZ HHD
    go_enter Try.func22, Try.ntmps22
    go_wp2_with (first
      | ((fail_if_success (have hh := HB1.out)); refine wpList_append_bytes rfl _ _ 23 5 rfl Try.underlying23 info8 wA.heap.size _ [] rfl (Ob.nil _ _ _) (some ⟨w.heap.size, 2, none⟩) 32 32 dg rfl HD.out (fun h => by cases h) (by simp) (Nat.le_refl _) ?_; intro v1 w1 ho1 hg1; rw [List.nil_append] at ho1; have HB1 : Hid (Below wA.heap.size wA w1) := Lib.hid (below_new (e := 5) (Below.refl _ _) (Ob.nil _ _ _) hg1 (Nat.le_refl _)); have HO1 := Lib.hid ho1; have HX1 := Lib.hid (HX.out.later HB1.out); obtain ⟨_, _, _, d35, _⟩ := HC.out _ HB1.out; clear ho1 hg1)
      | (refine wpList_append_bytes rfl _ _ 23 5 rfl Try.underlying23 info8 wA.heap.size _ dg rfl HO1.out p n c da rfl HX1.out HPC.out HL.out HB1.out.size ?_; intro v2 w2 ho2 hg2; have HB2 := Lib.hid (below_new HB1.out HO1.out hg2 HB1.out.size); have HO2 := Lib.hid ho2; clear ho2 hg2))
    go_ret
    exact ⟨_, rfl, by rw [HR.out]; exact HO2.out.mono HS.out, below_step HB.out HB2.out⟩
  · have hn : n ≤ 65504 := by have := HDA.out (by omega); have := HXL.out; omega
    replace HR : Hid (R = dg ++ da) := Lib.hid (by rw [HR.out]; simp)
    have hl : dg.length + n ≤ 140737488355328 := by have := HDL.out; omega
    have HL := Lib.hid hl
    clear hl c34 c35 c36 c37 HK HNM HDA HNZ HHD
    go_enter Try.func22, Try.ntmps22
    go_wp2_with (first
      | ((fail_if_success (have hh := HB1.out)); refine wpList_append_bytes rfl _ _ 23 5 rfl Try.underlying23 info8 wA.heap.size _ [] rfl (Ob.nil _ _ _) (some ⟨w.heap.size, 2, none⟩) 32 32 dg rfl HD.out (fun h => by cases h) (by simp) (Nat.le_refl _) ?_; intro v1 w1 ho1 hg1; rw [List.nil_append] at ho1; have HB1 : Hid (Below wA.heap.size wA w1) := Lib.hid (below_new (e := 5) (Below.refl _ _) (Ob.nil _ _ _) hg1 (Nat.le_refl _)); have HO1 := Lib.hid ho1; have HX1 := Lib.hid (HX.out.later HB1.out); obtain ⟨_, _, _, d35, _⟩ := HC.out _ HB1.out; clear ho1 hg1)
      | (refine wpList_append_bytes rfl _ _ 23 5 rfl Try.underlying23 info8 wA.heap.size _ dg rfl HO1.out p n c da rfl HX1.out HPC.out HL.out HB1.out.size ?_; intro v2 w2 ho2 hg2; have HB2 := Lib.hid (below_new HB1.out HO1.out hg2 HB1.out.size); have HO2 := Lib.hid ho2; clear ho2 hg2))
    go_ret
    exact ⟨_, rfl, by rw [HR.out]; exact HO2.out.mono HS.out, below_step HB.out HB2.out⟩
  · have hn := HNM.out (by omega)
    replace HR : Hid (R = (([(nm.size : Int)] ++ numsOf nm) ++ dg)) := Lib.hid (by rw [HR.out, HNL.out]; simp)
    rw [HNL.out] at hn
    have hw := wrap8 (n := (nm.size : Int)) (by omega) (by omega)
    have h0 : 0 ≤ (nm.size : Int) ∧ (nm.size : Int) < 256 := by omega
    have HL1 : Hid ([(nm.size : Int)].length + nm.size ≤ 140737488355328) := Lib.hid (by simp; omega)
    have HL2 : Hid (([(nm.size : Int)] ++ numsOf nm).length + 32 ≤ 140737488355328) := Lib.hid (by rw [List.length_append, HNL.out]; simp; omega)
    clear c35 c36 c37 HK HNM HDA HNZ HHD
    go_enter Try.func22, Try.ntmps22
    go_wp2_with (first
      | ((fail_if_success (have hh := HB1.out)); refine wpList_append_bytes rfl _ _ 23 5 rfl Try.underlying23 info8 wA.heap.size _ [] rfl (Ob.nil _ _ _) (some ⟨wA.heap.size, 0, none⟩) 1 1 [(nm.size : Int)] rfl (bs_one wA _ _ h0.1 h0.2) (fun h => by cases h) (by simp) (by simp) ?_; intro v1 w1 ho1 hg1; rw [List.nil_append] at ho1; have HB1 : Hid (Below wA.heap.size wA w1) := Lib.hid (below_new (e := 5) ((Below.refl _ _).alloc (Nat.le_refl _) _) (Ob.nil _ _ _) hg1 (by simp)); have HO1 := Lib.hid ho1; obtain ⟨_, _, d34, _, _⟩ := HC.out _ HB1.out; clear ho1 hg1)
      | (refine wpList_append_text rfl _ _ 23 9 5 rfl Try.underlying23 Try.underlying9 info8 wA.heap.size _ [(nm.size : Int)] rfl HO1.out nm rfl HL1.out HB1.out.size ?_; intro v2 w2 ho2 hg2; have HB2 := Lib.hid (below_new HB1.out HO1.out hg2 HB1.out.size); have HO2 := Lib.hid ho2; have HD2 := Lib.hid (HD.out.later HB2.out); clear ho2 hg2)
      | (refine wpList_append_bytes rfl _ _ 23 5 rfl Try.underlying23 info8 wA.heap.size _ ([(nm.size : Int)] ++ numsOf nm) rfl HO2.out (some ⟨w.heap.size, 2, none⟩) 32 32 dg rfl HD2.out (fun h => by cases h) HL2.out HB2.out.size ?_; intro v3 w3 ho3 hg3; have HB3 := Lib.hid (below_new HB2.out HO2.out hg3 HB2.out.size); have HO3 := Lib.hid ho3; clear ho3 hg3))
    go_ret
    exact ⟨_, rfl, by rw [HR.out]; exact HO3.out.mono HS.out, below_step HB.out HB3.out⟩
  · have hn := HNM.out (by omega)
    replace HR : Hid (R = [(nm.size : Int)] ++ numsOf nm) := Lib.hid (by rw [HR.out, HNL.out]; simp)
    rw [HNL.out] at hn
    have hw := wrap8 (n := (nm.size : Int)) (by omega) (by omega)
    have h0 : 0 ≤ (nm.size : Int) ∧ (nm.size : Int) < 256 := by omega
    have HL1 : Hid ([(nm.size : Int)].length + nm.size ≤ 140737488355328) := Lib.hid (by simp; omega)
    have HL2 : Hid (([(nm.size : Int)] ++ numsOf nm).length + 32 ≤ 140737488355328) := Lib.hid (by rw [List.length_append, HNL.out]; simp; omega)
    clear c35 c36 c37 HK HNM HDA HNZ HHD
    go_enter Try.func22, Try.ntmps22
    go_wp2_with (first
      | ((fail_if_success (have hh := HB1.out)); refine wpList_append_bytes rfl _ _ 23 5 rfl Try.underlying23 info8 wA.heap.size _ [] rfl (Ob.nil _ _ _) (some ⟨wA.heap.size, 0, none⟩) 1 1 [(nm.size : Int)] rfl (bs_one wA _ _ h0.1 h0.2) (fun h => by cases h) (by simp) (by simp) ?_; intro v1 w1 ho1 hg1; rw [List.nil_append] at ho1; have HB1 : Hid (Below wA.heap.size wA w1) := Lib.hid (below_new (e := 5) ((Below.refl _ _).alloc (Nat.le_refl _) _) (Ob.nil _ _ _) hg1 (by simp)); have HO1 := Lib.hid ho1; obtain ⟨_, _, d34, _, _⟩ := HC.out _ HB1.out; clear ho1 hg1)
      | (refine wpList_append_text rfl _ _ 23 9 5 rfl Try.underlying23 Try.underlying9 info8 wA.heap.size _ [(nm.size : Int)] rfl HO1.out nm rfl HL1.out HB1.out.size ?_; intro v2 w2 ho2 hg2; have HB2 := Lib.hid (below_new HB1.out HO1.out hg2 HB1.out.size); have HO2 := Lib.hid ho2; have HD2 := Lib.hid (HD.out.later HB2.out); clear ho2 hg2))
    go_ret
    exact ⟨_, rfl, by rw [HR.out]; exact HO2.out.mono HS.out, below_step HB.out HB2.out⟩
  · replace HR : Hid (R = dg) := Lib.hid (by rw [HR.out]; simp)
    clear c34 c35 c36 c37 HK HNM HDA HNZ HHD
    go_enter Try.func22, Try.ntmps22
    go_wp2_with (refine wpList_append_bytes rfl _ _ 23 5 rfl Try.underlying23 info8 wA.heap.size _ [] rfl (Ob.nil _ _ _) (some ⟨w.heap.size, 2, none⟩) 32 32 dg rfl HD.out (fun h => by cases h) (by simp) (Nat.le_refl _) ?_; intro v1 w1 ho1 hg1; rw [List.nil_append] at ho1; have HB1 : Hid (Below wA.heap.size wA w1) := Lib.hid (below_new (e := 5) (Below.refl _ _) (Ob.nil _ _ _) hg1 (Nat.le_refl _)); have HO1 := Lib.hid ho1; clear ho1 hg1)
    go_ret
    exact ⟨_, rfl, by rw [HR.out]; exact HO1.out.mono HS.out, below_step HB.out HB1.out⟩
  · have hn := HNZ.out (by omega)
    replace HR : Hid (R = ([] ++ putN N 4) ++ putN Z 4) := Lib.hid (by rw [HR.out]; simp)
    have HE : Hid (Bs wA none 0 []) := Lib.hid (Bs.empty _ _)
    have hwN : IntKind.u64.wrap N = N := wrap_u64_in (by omega) (by omega)
    have hwZ : IntKind.u64.wrap Z = Z := wrap_u64_in (by omega) (by omega)
    obtain ⟨x1, e1⟩ : ∃ x, ([] : List Int) ++ putN N 4 = x := ⟨_, rfl⟩
    have l1 : x1.length = 4 := by rw [← e1]; simp [putN_length]
    rw [e1] at HR
    have E1 := Lib.hid e1
    have L1 := Lib.hid l1
    obtain ⟨kA, kB⟩ : wA.cell? ⟨w.heap.size, 36, none⟩ = some (.int .i64 N) ∧ wA.cell? ⟨w.heap.size, 37, none⟩ = some (.int .i64 Z) := ⟨c36, c37⟩
    have KA := Lib.hid (And.intro kA kB)
    have KB : Hid (wA.drew.cell? ⟨w.heap.size, 36, none⟩ = some (.int .i64 N) ∧ wA.drew.cell? ⟨w.heap.size, 37, none⟩ = some (.int .i64 Z)) := Lib.hid ⟨kA, kB⟩
    clear kA kB e1 l1 c34 c35 HK HNM HDA HHD HNZ
    go_enter Try.func22, Try.ntmps22
    go_wp2
    go_region_held3 (fun W => W.cell? ⟨w.heap.size, 36, none⟩ = some (.int .i64 N) ∧ W.cell? ⟨w.heap.size, 37, none⟩ = some (.int .i64 Z)) (first | with_reducible exact KA.out | with_reducible exact KB.out | with_reducible exact KC.out | with_reducible exact KD.out | with_reducible exact KA.out) (first
      | (go_at_call 31; (fail_if_success (have hh := HB1.out)); refine (rput_any none 0 0 [] N 4 _ (Bs.empty _ _) (fun _ => rfl) (by omega) (by omega) (by omega) (by omega) (by omega)).mono ?_; rintro e w1 ⟨v1, rfl, ho1, hb1⟩; rw [E1.out] at ho1; have HB1 : Hid (Below wA.heap.size wA w1) := Lib.hid (below_step (Below.refl _ _).drew hb1); obtain ⟨p1, c1, hv1, hlc1, hcm1, hbs1, hpc1⟩ := ho1.open; rw [L1.out] at hv1 hlc1 hbs1; subst hv1; have HD1 := Lib.hid hbs1; have HP1 := Lib.hid hpc1; obtain ⟨_, _, _, _, d36, d37⟩ := HC.out _ HB1.out; have KC := Lib.hid (And.intro d36 d37); clear ho1 hb1 hbs1 hpc1 d36 d37)
      | (go_at_call 31; refine (rput_any p1 4 c1 x1 Z 4 _ HD1.out HP1.out (by omega) (by omega) (by omega) (by omega) (by omega)).mono ?_; rintro e w2 ⟨v2, rfl, ho2, hb2⟩; have HB2 := Lib.hid (below_step HB1.out hb2); have HO2 := Lib.hid (ho2.mono HB1.out.size); obtain ⟨_, _, _, _, d36, d37⟩ := HC.out _ HB2.out; have KD := Lib.hid (And.intro d36 d37); clear ho2 hb2 d36 d37)
      | fail)
    go_wp2
    go_ret
    exact ⟨_, rfl, by rw [HR.out]; exact HO2.out.mono HS.out, below_step HB.out HB2.out⟩
  · have hn := HHD.out rfl
    replace HR : Hid (R = magN ++ putN N 8) := Lib.hid (by rw [HR.out]; simp)
    have hwN : IntKind.u64.wrap N = N := wrap_u64_in (by omega) (by omega)
    have kc := fun (W : World) (C : Array Value) (n c : Nat) => Lib.run_convert_bytes_const (P := Try.prog) W 23 5 C n c Try.underlying23 Try.underlying5
    obtain ⟨wB, hB⟩ : ∃ W, wA.alloc (.cells #[.int .u8 115, .int .u8 116, .int .u8 105, .int .u8 108, .int .u8 108, .int .u8 97, .int .u8 103, .int .u8 101] 5 (8, 9)) = W := ⟨_, rfl⟩
    have HMB : Hid (Bs wB (some ⟨wA.heap.size, 0, none⟩) 8 magN) := Lib.hid (by rw [← hB]; exact bs_lit_fr wA 5 _ (8, 9) magN 8 rfl magN_byt rfl)
    have HBB : Hid (Below wA.heap.size wA wB) := Lib.hid (by rw [← hB]; exact (Below.refl _ _).alloc (Nat.le_refl _) _)
    obtain ⟨_, _, _, _, d36, _⟩ := HC.out _ HBB.out
    clear c34 c35 c37 HK HNM HDA HNZ HHD
    go_enter Try.func22, Try.ntmps22
    go_wp2_with (go_at_call 31; refine (rput_any _ 8 _ magN N 8 _ HMB.out (fun h => by cases h) (by omega) (by omega) (by omega) (by omega) (by omega)).mono ?_; rintro e w1 ⟨v1, rfl, ho1, hb1⟩; have HB1 := Lib.hid (below_step HBB.out hb1); have HO1 := Lib.hid (ho1.mono HBB.out.size); clear ho1 hb1)
    go_ret
    exact ⟨_, rfl, by rw [HR.out]; exact HO1.out.mono HS.out, below_step HB.out HB1.out⟩
  · have hn := HNZ.out (by omega)
    replace HR : Hid (R = ([] ++ putN N 4) ++ putN Z 4) := Lib.hid (by rw [HR.out]; simp)
    have HE : Hid (Bs wA none 0 []) := Lib.hid (Bs.empty _ _)
    have hwN : IntKind.u64.wrap N = N := wrap_u64_in (by omega) (by omega)
    have hwZ : IntKind.u64.wrap Z = Z := wrap_u64_in (by omega) (by omega)
    obtain ⟨x1, e1⟩ : ∃ x, ([] : List Int) ++ putN N 4 = x := ⟨_, rfl⟩
    have l1 : x1.length = 4 := by rw [← e1]; simp [putN_length]
    rw [e1] at HR
    have E1 := Lib.hid e1
    have L1 := Lib.hid l1
    obtain ⟨kA, kB⟩ : wA.cell? ⟨w.heap.size, 36, none⟩ = some (.int .i64 N) ∧ wA.cell? ⟨w.heap.size, 37, none⟩ = some (.int .i64 Z) := ⟨c36, c37⟩
    have KA := Lib.hid (And.intro kA kB)
    have KB : Hid (wA.drew.cell? ⟨w.heap.size, 36, none⟩ = some (.int .i64 N) ∧ wA.drew.cell? ⟨w.heap.size, 37, none⟩ = some (.int .i64 Z)) := Lib.hid ⟨kA, kB⟩
    clear kA kB e1 l1 c34 c35 HK HNM HDA HHD HNZ
    go_enter Try.func22, Try.ntmps22
    go_wp2
    go_region_held3 (fun W => W.cell? ⟨w.heap.size, 36, none⟩ = some (.int .i64 N) ∧ W.cell? ⟨w.heap.size, 37, none⟩ = some (.int .i64 Z)) (first | with_reducible exact KA.out | with_reducible exact KB.out | with_reducible exact KC.out | with_reducible exact KD.out | with_reducible exact KA.out) (first
      | (go_at_call 31; (fail_if_success (have hh := HB1.out)); refine (rput_any none 0 0 [] N 4 _ (Bs.empty _ _) (fun _ => rfl) (by omega) (by omega) (by omega) (by omega) (by omega)).mono ?_; rintro e w1 ⟨v1, rfl, ho1, hb1⟩; rw [E1.out] at ho1; have HB1 : Hid (Below wA.heap.size wA w1) := Lib.hid (below_step (Below.refl _ _).drew hb1); obtain ⟨p1, c1, hv1, hlc1, hcm1, hbs1, hpc1⟩ := ho1.open; rw [L1.out] at hv1 hlc1 hbs1; subst hv1; have HD1 := Lib.hid hbs1; have HP1 := Lib.hid hpc1; obtain ⟨_, _, _, _, d36, d37⟩ := HC.out _ HB1.out; have KC := Lib.hid (And.intro d36 d37); clear ho1 hb1 hbs1 hpc1 d36 d37)
      | (go_at_call 31; refine (rput_any p1 4 c1 x1 Z 4 _ HD1.out HP1.out (by omega) (by omega) (by omega) (by omega) (by omega)).mono ?_; rintro e w2 ⟨v2, rfl, ho2, hb2⟩; have HB2 := Lib.hid (below_step HB1.out hb2); have HO2 := Lib.hid (ho2.mono HB1.out.size); obtain ⟨_, _, _, _, d36, d37⟩ := HC.out _ HB2.out; have KD := Lib.hid (And.intro d36 d37); clear ho2 hb2 d36 d37)
      | fail)
    go_wp2
    go_ret
    exact ⟨_, rfl, by rw [HR.out]; exact HO2.out.mono HS.out, below_step HB.out HB2.out⟩

set_option maxRecDepth 100000 in
set_option maxHeartbeats 1000000 in
theorem rmake14_any (x : Rq) (w : World) (hx : x.Fit w) :
    Calls Try.prog 7 #[x.v] w fun e w' => ∃ v, e = .returned (.tuple #[v, .int .i64 (rightN x.rc)]) ∧ Ob w' w.heap.size 5 v (makeN x.rc) ∧ Below w.heap.size w w' := by
  obtain ⟨wA, hA, hm, hb, c0, c1, _⟩ := box_rec w x hx.dg.1
  have HB := Lib.hid hb
  have HS := Lib.hid hb.size
  have HX := Lib.hid hx
  have HC := Lib.hid fun W (hW : Below wA.heap.size wA W) => (hm.later hW).cells hx.dg.1
  have HL := Lib.hid fun W (hW : Below wA.heap.size wA W) => (hm.later hW).load hx.dg.1
  have HRI := Lib.hid fun W => rright_any x W hx.dg.1 hx.bs.len hx.nm
  have HDT := Lib.hid fun hr W hW => rdata_any x W (hx.later hW) hr
  have HDL := Lib.hid fun hr => dataN_len hx.ok hr
  have HM : Hid (makeN x.rc = if rightN x.rc = 0 then frmN x.k x.s (dataN x.rc) else []) := Lib.hid rfl
  have hs := hx.s
  generalize makeN x.rc = F at *
  generalize rightN x.rc = R at *
  generalize dataN x.rc = D at *
  unfold Rq.v at HRI HDT ⊢
  have HSZ := Lib.hid (x.sizeOf hx.dg.1)
  have HRW := Lib.hid fun W (hW : Below wA.heap.size wA W) => Mx.range (hm.later hW)
  have HLZ : Hid ((Try.prog.info? 29).map (·.size) = some (mixL x.a x.dg x.z).length) := Lib.hid (by rw [mixL_length, hx.dg.1]; exact size38)
  unfold Rm Mx at hm
  have HMM := Lib.hid hm
  obtain ⟨k, s, dg, nm, p, n, c, da, N, Z⟩ := x
  dsimp only at *
  unfold mixC at *
  generalize mixL _ _ _ = L at *
  clear hx hm hb
  by_cases h : R = 0
  · subst h
    have hD := HDL.out rfl
    obtain ⟨DN, hDN⟩ : ∃ n, D.length = n := ⟨_, rfl⟩
    have HDN := Lib.hid hDN
    rw [hDN] at hD
    clear hDN
    rw [if_pos rfl] at HM
    go_enter Try.func7, Try.ntmps7
    go_wp2_with (first
      | (refine wpList_ld rfl _ _ rfl _ rfl _ (HL.out _ (Below.refl _ _)) ?_)
      | (go_at_call 20; refine (HRI.out _).mono ?_; rintro e w1 ⟨rfl, hb1⟩; have HB1 := Lib.hid hb1; clear hb1))
    obtain ⟨k0, k1, _⟩ := HC.out _ HB1.out.drew
    have KA := Lib.hid (And.intro k0 (And.intro k1 (HRW.out _ HB1.out.drew)))
    clear k0 k1 c0 c1
    refine wp_region_held_drew (S := (fun W => W.cell? ⟨w.heap.size, 0, none⟩ = some (.int .i64 k) ∧ W.cell? ⟨w.heap.size, 1, none⟩ = some (.int .u64 s) ∧ W.rangeAt w.heap.size 0 L)) (by kernel_rfl) KA.out (fun hHeld => ?_)
    refine take_at 0 (v := ?vv1) rfl (by kernel_rfl) (by kernel_rfl) (by kernel_rfl) (fun _ _ _ h => h) (Or.inl ⟨by rfl, ?hy1⟩) (by assumption) ?rest1
    case hy1 => intro w hSw; (try dsimp only at hSw); go_simp; (try with_reducible rfl)
    (try simp only [Act.put, List.setIfInBounds_toArray, List.set_cons_zero, List.set_cons_succ])
    refine take_at 1 (v := ?vv2) rfl (by kernel_rfl) (by kernel_rfl) (by kernel_rfl) (fun _ _ _ h => h) (Or.inl ⟨by rfl, ?hy2⟩) (by assumption) ?rest2
    case hy2 => intro w hSw; (try dsimp only at hSw); go_simp; (try with_reducible rfl)
    (try simp only [Act.put, List.setIfInBounds_toArray, List.set_cons_zero, List.set_cons_succ])
    refine take_at 2 (v := ?vv3) rfl (by kernel_rfl) (by kernel_rfl) (by kernel_rfl) (fun _ _ _ h => h) (Or.inl ⟨by rfl, ?hy3⟩) (by assumption) ?rest3
    case hy3 => intro w hSw; (try dsimp only at hSw); go_simp; (try with_reducible rfl)
    (try simp only [Act.put, List.setIfInBounds_toArray, List.set_cons_zero, List.set_cons_succ])
    refine take_at 3 (v := ?vv4) rfl (by kernel_rfl) (by kernel_rfl) (by kernel_rfl) (fun _ _ _ h => h) (Or.inl ⟨by rfl, ?hy4⟩) (by assumption) ?rest4
    case hy4 => intro w hSw; (try dsimp only at hSw); go_simp; (try with_reducible rfl)
    (try simp only [Act.put, List.setIfInBounds_toArray, List.set_cons_zero, List.set_cons_succ])
    refine take_at 4 rfl (by kernel_rfl) (by kernel_rfl) (by kernel_rfl) (fun _ _ _ h => h) (yieldsIf_load_mid (by rfl) _ _ rfl _ _ rfl _ _ (fun _ h => h.2.2) Try.underlying29 rfl HLZ.out) (by assumption) ?_
    (try simp only [Act.put, List.setIfInBounds_toArray, List.set_cons_zero, List.set_cons_succ])
    refine ready_at 5 rfl (by kernel_rfl) (fun K hK => ?_)
    go_simp
    refine (HDT.out trivial _ (below_step HB.out HB1.out.drew)).mono ?_
    rintro e w2 ⟨v2, rfl, ho2, hb2⟩
    have HB2 := Lib.hid (below_step HB1.out.drew hb2)
    obtain ⟨k0, k1, _⟩ := HC.out _ HB2.out
    have KB := Lib.hid (And.intro k0 (And.intro k1 (HRW.out _ HB2.out)))
    obtain ⟨p2, c2, hv2, hlc2, hcm2, hbs2, hpc2⟩ := ho2.open
    rw [HDN.out] at hv2 hlc2 hbs2
    subst hv2
    have HD2 := Lib.hid hbs2
    have HP2 := Lib.hid hpc2
    clear ho2 hb2 hbs2 hpc2 k0 k1 hlc2 hcm2
    first
      | refine hK.out _ _ ?hS7 (fun hHeld => ?rest7)
      | (go_wp2_with fail; refine hK.out _ _ ?hS7 (fun hHeld => ?rest7))
    case hS7 => exact KB.out
    clear hK K
    (try simp only [Act.put, List.setIfInBounds_toArray, List.set_cons_zero, List.set_cons_succ])
    refine ready_at 6 rfl (by kernel_rfl) (fun K hK => ?_)
    go_simp
    refine (rmake_any k s p2 DN c2 D _ HD2.out HP2.out (by omega) hs).mono ?_
    rintro e w3 ⟨v3, rfl, ho3, hb3⟩
    rw [← HM.out] at ho3
    have HB3 := Lib.hid (below_step HB2.out hb3)
    obtain ⟨k0, k1, _⟩ := HC.out _ HB3.out
    have KC := Lib.hid (And.intro k0 (And.intro k1 (HRW.out _ HB3.out)))
    have HO3 := Lib.hid (ho3.mono HB2.out.size)
    clear ho3 hb3 k0 k1
    first
      | refine hK.out _ _ ?hS8 (fun hHeld => ?rest8)
      | (go_wp2_with fail; refine hK.out _ _ ?hS8 (fun hHeld => ?rest8))
    case hS8 => exact KC.out
    clear hK K
    (try simp only [Act.put, List.setIfInBounds_toArray, List.set_cons_zero, List.set_cons_succ])
    refine take_at 7 (v := ?vv9) rfl (by kernel_rfl) (by kernel_rfl) (by kernel_rfl) (fun _ _ _ h => h) (Or.inl ⟨by rfl, ?hy9⟩) (by assumption) ?rest9
    case hy9 => intro w hSw; (try dsimp only at hSw); go_simp; (try with_reducible rfl)
    (try simp only [Act.put, List.setIfInBounds_toArray, List.set_cons_zero, List.set_cons_succ])
    refine take_at 8 (v := ?vv6) rfl (by kernel_rfl) (by kernel_rfl) (by kernel_rfl) (fun _ _ _ h => h) (Or.inl ⟨by rfl, ?hy6⟩) (by assumption) ?rest6
    case hy6 => intro w hSw; (try dsimp only at hSw); go_simp; (try with_reducible rfl)
    (try simp only [Act.put, List.setIfInBounds_toArray, List.set_cons_zero, List.set_cons_succ])
    refine wpAnyH_done (by kernel_rfl) ?_ _
    go_wp2
    go_ret2
    exact ⟨_, rfl, HO3.out.mono HS.out, below_step HB.out HB3.out⟩
  · rw [if_neg h] at HM
    have hne : (R != 0) = true := by simpa using h
    go_enter Try.func7, Try.ntmps7
    go_wp2_with (first
      | (refine wpList_ld rfl _ _ rfl _ rfl _ (HL.out _ (Below.refl _ _)) ?_)
      | (refine wpList_ld rfl _ _ rfl _ rfl _ (HL.out _ HB1.out) ?_)
      | (go_at_call 20; (fail_if_success (have hh := HB1.out)); refine (HRI.out _).mono ?_; rintro e w1 ⟨rfl, hb1⟩; have HB1 := Lib.hid hb1; clear hb1)
      | (go_at_call 20; refine (HRI.out _).mono ?_; rintro e w2 ⟨rfl, hb2⟩; have HB2 := Lib.hid (below_step HB1.out hb2); clear hb2))
    go_ret2
    exact ⟨_, rfl, by rw [HM.out]; exact Ob.nil _ _ _, below_step HB.out HB2.out⟩
end Go.Proofs.Ytjdigncieoaglaa

namespace Go.Proofs.Ytjdigncieoaglaa
set_option linter.unusedVariables false
open Go.RowKit Go.Lib

/-- the first k bytes, and noughts -/
def dset (zs : List Int) (k : Nat) : List Int := zs.take k ++ List.replicate (32 - k) 0
theorem dset_zero (zs : List Int) : dset zs 0 = dzero := rfl
theorem dset_length {zs : List Int} {k : Nat} (h : 32 ≤ zs.length) (hk : k ≤ 32) : (dset zs k).length = 32 := by
  unfold dset
  rw [List.length_append, List.length_take, List.length_replicate]
  omega
theorem dset_step {zs : List Int} {k : Nat} (h : 32 ≤ zs.length) (hk : k < 32) : (dset zs k).set k (zs.getD k 0) = dset zs (k + 1) := by
  unfold dset
  have e : zs.getD k 0 = zs[k]'(by omega) := by rw [List.getD_eq_getElem?_getD, List.getElem?_eq_getElem (by omega)]; rfl
  rw [List.set_append_right _ _ (by rw [List.length_take]; omega), List.length_take, Nat.min_eq_left (by omega), Nat.sub_self, show 32 - k = (32 - (k + 1)) + 1 by omega, List.replicate_succ, List.set_cons_zero, e, List.take_succ_eq_append_getElem (by omega), List.append_assoc]
  rfl
theorem dset_all {zs : List Int} : dset zs 32 = zs.take 32 := by
  unfold dset
  simp

set_option maxRecDepth 100000 in
theorem rdig14_any (p : Option Addr) (n c : Nat) (zs : List Int) (w : World) (h : Bs w p n zs) (h32 : 32 ≤ n) (hn : n ≤ maxLen) :
    Calls Try.prog 43 #[.slice p n c] w fun e w' => e = .returned (.agg (bcs (zs.take 32))) ∧ Below w.heap.size w w' := by
  have H := Lib.hid h
  have hz := h.len
  obtain ⟨b, off, hp, hc⟩ : ∃ b off, p = some ⟨b, off, none⟩ ∧ ∀ j, j < n → w.cell? ⟨b, off + j, none⟩ = some (.int .u8 (zs.getD j 0)) := by
    rcases h.2.2 with h0 | h0
    · omega
    · exact h0
  subst hp
  have HZ := Lib.hid hz
  have HE := Lib.hid (dset_all (zs := zs))
  have HB0 : Hid (Below w.heap.size w ((w.alloc (.cells (bcs dzero) 27)).alloc (.cells (bcs dzero) 27))) := Lib.hid (((Below.refl _ _).alloc (Nat.le_refl _) _).alloc (by simp) _)
  have HY0 : Hid (Yw ((w.alloc (.cells (bcs dzero) 27)).alloc (.cells (bcs dzero) 27)) w.heap.size 27 dzero) := Lib.hid (heap_alloc2_old _ _ _)
  have HY1 : Hid (Yw ((w.alloc (.cells (bcs dzero) 27)).alloc (.cells (bcs dzero) 27)) (w.heap.size + 1) 27 (dset zs 0)) := Lib.hid (heap_alloc2_new _ _ _)
  clear h hz hc
  go_enter Try.func43, Try.ntmps43
  go_wp2
  go_loopw [4] (fun i wr => ∃ k : Nat, k ≤ 32 ∧ i = .int .i64 (k : Int) ∧ Hid (Yw wr w.heap.size 27 dzero) ∧ Hid (Yw wr (w.heap.size + 1) 27 (dset zs k)) ∧ Hid (Below w.heap.size w wr)) (fun i _ => 32 - (intOf i).toNat)
  case atStart => exact ⟨0, by omega, rfl, HY0, HY1, HB0⟩
  case round =>
    obtain ⟨k, hk, rfl, HA, HD, HB⟩ := hrel
    by_cases hlt : k < 32
    · have hbs := H.out.later HB.out
      obtain ⟨b', off', hp', hc'⟩ : ∃ b' off', (some (⟨b, off, none⟩ : Addr)) = some ⟨b', off', none⟩ ∧ ∀ j, j < n → wr.cell? ⟨b', off' + j, none⟩ = some (.int .u8 (zs.getD j 0)) := by
        rcases hbs.2.2 with h0 | h0
        · omega
        · exact h0
      simp only [Option.some.injEq, Addr.mk.injEq, and_true] at hp'
      obtain ⟨rfl, rfl⟩ := hp'
      have hcell := hc' k (by omega)
      have hby := H.out.byte k
      have HS := Lib.hid (dset_step (zs := zs) (k := k) (by rw [HZ.out]; exact h32) hlt)
      have hold := HD.out.cell k (by rw [dset_length (by rw [HZ.out]; exact h32) hk]; exact hlt)
      have hfr := HD.out.frozen k
      have HN : ∀ x : Int, Hid (Yw (wr.setCell ⟨w.heap.size + 1, k, none⟩ (.int .u8 x)) (w.heap.size + 1) 27 ((dset zs k).set k x)) := fun x => Lib.hid (HD.out.set k x)
      have HNA : ∀ x : Int, Hid (Yw (wr.setCell ⟨w.heap.size + 1, k, none⟩ (.int .u8 x)) w.heap.size 27 dzero) := fun x => Lib.hid (HA.out.other _ _ (by show w.heap.size ≠ w.heap.size + 1; omega))
      have HNB : ∀ x : Int, Hid (Below w.heap.size w (wr.setCell ⟨w.heap.size + 1, k, none⟩ (.int .u8 x))) := fun x => Lib.hid (HB.out.setCell (by show w.heap.size ≤ w.heap.size + 1; omega) _)
      generalize zs.getD k 0 = x at *
      generalize (dset zs k).getD k 0 = y at *
      clear hbs hc'
      go_wp2
      exact ⟨⟨k + 1, by omega, by go_num, HNA x, by rw [← HS.out]; exact HN x, HNB x⟩, by simp [intOf] <;> omega⟩
    · obtain rfl : k = 32 := by omega
      rw [HE.out] at HD
      have HZ1 : Hid ((Try.prog.info? 27).map (·.size) = some (bcs (zs.take 32)).size) := Lib.hid (by rw [bcs_size, List.length_take, HZ.out, Nat.min_eq_left h32]; exact size32)
      have HZ2 : Hid ((bcs dzero).size = (bcs (zs.take 32)).size) := Lib.hid (by rw [bcs_size, bcs_size, List.length_take, HZ.out, Nat.min_eq_left h32]; rfl)
      have HZ3 : Hid ((Try.prog.info? 27).map (·.size) = some (zs.take 32).length) := Lib.hid (by rw [List.length_take, HZ.out, Nat.min_eq_left h32]; exact size32)
      go_wp2_with (first
        | (refine wpList_load_row rfl 27 _ rfl (w.heap.size + 1) rfl 27 _ (0, 0) _ HD.out Try.underlying27 rfl HZ1.out ?_)
        | (refine wpList_store_row rfl 27 _ _ rfl w.heap.size _ rfl rfl 27 _ HA.out HZ1.out HZ2.out (bcs_one _) ?_))
      refine bodyPost_ret (Yw.results HA.out.row rfl _ rfl _ Try.underlying27 rfl HZ3.out) rfl ⟨rfl, below_setRow8 HB.out _ _ (Nat.le_refl _)⟩
end Go.Proofs.Ytjdigncieoaglaa

namespace Go.Proofs.Ytjdigncieoaglaa
set_option linter.unusedVariables false
open Go.RowKit Go.Lib

/-- what the reading of data answers -/
structure RdP (k : Int) (zs : List Int) (x : Rq) (ok : Bool) : Prop where
  yes : ∀ r, readN k zs = some r → ok = true ∧ x.rc = r
  no : readN k zs = none → ok = false
theorem RdP.noRec {k : Int} {zs : List Int} {x : Rq} (h : readN k zs = none) : RdP k zs x false := ⟨fun r hr => absurd (h.symm.trans hr) (by simp), fun _ => rfl⟩
theorem RdP.isRec {k : Int} {zs : List Int} {x : Rq} (h : readN k zs = some x.rc) : RdP k zs x true := ⟨fun r hr => ⟨rfl, Option.some.inj (h.symm.trans hr)⟩, fun hr => absurd (h.symm.trans hr) (by simp)⟩
def RdQ (w : World) (k : Int) (zs : List Int) (e : Ending) (w' : World) : Prop := ∃ x ok, e = .returned (.tuple #[Rq.v x, .bool ok]) ∧ Rq.Fit x w' ∧ RdP k zs x ok ∧ Below w.heap.size w w' ∧ Ob w' w.heap.size 5 (.slice x.p x.n x.c) x.da
theorem RdQ.of {w w' : World} {k : Int} {zs : List Int} (x : Rq) (ok : Bool) (hf : x.Fit w') (hp : RdP k zs x ok) (hb : Below w.heap.size w w') (ho : Ob w' w.heap.size 5 (.slice x.p x.n x.c) x.da) : RdQ w k zs (.returned (.tuple #[x.v, .bool ok])) w' := ⟨x, ok, rfl, hf, hp, hb, ho⟩
theorem RdP.was {k : Int} {zs : List Int} {x : Rq} (h : RdP k zs x true) : readN k zs = some x.rc := by
  cases hr : readN k zs with
  | none => exact absurd (h.no hr) (by simp)
  | some r => rw [(h.yes r hr).2]
theorem RdP.wasn {k : Int} {zs : List Int} {x : Rq} (h : RdP k zs x false) : readN k zs = none := by
  cases hr : readN k zs with
  | none => rfl
  | some r => exact absurd (h.yes r hr).1 (by simp)
set_option maxRecDepth 100000 in
set_option maxHeartbeats 4000000 in
theorem rread14_any (k : Int) (p : Option Addr) (n c : Nat) (zs : List Int) (w : World) (hk : 1 ≤ k ∧ k ≤ 8) (h : Bs w p n zs) (hpc : p = none → c = 0) (hnc : n ≤ c) (hcm : c ≤ maxLen) (hn : n ≤ 2097216) :
    Calls Try.prog 29 #[.int .i64 k, .slice p n c] w fun e w' => RdQ w k zs e w' := by
  have H := Lib.hid h
  have HPC := Lib.hid hpc
  have HNC := Lib.hid hnc
  have HCM := Lib.hid hcm
  have HL := Lib.hid h.len
  have HBY := Lib.hid (show Byt zs from h.byte)
  have HK := Lib.hid hk
  have hnm : n ≤ maxLen := by unfold maxLen; omega
  clear h hpc hnc
  go_enter Try.func29, Try.ntmps29
  go_upto_region 2 with (first
    | (refine wpList_build_is rfl 29 _ rfl (mixC (rqK k).a (rqK k).dg (rqK k).z) ?_ ?_; kernel_rfl)
    | (refine wpList_store_row rfl 29 _ _ rfl (w.heap.size + 1) _ rfl rfl 29 _ (heap_alloc2_new _ _ _) ((rqK k).sizeOf rfl) (Rq.sizes rq0 (rqK k) rfl rfl) (rqK k).one ?_; generalize hwS : World.setRow _ _ _ = wS))
  have HR : Hid (Rd w wS w.heap.size (w.heap.size + 1) rq0 (rqK k)) := Lib.hid (by rw [← hwS]; exact (Rd.start w).put (rqK k) rfl)
  have HFK := Lib.hid fun W => rqK_fit hk W
  have HXK := Lib.hid (show (rqK k).v = .agg (mixC (rqK k).a (rqK k).dg (rqK k).z) from rfl)
  have HB := Lib.hid (H.out.later HR.out.le)
  have HDG := Lib.hid fun (q : Option Addr) (m d : Nat) (ys : List Int) W (hb : Bs W q m ys) (h32 : 32 ≤ m) (hm : m ≤ maxLen) => rdig14_any q m d ys W hb h32 hm
  have HTK := Lib.hid fun W (hb : Bs W p n zs) (a s : Nat) (h1 : 1 ≤ s) (h8 : s ≤ 8) (h : a + s ≤ n) => (by
    have h2 := rtake_any p n c zs (a : Int) (s : Int) W hb hnm (by omega) (by omega)
    rw [takeN_n zs a s h1 h8 (by rw [hb.len]; omega), show takeB zs.length (a : Int) (s : Int) = true by simp [takeB, isSizeB, holdsB, hb.len]; omega] at h2
    exact h2 : Calls Try.prog 42 #[.slice p n c, .int .i64 (a : Int), .int .i64 (s : Int)] W fun e w' => e = .returned (.tuple #[.int .u64 (leN zs a s), .bool true]) ∧ W = w')
  clear hwS hcm
  rcases kinds (k := k) with h | h | rfl | rfl | rfl | rfl | rfl | rfl | rfl | rfl
  · omega
  · omega
  · have HRN := Lib.hid (read12 (k := 1) (by omega) zs)
    rw [HL.out] at HRN
    by_cases h32 : (n : Int) < 32
    · replace HRN : Hid (readN 1 zs = none) := Lib.hid (by rw [HRN.out, if_pos (by omega)])
      go_wp2_with (first
        | (refine wpList_ld rfl _ _ rfl _ rfl _ (HR.out.own.load HR.out.dx) ?_)
        | (refine wpList_store_row rfl 29 _ _ rfl w.heap.size _ rfl rfl 29 _ HR.out.out (Rq.sizeOf (rqK 1) HR.out.dx) (Rq.sizes rq0 (rqK 1) rfl HR.out.dx) (Rq.one (rqK 1)) ?_; generalize hwZ : World.setRow _ _ _ = wZ; have HZ : Hid (Rd w wZ w.heap.size (w.heap.size + 1) (rqK 1) (rqK 1)) := Lib.hid (by rw [← hwZ]; exact HR.out.ans (rqK 1) HR.out.dx); have HZK := Lib.hid (keep_row hwZ); clear hwZ))
      refine bodyPost_ret (HZ.out.out.res2 HZ.out.dy rfl _ rfl) rfl ?_
      exact RdQ.of (rqK 1) false (HFK.out _) (RdP.noRec HRN.out) HZ.out.le (Ob.nil _ _ _)
    · replace HRN : Hid (readN 1 zs = some ⟨1, 0, zs.take 32, [], zs.drop 32, 0, 0⟩) := Lib.hid (by rw [HRN.out, if_neg (by omega)])
      obtain ⟨p', hsl0, hbs', hpc'⟩ := H.out.slice_from (P := Try.prog) 23 5 Try.underlying23 (fun _ => by kernel_rfl) c 32 HNC.out (by omega)
      have hsl : ∀ W', (Instr.slice 23 (.slice p n c) (some (.int .i64 32)) none none).run Try.prog W' = .ok (.slice p' (n - 32) (c - 32)) W' := hsl0
      have HS' := Lib.hid hbs'
      have HP' := Lib.hid (hpc' HPC.out)
      have HDL : Hid ((zs.take 32).length = 32) := Lib.hid (by rw [List.length_take, HL.out]; omega)
      have HDO : Hid (dok (zs.take 32)) := Lib.hid ⟨HDL.out, HBY.out.take _⟩
      have HML : Hid (([] : List Int).length + (n - 32) ≤ 140737488355328) := Lib.hid (by simp; omega)
      have HDR : Hid ((zs.drop 32).length = n - 32) := Lib.hid (by rw [List.length_drop, HL.out])
      obtain ⟨X1, hX1⟩ : ∃ X, { rqK 1 with dg := zs.take 32 } = X := ⟨_, rfl⟩
      have HX1 := Lib.hid hX1
      clear hsl0 hbs' hpc' hX1
      go_wp2_with (first
        | (go_at_call 43; refine (HDG.out p n c zs _ HB.out (by omega) hnm).mono ?_; rintro e w1 ⟨rfl, hb1⟩; have HR1 := Lib.hid (HR.out.later hb1); clear hb1)
        | (refine wpList_store_mid rfl 27 _ _ rfl (w.heap.size + 1) 2 _ rfl rfl (by rw [bcs_size, HDL.out]; exact Mx.there HR1.out.own 2 32 (by rw [HR1.out.dx]; simp [Rq.a, Rq.z])) (by rw [bcs_size, HDL.out]; exact size32) (bcs_one _) ?_; generalize hwD : World.setCells _ _ _ _ = w2; have HR2 : Hid (Rd w w2 w.heap.size (w.heap.size + 1) rq0 X1) := Lib.hid (by rw [← hwD]; rw [← HX1.out]; exact HR1.out.setDg _ HDL.out); have HKD := Lib.hid (keep_cells hwD); clear hwD; have HB2 := Lib.hid (HS'.out.later HR2.out.le))
        | (refine wpList_append_bytes rfl _ _ 23 5 rfl Try.underlying23 info8 w2.heap.size _ [] rfl (Ob.nil _ _ _) p' (n - 32) (c - 32) (zs.drop 32) rfl HB2.out HP'.out HML.out (Nat.le_refl _) ?_; intro v3 w3 ho3 hg3; rw [List.nil_append] at ho3; have HB3 : Hid (Below w2.heap.size w2 w3) := Lib.hid (below_new (e := 5) (Below.refl _ _) (Ob.nil _ _ _) hg3 (Nat.le_refl _)); have HR3 := Lib.hid (HR2.out.later HB3.out); obtain ⟨p5, c5, hv5, _⟩ := ho3.open; rw [HDR.out] at hv5; subst hv5; have HO3 := Lib.hid ho3; have cl3 := (HR3.out.own.cells HR3.out.dx).2.2.2.1; have fr3 := HR3.out.own.frozen 35; obtain ⟨w4, hw4⟩ : ∃ W, w3.setCell ⟨w.heap.size + 1, 35, none⟩ (.slice p5 (n - 32) c5) = W := ⟨_, rfl⟩; obtain ⟨X2, hX2⟩ : ∃ X, { X1 with p := p5, n := n - 32, c := c5, da := zs.drop 32 } = X := ⟨_, rfl⟩; have HX2 := Lib.hid hX2; have HR4 : Hid (Rd w w4 w.heap.size (w.heap.size + 1) rq0 X2) := Lib.hid (by rw [← hw4, ← hX2]; exact HR3.out.setDa _ _ _ _); have HK4 := Lib.hid (keep_cell hw4); clear ho3 hg3 hX2)
        | (refine wpList_ld rfl _ _ rfl _ rfl _ (HR4.out.own.load HR4.out.dx) ?_)
        | (refine wpList_store_row rfl 29 _ _ rfl w.heap.size _ rfl rfl 29 _ HR4.out.out (Rq.sizeOf X2 HR4.out.dx) (Rq.sizes rq0 X2 rfl HR4.out.dx) (Rq.one X2) ?_; generalize hwZ : World.setRow _ _ _ = wZ; have HZ : Hid (Rd w wZ w.heap.size (w.heap.size + 1) X2 X2) := Lib.hid (by rw [← hwZ]; exact HR4.out.ans X2 HR4.out.dx); have HZK := Lib.hid (keep_row hwZ); clear hwZ))
      have HO4 := HO3.out.keepg (w' := wZ) fun g hg _ => (HZK.out g (by have := HR2.out.gt; omega)).trans (HK4.out g (by have := HR2.out.gt; omega))
      obtain ⟨f1, f2, f3, f4⟩ := HO4.at
      refine bodyPost_ret (HZ.out.out.res2 HZ.out.dy rfl _ rfl) rfl ?_
      exact RdQ.of X2 true (by rw [← HX2.out, ← HX1.out]; exact ⟨f1, f4, f2, f3, HDO.out, (Nat.zero_le 140737488355328 : (0 : Nat) ≤ 140737488355328), u64_zero, by show _ ≤ (1 : Int) ∧ (1 : Int) ≤ _; omega, i64_zero, i64_zero⟩) (RdP.isRec (by rw [HRN.out, ← HX2.out, ← HX1.out]; rfl)) HZ.out.le (by rw [← HX2.out, ← HX1.out]; exact HO4.mono (by have := HR2.out.le.size; omega))
  · have HRN := Lib.hid (read12 (k := 2) (by omega) zs)
    rw [HL.out] at HRN
    by_cases h32 : (n : Int) < 32
    · replace HRN : Hid (readN 2 zs = none) := Lib.hid (by rw [HRN.out, if_pos (by omega)])
      go_wp2_with (first
        | (refine wpList_ld rfl _ _ rfl _ rfl _ (HR.out.own.load HR.out.dx) ?_)
        | (refine wpList_store_row rfl 29 _ _ rfl w.heap.size _ rfl rfl 29 _ HR.out.out (Rq.sizeOf (rqK 2) HR.out.dx) (Rq.sizes rq0 (rqK 2) rfl HR.out.dx) (Rq.one (rqK 2)) ?_; generalize hwZ : World.setRow _ _ _ = wZ; have HZ : Hid (Rd w wZ w.heap.size (w.heap.size + 1) (rqK 2) (rqK 2)) := Lib.hid (by rw [← hwZ]; exact HR.out.ans (rqK 2) HR.out.dx); have HZK := Lib.hid (keep_row hwZ); clear hwZ))
      refine bodyPost_ret (HZ.out.out.res2 HZ.out.dy rfl _ rfl) rfl ?_
      exact RdQ.of (rqK 2) false (HFK.out _) (RdP.noRec HRN.out) HZ.out.le (Ob.nil _ _ _)
    · replace HRN : Hid (readN 2 zs = some ⟨2, 0, zs.take 32, [], zs.drop 32, 0, 0⟩) := Lib.hid (by rw [HRN.out, if_neg (by omega)])
      obtain ⟨p', hsl0, hbs', hpc'⟩ := H.out.slice_from (P := Try.prog) 23 5 Try.underlying23 (fun _ => by kernel_rfl) c 32 HNC.out (by omega)
      have hsl : ∀ W', (Instr.slice 23 (.slice p n c) (some (.int .i64 32)) none none).run Try.prog W' = .ok (.slice p' (n - 32) (c - 32)) W' := hsl0
      have HS' := Lib.hid hbs'
      have HP' := Lib.hid (hpc' HPC.out)
      have HDL : Hid ((zs.take 32).length = 32) := Lib.hid (by rw [List.length_take, HL.out]; omega)
      have HDO : Hid (dok (zs.take 32)) := Lib.hid ⟨HDL.out, HBY.out.take _⟩
      have HML : Hid (([] : List Int).length + (n - 32) ≤ 140737488355328) := Lib.hid (by simp; omega)
      have HDR : Hid ((zs.drop 32).length = n - 32) := Lib.hid (by rw [List.length_drop, HL.out])
      obtain ⟨X1, hX1⟩ : ∃ X, { rqK 2 with dg := zs.take 32 } = X := ⟨_, rfl⟩
      have HX1 := Lib.hid hX1
      clear hsl0 hbs' hpc' hX1
      go_wp2_with (first
        | (go_at_call 43; refine (HDG.out p n c zs _ HB.out (by omega) hnm).mono ?_; rintro e w1 ⟨rfl, hb1⟩; have HR1 := Lib.hid (HR.out.later hb1); clear hb1)
        | (refine wpList_store_mid rfl 27 _ _ rfl (w.heap.size + 1) 2 _ rfl rfl (by rw [bcs_size, HDL.out]; exact Mx.there HR1.out.own 2 32 (by rw [HR1.out.dx]; simp [Rq.a, Rq.z])) (by rw [bcs_size, HDL.out]; exact size32) (bcs_one _) ?_; generalize hwD : World.setCells _ _ _ _ = w2; have HR2 : Hid (Rd w w2 w.heap.size (w.heap.size + 1) rq0 X1) := Lib.hid (by rw [← hwD]; rw [← HX1.out]; exact HR1.out.setDg _ HDL.out); have HKD := Lib.hid (keep_cells hwD); clear hwD; have HB2 := Lib.hid (HS'.out.later HR2.out.le))
        | (refine wpList_append_bytes rfl _ _ 23 5 rfl Try.underlying23 info8 w2.heap.size _ [] rfl (Ob.nil _ _ _) p' (n - 32) (c - 32) (zs.drop 32) rfl HB2.out HP'.out HML.out (Nat.le_refl _) ?_; intro v3 w3 ho3 hg3; rw [List.nil_append] at ho3; have HB3 : Hid (Below w2.heap.size w2 w3) := Lib.hid (below_new (e := 5) (Below.refl _ _) (Ob.nil _ _ _) hg3 (Nat.le_refl _)); have HR3 := Lib.hid (HR2.out.later HB3.out); obtain ⟨p5, c5, hv5, _⟩ := ho3.open; rw [HDR.out] at hv5; subst hv5; have HO3 := Lib.hid ho3; have cl3 := (HR3.out.own.cells HR3.out.dx).2.2.2.1; have fr3 := HR3.out.own.frozen 35; obtain ⟨w4, hw4⟩ : ∃ W, w3.setCell ⟨w.heap.size + 1, 35, none⟩ (.slice p5 (n - 32) c5) = W := ⟨_, rfl⟩; obtain ⟨X2, hX2⟩ : ∃ X, { X1 with p := p5, n := n - 32, c := c5, da := zs.drop 32 } = X := ⟨_, rfl⟩; have HX2 := Lib.hid hX2; have HR4 : Hid (Rd w w4 w.heap.size (w.heap.size + 1) rq0 X2) := Lib.hid (by rw [← hw4, ← hX2]; exact HR3.out.setDa _ _ _ _); have HK4 := Lib.hid (keep_cell hw4); clear ho3 hg3 hX2)
        | (refine wpList_ld rfl _ _ rfl _ rfl _ (HR4.out.own.load HR4.out.dx) ?_)
        | (refine wpList_store_row rfl 29 _ _ rfl w.heap.size _ rfl rfl 29 _ HR4.out.out (Rq.sizeOf X2 HR4.out.dx) (Rq.sizes rq0 X2 rfl HR4.out.dx) (Rq.one X2) ?_; generalize hwZ : World.setRow _ _ _ = wZ; have HZ : Hid (Rd w wZ w.heap.size (w.heap.size + 1) X2 X2) := Lib.hid (by rw [← hwZ]; exact HR4.out.ans X2 HR4.out.dx); have HZK := Lib.hid (keep_row hwZ); clear hwZ))
      have HO4 := HO3.out.keepg (w' := wZ) fun g hg _ => (HZK.out g (by have := HR2.out.gt; omega)).trans (HK4.out g (by have := HR2.out.gt; omega))
      obtain ⟨f1, f2, f3, f4⟩ := HO4.at
      refine bodyPost_ret (HZ.out.out.res2 HZ.out.dy rfl _ rfl) rfl ?_
      exact RdQ.of X2 true (by rw [← HX2.out, ← HX1.out]; exact ⟨f1, f4, f2, f3, HDO.out, (Nat.zero_le 140737488355328 : (0 : Nat) ≤ 140737488355328), u64_zero, by show _ ≤ (2 : Int) ∧ (2 : Int) ≤ _; omega, i64_zero, i64_zero⟩) (RdP.isRec (by rw [HRN.out, ← HX2.out, ← HX1.out]; rfl)) HZ.out.le (by rw [← HX2.out, ← HX1.out]; exact HO4.mono (by have := HR2.out.le.size; omega))
  · by_cases h0 : n = 0
    · subst h0
      have HRN : Hid (readN 3 zs = none) := Lib.hid (by unfold readN; rw [if_neg (by omega)]; simp [HL.out])
      go_wp2_with (first
        | (refine wpList_ld rfl _ _ rfl _ rfl _ (HR.out.own.load HR.out.dx) ?_)
        | (refine wpList_store_row rfl 29 _ _ rfl w.heap.size _ rfl rfl 29 _ HR.out.out (Rq.sizeOf (rqK 3) HR.out.dx) (Rq.sizes rq0 (rqK 3) rfl HR.out.dx) (Rq.one (rqK 3)) ?_; generalize hwZ : World.setRow _ _ _ = wZ; have HZ : Hid (Rd w wZ w.heap.size (w.heap.size + 1) (rqK 3) (rqK 3)) := Lib.hid (by rw [← hwZ]; exact HR.out.ans (rqK 3) HR.out.dx); have HZK := Lib.hid (keep_row hwZ); clear hwZ))
      refine bodyPost_ret (HZ.out.out.res2 HZ.out.dy rfl _ rfl) rfl ?_
      exact RdQ.of (rqK 3) false (HFK.out _) (RdP.noRec HRN.out) HZ.out.le (Ob.nil _ _ _)
    · obtain ⟨b, off, hp, hc⟩ : ∃ b off, p = some ⟨b, off, none⟩ ∧ ∀ j, j < n → wS.cell? ⟨b, off + j, none⟩ = some (.int .u8 (zs.getD j 0)) := by
        rcases HB.out.2.2 with h1 | h1
        · omega
        · exact h1
      subst hp
      have hy := HBY.out 0
      obtain ⟨L, hL⟩ := Int.eq_ofNat_of_zero_le hy.1
      have hcell := hc 0 (by omega)
      rw [hL, Nat.add_zero] at hcell
      have HLN : Hid ((zs.getD 0 0).toNat = L) := Lib.hid (by rw [hL, Int.toNat_natCast])
      rw [hL] at hy
      have hyb : (L : Int) < 256 := hy.2
      have hwL : IntKind.i64.wrap (L : Int) = (L : Int) := by simp [IntKind.wrap, IntKind.bits, IntKind.signed]; omega
      obtain ⟨m, hm⟩ : ∃ m : Nat, 1 + L = m := ⟨_, rfl⟩
      have hm1 : 1 + (L : Int) = (m : Int) := by omega
      have HM := Lib.hid hm
      have hwm : IntKind.i64.wrap (1 + (L : Int)) = (m : Int) := by rw [hm1]; simp [IntKind.wrap, IntKind.bits, IntKind.signed]; omega
      have hn0 : ((n : Int) == 0) = false := by simp; omega
      have hn1 : 0 < (n : Int) := by omega
      have HNN := Lib.hid h0
      clear hc hy hL hm h0
      by_cases hlt : (n : Int) < (m : Int)
      · have HRN : Hid (readN 3 zs = none) := Lib.hid (by unfold readN; rw [if_neg (by omega)]; simp only [HL.out, HLN.out, Int.reduceEq, if_true, if_false]; rw [if_neg (by have := HNN.out; omega), if_pos (by have := HM.out; omega)])
        go_wp2_with (first
          | (refine wpList_ld rfl _ _ rfl _ rfl _ (HR.out.own.load HR.out.dx) ?_)
          | (refine wpList_store_row rfl 29 _ _ rfl w.heap.size _ rfl rfl 29 _ HR.out.out (Rq.sizeOf (rqK 3) HR.out.dx) (Rq.sizes rq0 (rqK 3) rfl HR.out.dx) (Rq.one (rqK 3)) ?_; generalize hwZ : World.setRow _ _ _ = wZ; have HZ : Hid (Rd w wZ w.heap.size (w.heap.size + 1) (rqK 3) (rqK 3)) := Lib.hid (by rw [← hwZ]; exact HR.out.ans (rqK 3) HR.out.dx); have HZK := Lib.hid (keep_row hwZ); clear hwZ))
        refine bodyPost_ret (HZ.out.out.res2 HZ.out.dy rfl _ rfl) rfl ?_
        exact RdQ.of (rqK 3) false (HFK.out _) (RdP.noRec HRN.out) HZ.out.le (Ob.nil _ _ _)
      · have hmn : m ≤ n := by omega
        have h1m : 1 ≤ m := by have := HM.out; omega
        obtain ⟨pa, hsa0, hba, _⟩ := H.out.slice_lh (P := Try.prog) 23 5 Try.underlying23 (fun _ => by kernel_rfl) c 1 m HNC.out h1m hmn
        have hsa : ∀ W', (Instr.slice 23 (.slice (some ⟨b, off, none⟩) n c) (some (.int .i64 1)) (some (.int .i64 (m : Int))) none).run Try.prog W' = .ok (.slice pa (m - 1) (c - 1)) W' := hsa0
        have hcv := (hba.later HR.out.le).run_string (P := Try.prog) 23 5 9 Try.underlying23 Try.underlying5 Try.underlying9 (c - 1)
        have HNB : Hid (Byt ((zs.drop 1).take (m - 1))) := Lib.hid hba.byte
        have HNL2 : Hid (((zs.drop 1).take (m - 1)).length = m - 1) := Lib.hid hba.len
        obtain ⟨pb, hsb, hbb, hpb⟩ := H.out.slice_from (P := Try.prog) 23 5 Try.underlying23 (fun _ => by kernel_rfl) c m HNC.out hmn
        have HPB := Lib.hid hbb
        obtain ⟨S, hS⟩ : ∃ S, strOfNums ((zs.drop 1).take (m - 1)) = S := ⟨_, rfl⟩
        rw [hS] at hcv
        have HSN : Hid (numsOf S = (zs.drop 1).take (m - 1)) := Lib.hid (by rw [← hS]; exact numsOf_strOfNums HNB.out)
        have HSS : Hid (S.size ≤ 140737488355328) := Lib.hid (by rw [← numsOf_length, HSN.out, HNL2.out]; omega)
        obtain ⟨q, hq⟩ : ∃ q, n - m = q := ⟨_, rfl⟩
        obtain ⟨cq, hcq⟩ : ∃ q, c - m = q := ⟨_, rfl⟩
        rw [hq, hcq] at hsb
        rw [hq] at HPB
        have HQ := Lib.hid hq
        obtain ⟨m1, hm1'⟩ : ∃ q, m - 1 = q := ⟨_, rfl⟩
        rw [hm1'] at hsa hcv
        have HM1 := Lib.hid hm1'
        have hqb : (q : Int) ≤ 2097216 := by omega
        obtain ⟨X1, hX1⟩ : ∃ X, { rqK 3 with nm := S } = X := ⟨_, rfl⟩
        have HX1 := Lib.hid hX1
        obtain ⟨w1, hw1⟩ : ∃ W, wS.setCell ⟨w.heap.size + 1, 34, none⟩ (.string S) = W := ⟨_, rfl⟩
        have HR1 : Hid (Rd w w1 w.heap.size (w.heap.size + 1) rq0 X1) := Lib.hid (by rw [← hw1, ← hX1]; exact HR.out.setNm S)
        have HF1 : Hid (∀ W, X1.Fit W) := Lib.hid fun W => by rw [← hX1]; exact ⟨Bs.empty _ _, fun _ => rfl, Nat.le_refl _, Nat.zero_le _, dok_zero, HSS.out, u64_zero, by show _ ≤ (3 : Int) ∧ (3 : Int) ≤ _; omega, i64_zero, i64_zero⟩
        have cl34 := (HR.out.own.cells HR.out.dx).2.2.1
        have fr34 := HR.out.own.frozen 34
        have HPB1 := Lib.hid (HPB.out.later HR1.out.le)
        clear hsa0 hba hbb hpb hS hq hcq hX1 hm1'
        by_cases hA : (q : Int) < 32
        · have HRN : Hid (readN 3 zs = none) := Lib.hid (by unfold readN; rw [if_neg (by omega)]; simp only [HL.out, HLN.out, Int.reduceEq, if_true, if_false]; rw [if_neg (by have := HNN.out; omega), if_pos (by have := HM.out; have := HQ.out; omega)])
          go_wp2_with (first
            | (refine wpList_ld rfl _ _ rfl _ rfl _ (HR1.out.own.load HR1.out.dx) ?_)
            | (refine wpList_store_row rfl 29 _ _ rfl w.heap.size _ rfl rfl 29 _ HR1.out.out (Rq.sizeOf X1 HR1.out.dx) (Rq.sizes rq0 X1 rfl HR1.out.dx) (Rq.one X1) ?_; generalize hwZ : World.setRow _ _ _ = wZ; have HZ : Hid (Rd w wZ w.heap.size (w.heap.size + 1) X1 X1) := Lib.hid (by rw [← hwZ]; exact HR1.out.ans X1 HR1.out.dx); have HZK := Lib.hid (keep_row hwZ); clear hwZ))
          refine bodyPost_ret (HZ.out.out.res2 HZ.out.dy rfl _ rfl) rfl ?_
          exact RdQ.of X1 false (HF1.out _) (RdP.noRec HRN.out) HZ.out.le (by rw [← HX1.out]; exact Ob.nil _ _ _)
        by_cases hB : (q : Int) > 32
        · have HRN : Hid (readN 3 zs = none) := Lib.hid (by unfold readN; rw [if_neg (by omega)]; simp only [HL.out, HLN.out, Int.reduceEq, if_true, if_false]; rw [if_neg (by have := HNN.out; omega), if_pos (by have := HM.out; have := HQ.out; omega)])
          go_wp2_with (first
            | (refine wpList_ld rfl _ _ rfl _ rfl _ (HR1.out.own.load HR1.out.dx) ?_)
            | (refine wpList_store_row rfl 29 _ _ rfl w.heap.size _ rfl rfl 29 _ HR1.out.out (Rq.sizeOf X1 HR1.out.dx) (Rq.sizes rq0 X1 rfl HR1.out.dx) (Rq.one X1) ?_; generalize hwZ : World.setRow _ _ _ = wZ; have HZ : Hid (Rd w wZ w.heap.size (w.heap.size + 1) X1 X1) := Lib.hid (by rw [← hwZ]; exact HR1.out.ans X1 HR1.out.dx); have HZK := Lib.hid (keep_row hwZ); clear hwZ))
          refine bodyPost_ret (HZ.out.out.res2 HZ.out.dy rfl _ rfl) rfl ?_
          exact RdQ.of X1 false (HF1.out _) (RdP.noRec HRN.out) HZ.out.le (by rw [← HX1.out]; exact Ob.nil _ _ _)
        · obtain rfl : q = 32 := by omega
          have HDE : Hid ((zs.drop m).take 32 = zs.drop m) := Lib.hid (List.take_of_length_le (by rw [List.length_drop, HL.out]; have := HQ.out; omega))
          have HDL : Hid ((zs.drop m).length = 32) := Lib.hid (by rw [List.length_drop, HL.out]; have := HQ.out; omega)
          have HRN : Hid (readN 3 zs = some ⟨3, 0, zs.drop m, (zs.drop 1).take (m - 1), [], 0, 0⟩) := Lib.hid (by unfold readN; rw [if_neg (by omega)]; simp only [HL.out, HLN.out, Int.reduceEq, if_true, if_false]; rw [if_neg (by have := HNN.out; omega), if_neg (by have := HM.out; have := HQ.out; omega), HM.out, show L = m - 1 by have := HM.out; omega])
          have HDO : Hid (dok (zs.drop m)) := Lib.hid ⟨HDL.out, HBY.out.drop _⟩
          obtain ⟨X2, hX2⟩ : ∃ X, { X1 with dg := zs.drop m } = X := ⟨_, rfl⟩
          have HX2 := Lib.hid hX2
          clear hX2
          go_wp2_with (first
            | (go_at_call 43; refine (HDG.out pb 32 cq _ _ HPB1.out (by omega) (by unfold maxLen; omega)).mono ?_; rintro e w2 ⟨rfl, hb2⟩; rw [HDE.out]; have HR2 := Lib.hid (HR1.out.later hb2); clear hb2)
            | (refine wpList_store_mid rfl 27 _ _ rfl (w.heap.size + 1) 2 _ rfl rfl (by rw [bcs_size, HDL.out]; exact Mx.there HR2.out.own 2 32 (by rw [HR2.out.dx]; simp [Rq.a, Rq.z])) (by rw [bcs_size, HDL.out]; exact size32) (bcs_one _) ?_; generalize hwD : World.setCells _ _ _ _ = w3; have HR3 : Hid (Rd w w3 w.heap.size (w.heap.size + 1) rq0 X2) := Lib.hid (by rw [← hwD]; rw [← HX2.out]; exact HR2.out.setDg _ HDL.out); have HKD := Lib.hid (keep_cells hwD); clear hwD)
            | (refine wpList_ld rfl _ _ rfl _ rfl _ (HR3.out.own.load HR3.out.dx) ?_)
            | (refine wpList_store_row rfl 29 _ _ rfl w.heap.size _ rfl rfl 29 _ HR3.out.out (Rq.sizeOf X2 HR3.out.dx) (Rq.sizes rq0 X2 rfl HR3.out.dx) (Rq.one X2) ?_; generalize hwZ : World.setRow _ _ _ = wZ; have HZ : Hid (Rd w wZ w.heap.size (w.heap.size + 1) X2 X2) := Lib.hid (by rw [← hwZ]; exact HR3.out.ans X2 HR3.out.dx); have HZK := Lib.hid (keep_row hwZ); clear hwZ))
          refine bodyPost_ret (HZ.out.out.res2 HZ.out.dy rfl _ rfl) rfl ?_
          exact RdQ.of X2 true (by rw [← HX2.out, ← HX1.out]; exact ⟨Bs.empty _ _, fun _ => rfl, Nat.le_refl _, Nat.zero_le _, HDO.out, HSS.out, u64_zero, by show _ ≤ (3 : Int) ∧ (3 : Int) ≤ _; omega, i64_zero, i64_zero⟩) (RdP.isRec (by rw [HRN.out, ← HX2.out, ← HX1.out]; unfold Rq.rc; dsimp only; rw [HSN.out]; rfl)) HZ.out.le (by rw [← HX2.out, ← HX1.out]; exact Ob.nil _ _ _)
  · by_cases h0 : n = 0
    · subst h0
      have HRN : Hid (readN 4 zs = none) := Lib.hid (by unfold readN; rw [if_neg (by omega)]; simp [HL.out])
      go_wp2_with (first
        | (refine wpList_ld rfl _ _ rfl _ rfl _ (HR.out.own.load HR.out.dx) ?_)
        | (refine wpList_store_row rfl 29 _ _ rfl w.heap.size _ rfl rfl 29 _ HR.out.out (Rq.sizeOf (rqK 4) HR.out.dx) (Rq.sizes rq0 (rqK 4) rfl HR.out.dx) (Rq.one (rqK 4)) ?_; generalize hwZ : World.setRow _ _ _ = wZ; have HZ : Hid (Rd w wZ w.heap.size (w.heap.size + 1) (rqK 4) (rqK 4)) := Lib.hid (by rw [← hwZ]; exact HR.out.ans (rqK 4) HR.out.dx); have HZK := Lib.hid (keep_row hwZ); clear hwZ))
      refine bodyPost_ret (HZ.out.out.res2 HZ.out.dy rfl _ rfl) rfl ?_
      exact RdQ.of (rqK 4) false (HFK.out _) (RdP.noRec HRN.out) HZ.out.le (Ob.nil _ _ _)
    · obtain ⟨b, off, hp, hc⟩ : ∃ b off, p = some ⟨b, off, none⟩ ∧ ∀ j, j < n → wS.cell? ⟨b, off + j, none⟩ = some (.int .u8 (zs.getD j 0)) := by
        rcases HB.out.2.2 with h1 | h1
        · omega
        · exact h1
      subst hp
      have hy := HBY.out 0
      obtain ⟨L, hL⟩ := Int.eq_ofNat_of_zero_le hy.1
      have hcell := hc 0 (by omega)
      rw [hL, Nat.add_zero] at hcell
      have HLN : Hid ((zs.getD 0 0).toNat = L) := Lib.hid (by rw [hL, Int.toNat_natCast])
      rw [hL] at hy
      have hyb : (L : Int) < 256 := hy.2
      have hwL : IntKind.i64.wrap (L : Int) = (L : Int) := by simp [IntKind.wrap, IntKind.bits, IntKind.signed]; omega
      obtain ⟨m, hm⟩ : ∃ m : Nat, 1 + L = m := ⟨_, rfl⟩
      have hm1 : 1 + (L : Int) = (m : Int) := by omega
      have HM := Lib.hid hm
      have hwm : IntKind.i64.wrap (1 + (L : Int)) = (m : Int) := by rw [hm1]; simp [IntKind.wrap, IntKind.bits, IntKind.signed]; omega
      have hn0 : ((n : Int) == 0) = false := by simp; omega
      have hn1 : 0 < (n : Int) := by omega
      have HNN := Lib.hid h0
      clear hc hy hL hm h0
      by_cases hlt : (n : Int) < (m : Int)
      · have HRN : Hid (readN 4 zs = none) := Lib.hid (by unfold readN; rw [if_neg (by omega)]; simp only [HL.out, HLN.out, Int.reduceEq, if_true, if_false]; rw [if_neg (by have := HNN.out; omega), if_pos (by have := HM.out; omega)])
        go_wp2_with (first
          | (refine wpList_ld rfl _ _ rfl _ rfl _ (HR.out.own.load HR.out.dx) ?_)
          | (refine wpList_store_row rfl 29 _ _ rfl w.heap.size _ rfl rfl 29 _ HR.out.out (Rq.sizeOf (rqK 4) HR.out.dx) (Rq.sizes rq0 (rqK 4) rfl HR.out.dx) (Rq.one (rqK 4)) ?_; generalize hwZ : World.setRow _ _ _ = wZ; have HZ : Hid (Rd w wZ w.heap.size (w.heap.size + 1) (rqK 4) (rqK 4)) := Lib.hid (by rw [← hwZ]; exact HR.out.ans (rqK 4) HR.out.dx); have HZK := Lib.hid (keep_row hwZ); clear hwZ))
        refine bodyPost_ret (HZ.out.out.res2 HZ.out.dy rfl _ rfl) rfl ?_
        exact RdQ.of (rqK 4) false (HFK.out _) (RdP.noRec HRN.out) HZ.out.le (Ob.nil _ _ _)
      · have hmn : m ≤ n := by omega
        have h1m : 1 ≤ m := by have := HM.out; omega
        obtain ⟨pa, hsa0, hba, _⟩ := H.out.slice_lh (P := Try.prog) 23 5 Try.underlying23 (fun _ => by kernel_rfl) c 1 m HNC.out h1m hmn
        have hsa : ∀ W', (Instr.slice 23 (.slice (some ⟨b, off, none⟩) n c) (some (.int .i64 1)) (some (.int .i64 (m : Int))) none).run Try.prog W' = .ok (.slice pa (m - 1) (c - 1)) W' := hsa0
        have hcv := (hba.later HR.out.le).run_string (P := Try.prog) 23 5 9 Try.underlying23 Try.underlying5 Try.underlying9 (c - 1)
        have HNB : Hid (Byt ((zs.drop 1).take (m - 1))) := Lib.hid hba.byte
        have HNL2 : Hid (((zs.drop 1).take (m - 1)).length = m - 1) := Lib.hid hba.len
        obtain ⟨pb, hsb, hbb, hpb⟩ := H.out.slice_from (P := Try.prog) 23 5 Try.underlying23 (fun _ => by kernel_rfl) c m HNC.out hmn
        have HPB := Lib.hid hbb
        obtain ⟨S, hS⟩ : ∃ S, strOfNums ((zs.drop 1).take (m - 1)) = S := ⟨_, rfl⟩
        rw [hS] at hcv
        have HSN : Hid (numsOf S = (zs.drop 1).take (m - 1)) := Lib.hid (by rw [← hS]; exact numsOf_strOfNums HNB.out)
        have HSS : Hid (S.size ≤ 140737488355328) := Lib.hid (by rw [← numsOf_length, HSN.out, HNL2.out]; omega)
        obtain ⟨q, hq⟩ : ∃ q, n - m = q := ⟨_, rfl⟩
        obtain ⟨cq, hcq⟩ : ∃ q, c - m = q := ⟨_, rfl⟩
        rw [hq, hcq] at hsb
        rw [hq] at HPB
        have HQ := Lib.hid hq
        obtain ⟨m1, hm1'⟩ : ∃ q, m - 1 = q := ⟨_, rfl⟩
        rw [hm1'] at hsa hcv
        have HM1 := Lib.hid hm1'
        have hqb : (q : Int) ≤ 2097216 := by omega
        obtain ⟨X1, hX1⟩ : ∃ X, { rqK 4 with nm := S } = X := ⟨_, rfl⟩
        have HX1 := Lib.hid hX1
        obtain ⟨w1, hw1⟩ : ∃ W, wS.setCell ⟨w.heap.size + 1, 34, none⟩ (.string S) = W := ⟨_, rfl⟩
        have HR1 : Hid (Rd w w1 w.heap.size (w.heap.size + 1) rq0 X1) := Lib.hid (by rw [← hw1, ← hX1]; exact HR.out.setNm S)
        have HF1 : Hid (∀ W, X1.Fit W) := Lib.hid fun W => by rw [← hX1]; exact ⟨Bs.empty _ _, fun _ => rfl, Nat.le_refl _, Nat.zero_le _, dok_zero, HSS.out, u64_zero, by show _ ≤ (4 : Int) ∧ (4 : Int) ≤ _; omega, i64_zero, i64_zero⟩
        have cl34 := (HR.out.own.cells HR.out.dx).2.2.1
        have fr34 := HR.out.own.frozen 34
        have HPB1 := Lib.hid (HPB.out.later HR1.out.le)
        clear hsa0 hba hbb hpb hS hq hcq hX1 hm1'
        by_cases hA : q = 0
        · subst hA
          have HDE : Hid ((zs.drop 1).take (m - 1) = zs.drop 1) := Lib.hid (List.take_of_length_le (by rw [List.length_drop, HL.out]; have := HQ.out; omega))
          have HRN : Hid (readN 4 zs = some ⟨4, 0, dg0, (zs.drop 1).take (m - 1), [], 0, 0⟩) := Lib.hid (by unfold readN; rw [if_neg (by omega)]; simp only [HL.out, HLN.out, Int.reduceEq, if_true, if_false]; rw [if_neg (by have := HNN.out; omega), if_neg (by have := HM.out; have := HQ.out; omega), HDE.out])
          go_wp2_with (first
            | (refine wpList_ld rfl _ _ rfl _ rfl _ (HR1.out.own.load HR1.out.dx) ?_)
            | (refine wpList_store_row rfl 29 _ _ rfl w.heap.size _ rfl rfl 29 _ HR1.out.out (Rq.sizeOf X1 HR1.out.dx) (Rq.sizes rq0 X1 rfl HR1.out.dx) (Rq.one X1) ?_; generalize hwZ : World.setRow _ _ _ = wZ; have HZ : Hid (Rd w wZ w.heap.size (w.heap.size + 1) X1 X1) := Lib.hid (by rw [← hwZ]; exact HR1.out.ans X1 HR1.out.dx); have HZK := Lib.hid (keep_row hwZ); clear hwZ))
          refine bodyPost_ret (HZ.out.out.res2 HZ.out.dy rfl _ rfl) rfl ?_
          exact RdQ.of X1 true (HF1.out _) (RdP.isRec (by rw [HRN.out, ← HX1.out]; unfold Rq.rc; dsimp only; rw [HSN.out]; rfl)) HZ.out.le (by rw [← HX1.out]; exact Ob.nil _ _ _)
        · have hq0 : ((q : Int) == 0) = false := by simp; omega
          have HRN : Hid (readN 4 zs = none) := Lib.hid (by unfold readN; rw [if_neg (by omega)]; simp only [HL.out, HLN.out, Int.reduceEq, if_true, if_false]; rw [if_neg (by have := HNN.out; omega), if_pos (by have := HM.out; have := HQ.out; omega)])
          clear hA
          go_wp2_with (first
            | (refine wpList_ld rfl _ _ rfl _ rfl _ (HR1.out.own.load HR1.out.dx) ?_)
            | (refine wpList_store_row rfl 29 _ _ rfl w.heap.size _ rfl rfl 29 _ HR1.out.out (Rq.sizeOf X1 HR1.out.dx) (Rq.sizes rq0 X1 rfl HR1.out.dx) (Rq.one X1) ?_; generalize hwZ : World.setRow _ _ _ = wZ; have HZ : Hid (Rd w wZ w.heap.size (w.heap.size + 1) X1 X1) := Lib.hid (by rw [← hwZ]; exact HR1.out.ans X1 HR1.out.dx); have HZK := Lib.hid (keep_row hwZ); clear hwZ))
          refine bodyPost_ret (HZ.out.out.res2 HZ.out.dy rfl _ rfl) rfl ?_
          exact RdQ.of X1 false (HF1.out _) (RdP.noRec HRN.out) HZ.out.le (by rw [← HX1.out]; exact Ob.nil _ _ _)
  · by_cases hA : (n : Int) < 32
    · have HRN : Hid (readN 5 zs = none) := Lib.hid (by unfold readN; rw [if_neg (by omega)]; simp only [HL.out, Int.reduceEq, if_true, if_false]; rw [if_pos (by omega)])
      go_wp2_with (first
        | (refine wpList_ld rfl _ _ rfl _ rfl _ (HR.out.own.load HR.out.dx) ?_)
        | (refine wpList_store_row rfl 29 _ _ rfl w.heap.size _ rfl rfl 29 _ HR.out.out (Rq.sizeOf (rqK 5) HR.out.dx) (Rq.sizes rq0 (rqK 5) rfl HR.out.dx) (Rq.one (rqK 5)) ?_; generalize hwZ : World.setRow _ _ _ = wZ; have HZ : Hid (Rd w wZ w.heap.size (w.heap.size + 1) (rqK 5) (rqK 5)) := Lib.hid (by rw [← hwZ]; exact HR.out.ans (rqK 5) HR.out.dx); have HZK := Lib.hid (keep_row hwZ); clear hwZ))
      refine bodyPost_ret (HZ.out.out.res2 HZ.out.dy rfl _ rfl) rfl ?_
      exact RdQ.of (rqK 5) false (HFK.out _) (RdP.noRec HRN.out) HZ.out.le (Ob.nil _ _ _)
    by_cases hB : (n : Int) > 32
    · have HRN : Hid (readN 5 zs = none) := Lib.hid (by unfold readN; rw [if_neg (by omega)]; simp only [HL.out, Int.reduceEq, if_true, if_false]; rw [if_pos (by omega)])
      go_wp2_with (first
        | (refine wpList_ld rfl _ _ rfl _ rfl _ (HR.out.own.load HR.out.dx) ?_)
        | (refine wpList_store_row rfl 29 _ _ rfl w.heap.size _ rfl rfl 29 _ HR.out.out (Rq.sizeOf (rqK 5) HR.out.dx) (Rq.sizes rq0 (rqK 5) rfl HR.out.dx) (Rq.one (rqK 5)) ?_; generalize hwZ : World.setRow _ _ _ = wZ; have HZ : Hid (Rd w wZ w.heap.size (w.heap.size + 1) (rqK 5) (rqK 5)) := Lib.hid (by rw [← hwZ]; exact HR.out.ans (rqK 5) HR.out.dx); have HZK := Lib.hid (keep_row hwZ); clear hwZ))
      refine bodyPost_ret (HZ.out.out.res2 HZ.out.dy rfl _ rfl) rfl ?_
      exact RdQ.of (rqK 5) false (HFK.out _) (RdP.noRec HRN.out) HZ.out.le (Ob.nil _ _ _)
    · obtain rfl : n = 32 := by omega
      have HDE : Hid (zs.take 32 = zs) := Lib.hid (List.take_of_length_le (by rw [HL.out]; omega))
      have HDL : Hid (zs.length = 32) := Lib.hid HL.out
      have HRN : Hid (readN 5 zs = some ⟨5, 0, zs, [], [], 0, 0⟩) := Lib.hid (by unfold readN; rw [if_neg (by omega)]; simp [HL.out])
      have HDO : Hid (dok zs) := Lib.hid ⟨HDL.out, HBY.out⟩
      obtain ⟨X2, hX2⟩ : ∃ X, { rqK 5 with dg := zs } = X := ⟨_, rfl⟩
      have HX2 := Lib.hid hX2
      clear hX2
      go_wp2_with (first
        | (go_at_call 43; refine (HDG.out p 32 c zs _ HB.out (by omega) hnm).mono ?_; rintro e w2 ⟨rfl, hb2⟩; rw [HDE.out]; have HR2 := Lib.hid (HR.out.later hb2); clear hb2)
        | (refine wpList_store_mid rfl 27 _ _ rfl (w.heap.size + 1) 2 _ rfl rfl (by rw [bcs_size, HDL.out]; exact Mx.there HR2.out.own 2 32 (by rw [HR2.out.dx]; simp [Rq.a, Rq.z])) (by rw [bcs_size, HDL.out]; exact size32) (bcs_one _) ?_; generalize hwD : World.setCells _ _ _ _ = w3; have HR3 : Hid (Rd w w3 w.heap.size (w.heap.size + 1) rq0 X2) := Lib.hid (by rw [← hwD]; rw [← HX2.out]; exact HR2.out.setDg _ HDL.out); have HKD := Lib.hid (keep_cells hwD); clear hwD)
        | (refine wpList_ld rfl _ _ rfl _ rfl _ (HR3.out.own.load HR3.out.dx) ?_)
        | (refine wpList_store_row rfl 29 _ _ rfl w.heap.size _ rfl rfl 29 _ HR3.out.out (Rq.sizeOf X2 HR3.out.dx) (Rq.sizes rq0 X2 rfl HR3.out.dx) (Rq.one X2) ?_; generalize hwZ : World.setRow _ _ _ = wZ; have HZ : Hid (Rd w wZ w.heap.size (w.heap.size + 1) X2 X2) := Lib.hid (by rw [← hwZ]; exact HR3.out.ans X2 HR3.out.dx); have HZK := Lib.hid (keep_row hwZ); clear hwZ))
      refine bodyPost_ret (HZ.out.out.res2 HZ.out.dy rfl _ rfl) rfl ?_
      exact RdQ.of X2 true (by rw [← HX2.out]; exact ⟨Bs.empty _ _, fun _ => rfl, Nat.le_refl _, Nat.zero_le _, HDO.out, (Nat.zero_le 140737488355328 : (0 : Nat) ≤ 140737488355328), u64_zero, by show _ ≤ (5 : Int) ∧ (5 : Int) ≤ _; omega, i64_zero, i64_zero⟩) (RdP.isRec (by rw [HRN.out, ← HX2.out]; rfl)) HZ.out.le (by rw [← HX2.out]; exact Ob.nil _ _ _)
  · by_cases hA : n = 8
    · subst hA
      have HRN : Hid (readN 6 zs = some ⟨6, 0, dg0, [], [], leN zs 0 4, leN zs 4 4⟩) := Lib.hid (by unfold readN; rw [if_neg (by omega)]; simp [HL.out])
      have HT1 := Lib.hid (HTK.out _ HB.out 0 4 (by omega) (by omega) (by omega))
      have hb1 := leN_bd zs HBY.out 0 4
      have hb2 := leN_bd zs HBY.out 4 4
      obtain ⟨x, hx⟩ : ∃ x, leN zs 0 4 = x := ⟨_, rfl⟩
      obtain ⟨y, hy⟩ : ∃ x, leN zs 4 4 = x := ⟨_, rfl⟩
      rw [hx] at hb1 HT1 HRN
      rw [hy] at hb2 HRN
      have hx0 : 0 ≤ x ∧ x < 4294967296 := by simpa using hb1
      have hy0 : 0 ≤ y ∧ y < 4294967296 := by simpa using hb2
      have hwx : IntKind.i64.wrap x = x := by simp [IntKind.wrap, IntKind.bits, IntKind.signed]; omega
      have hwy : IntKind.i64.wrap y = y := by simp [IntKind.wrap, IntKind.bits, IntKind.signed]; omega
      have HY := Lib.hid hy
      obtain ⟨X1, hX1⟩ : ∃ X, { rqK 6 with N := x } = X := ⟨_, rfl⟩
      obtain ⟨X2, hX2⟩ : ∃ X, { X1 with Z := y } = X := ⟨_, rfl⟩
      have HX1 := Lib.hid hX1
      have HX2 := Lib.hid hX2
      obtain ⟨w1, hw1⟩ : ∃ W, wS.setCell ⟨w.heap.size + 1, 36, none⟩ (.int .i64 x) = W := ⟨_, rfl⟩
      have HR1 : Hid (Rd w w1 w.heap.size (w.heap.size + 1) rq0 X1) := Lib.hid (by rw [← hw1, ← hX1]; exact HR.out.setN x)
      obtain ⟨w2, hw2⟩ : ∃ W, w1.setCell ⟨w.heap.size + 1, 37, none⟩ (.int .i64 y) = W := ⟨_, rfl⟩
      have HR2 : Hid (Rd w w2 w.heap.size (w.heap.size + 1) rq0 X2) := Lib.hid (by rw [← hw2, ← hX2]; exact HR1.out.setZ y)
      have HT2 := Lib.hid (HTK.out _ HB.out 4 4 (by omega) (by omega) (by omega))
      rw [HY.out] at HT2
      have cl36 := (HR.out.own.cells HR.out.dx).2.2.2.2.1
      have fr36 := HR.out.own.frozen 36
      have cl37 := (HR1.out.own.cells HR1.out.dx).2.2.2.2.2
      have fr37 := HR1.out.own.frozen 37
      clear hx hy hX1 hX2 hb1 hb2
      go_wp2_with (first
        | (go_at_call 42; (fail_if_success (have hh := HU1.out)); refine HT1.out.mono ?_; rintro e w3 ⟨rfl, rfl⟩; have HU1 : Hid True := Lib.hid trivial)
        | (go_at_call 42; refine HT2.out.mono ?_; rintro e w3 ⟨rfl, rfl⟩)
        | (refine wpList_ld rfl _ _ rfl _ rfl _ (HR2.out.own.load HR2.out.dx) ?_)
        | (refine wpList_store_row rfl 29 _ _ rfl w.heap.size _ rfl rfl 29 _ HR2.out.out (Rq.sizeOf X2 HR2.out.dx) (Rq.sizes rq0 X2 rfl HR2.out.dx) (Rq.one X2) ?_; generalize hwZ : World.setRow _ _ _ = wZ; have HZ : Hid (Rd w wZ w.heap.size (w.heap.size + 1) X2 X2) := Lib.hid (by rw [← hwZ]; exact HR2.out.ans X2 HR2.out.dx); have HZK := Lib.hid (keep_row hwZ); clear hwZ))
      refine bodyPost_ret (HZ.out.out.res2 HZ.out.dy rfl _ rfl) rfl ?_
      exact RdQ.of X2 true (by rw [← HX2.out, ← HX1.out]; exact ⟨Bs.empty _ _, fun _ => rfl, Nat.le_refl _, Nat.zero_le _, dok_zero, (Nat.zero_le 140737488355328 : (0 : Nat) ≤ 140737488355328), u64_zero, by show _ ≤ (6 : Int) ∧ (6 : Int) ≤ _; omega, by show _ ≤ x ∧ x ≤ _; omega, by show _ ≤ y ∧ y ≤ _; omega⟩) (RdP.isRec (by rw [HRN.out, ← HX2.out, ← HX1.out]; rfl)) HZ.out.le (by rw [← HX2.out, ← HX1.out]; exact Ob.nil _ _ _)
    · have hne : ((n : Int) != 8) = true := by simp; omega
      have HRN : Hid (readN 6 zs = none) := Lib.hid (by unfold readN; rw [if_neg (by omega)]; simp only [HL.out, Int.reduceEq, if_true, if_false]; rw [if_pos (by omega)])
      clear hA
      go_wp2_with (first
        | (refine wpList_ld rfl _ _ rfl _ rfl _ (HR.out.own.load HR.out.dx) ?_)
        | (refine wpList_store_row rfl 29 _ _ rfl w.heap.size _ rfl rfl 29 _ HR.out.out (Rq.sizeOf (rqK 6) HR.out.dx) (Rq.sizes rq0 (rqK 6) rfl HR.out.dx) (Rq.one (rqK 6)) ?_; generalize hwZ : World.setRow _ _ _ = wZ; have HZ : Hid (Rd w wZ w.heap.size (w.heap.size + 1) (rqK 6) (rqK 6)) := Lib.hid (by rw [← hwZ]; exact HR.out.ans (rqK 6) HR.out.dx); have HZK := Lib.hid (keep_row hwZ); clear hwZ))
      refine bodyPost_ret (HZ.out.out.res2 HZ.out.dy rfl _ rfl) rfl ?_
      exact RdQ.of (rqK 6) false (HFK.out _) (RdP.noRec HRN.out) HZ.out.le (Ob.nil _ _ _)
  · by_cases hA : n = 16
    · subst hA
      obtain ⟨pt, hst0, hbt, hpt⟩ := H.out.slice_to (P := Try.prog) 23 5 Try.underlying23 (fun _ => by kernel_rfl) c 8 HNC.out (by omega)
      have hst : ∀ W', (Instr.slice 23 (.slice p 16 c) none (some (.int .i64 8)) none).run Try.prog W' = .ok (.slice pt 8 c) W' := hst0
      have hcv := (hbt.later HR.out.le).run_string (P := Try.prog) 23 5 9 Try.underlying23 Try.underlying5 Try.underlying9 c
      have htt := text_test (strOfNums (zs.take 8)) [115, 116, 105, 108, 108, 97, 103, 101] magN rfl
      rw [numsOf_strOfNums hbt.byte] at htt
      obtain ⟨S, hS⟩ : ∃ S, strOfNums (zs.take 8) = S := ⟨_, rfl⟩
      rw [hS] at hcv htt
      clear hst0 hbt hpt hS
      by_cases hB : zs.take 8 = magN
      · rw [decide_eq_true hB] at htt
        have HBE := Lib.hid hB
        have HRN : Hid (readN 7 zs = some ⟨7, 0, dg0, [], [], if leN zs 8 8 < 4294967296 then leN zs 8 8 else 0, 0⟩) := Lib.hid (by unfold readN; rw [if_neg (by omega)]; simp only [HL.out, HBE.out, Int.reduceEq, if_true, if_false]; rw [if_neg (by omega), if_neg (by simp)])
        have HT1 := Lib.hid (HTK.out _ HB.out 8 8 (by omega) (by omega) (by omega))
        have hb1 := leN_bd zs HBY.out 8 8
        obtain ⟨x, hx⟩ : ∃ x, leN zs 8 8 = x := ⟨_, rfl⟩
        rw [hx] at hb1 HT1 HRN
        have hx0 : 0 ≤ x ∧ x < 18446744073709551616 := by simpa using hb1
        clear hx hb1 hB
        by_cases hC : x < 4294967296
        · rw [if_pos hC] at HRN
          have hwx : IntKind.i64.wrap x = x := by simp [IntKind.wrap, IntKind.bits, IntKind.signed]; omega
          obtain ⟨X1, hX1⟩ : ∃ X, { rqK 7 with N := x } = X := ⟨_, rfl⟩
          have HX1 := Lib.hid hX1
          obtain ⟨w1, hw1⟩ : ∃ W, wS.setCell ⟨w.heap.size + 1, 36, none⟩ (.int .i64 x) = W := ⟨_, rfl⟩
          have HR1 : Hid (Rd w w1 w.heap.size (w.heap.size + 1) rq0 X1) := Lib.hid (by rw [← hw1, ← hX1]; exact HR.out.setN x)
          have cl36 := (HR.out.own.cells HR.out.dx).2.2.2.2.1
          have fr36 := HR.out.own.frozen 36
          clear hX1
          go_wp2_with (first
            | (go_at_call 42; refine HT1.out.mono ?_; rintro e w3 ⟨rfl, rfl⟩)
            | (refine wpList_ld rfl _ _ rfl _ rfl _ (HR1.out.own.load HR1.out.dx) ?_)
            | (refine wpList_store_row rfl 29 _ _ rfl w.heap.size _ rfl rfl 29 _ HR1.out.out (Rq.sizeOf X1 HR1.out.dx) (Rq.sizes rq0 X1 rfl HR1.out.dx) (Rq.one X1) ?_; generalize hwZ : World.setRow _ _ _ = wZ; have HZ : Hid (Rd w wZ w.heap.size (w.heap.size + 1) X1 X1) := Lib.hid (by rw [← hwZ]; exact HR1.out.ans X1 HR1.out.dx); have HZK := Lib.hid (keep_row hwZ); clear hwZ))
          refine bodyPost_ret (HZ.out.out.res2 HZ.out.dy rfl _ rfl) rfl ?_
          exact RdQ.of X1 true (by rw [← HX1.out]; exact ⟨Bs.empty _ _, fun _ => rfl, Nat.le_refl _, Nat.zero_le _, dok_zero, (Nat.zero_le 140737488355328 : (0 : Nat) ≤ 140737488355328), u64_zero, by show _ ≤ (7 : Int) ∧ (7 : Int) ≤ _; omega, by show _ ≤ x ∧ x ≤ _; omega, i64_zero⟩) (RdP.isRec (by rw [HRN.out, ← HX1.out]; rfl)) HZ.out.le (by rw [← HX1.out]; exact Ob.nil _ _ _)
        · rw [if_neg hC] at HRN
          go_wp2_with (first
            | (go_at_call 42; refine HT1.out.mono ?_; rintro e w3 ⟨rfl, rfl⟩)
            | (refine wpList_ld rfl _ _ rfl _ rfl _ (HR.out.own.load HR.out.dx) ?_)
            | (refine wpList_store_row rfl 29 _ _ rfl w.heap.size _ rfl rfl 29 _ HR.out.out (Rq.sizeOf (rqK 7) HR.out.dx) (Rq.sizes rq0 (rqK 7) rfl HR.out.dx) (Rq.one (rqK 7)) ?_; generalize hwZ : World.setRow _ _ _ = wZ; have HZ : Hid (Rd w wZ w.heap.size (w.heap.size + 1) (rqK 7) (rqK 7)) := Lib.hid (by rw [← hwZ]; exact HR.out.ans (rqK 7) HR.out.dx); have HZK := Lib.hid (keep_row hwZ); clear hwZ))
          refine bodyPost_ret (HZ.out.out.res2 HZ.out.dy rfl _ rfl) rfl ?_
          exact RdQ.of (rqK 7) true (HFK.out _) (RdP.isRec HRN.out) HZ.out.le (Ob.nil _ _ _)
      · rw [decide_eq_false hB] at htt
        have HBE := Lib.hid hB
        have HRN : Hid (readN 7 zs = none) := Lib.hid (by unfold readN; rw [if_neg (by omega)]; simp only [HL.out, Int.reduceEq, if_true, if_false]; rw [if_neg (by omega), if_pos HBE.out])
        clear hB
        go_wp2_with (first
          | (refine wpList_ld rfl _ _ rfl _ rfl _ (HR.out.own.load HR.out.dx) ?_)
          | (refine wpList_store_row rfl 29 _ _ rfl w.heap.size _ rfl rfl 29 _ HR.out.out (Rq.sizeOf (rqK 7) HR.out.dx) (Rq.sizes rq0 (rqK 7) rfl HR.out.dx) (Rq.one (rqK 7)) ?_; generalize hwZ : World.setRow _ _ _ = wZ; have HZ : Hid (Rd w wZ w.heap.size (w.heap.size + 1) (rqK 7) (rqK 7)) := Lib.hid (by rw [← hwZ]; exact HR.out.ans (rqK 7) HR.out.dx); have HZK := Lib.hid (keep_row hwZ); clear hwZ))
        refine bodyPost_ret (HZ.out.out.res2 HZ.out.dy rfl _ rfl) rfl ?_
        exact RdQ.of (rqK 7) false (HFK.out _) (RdP.noRec HRN.out) HZ.out.le (Ob.nil _ _ _)
    · have hne : ((n : Int) != 16) = true := by simp; omega
      have HRN : Hid (readN 7 zs = none) := Lib.hid (by unfold readN; rw [if_neg (by omega)]; simp only [HL.out, Int.reduceEq, if_true, if_false]; rw [if_pos (by omega)])
      clear hA
      go_wp2_with (first
        | (refine wpList_ld rfl _ _ rfl _ rfl _ (HR.out.own.load HR.out.dx) ?_)
        | (refine wpList_store_row rfl 29 _ _ rfl w.heap.size _ rfl rfl 29 _ HR.out.out (Rq.sizeOf (rqK 7) HR.out.dx) (Rq.sizes rq0 (rqK 7) rfl HR.out.dx) (Rq.one (rqK 7)) ?_; generalize hwZ : World.setRow _ _ _ = wZ; have HZ : Hid (Rd w wZ w.heap.size (w.heap.size + 1) (rqK 7) (rqK 7)) := Lib.hid (by rw [← hwZ]; exact HR.out.ans (rqK 7) HR.out.dx); have HZK := Lib.hid (keep_row hwZ); clear hwZ))
      refine bodyPost_ret (HZ.out.out.res2 HZ.out.dy rfl _ rfl) rfl ?_
      exact RdQ.of (rqK 7) false (HFK.out _) (RdP.noRec HRN.out) HZ.out.le (Ob.nil _ _ _)
  · by_cases hA : n = 8
    · subst hA
      have HRN : Hid (readN 8 zs = some ⟨8, 0, dg0, [], [], leN zs 0 4, leN zs 4 4⟩) := Lib.hid (by unfold readN; rw [if_neg (by omega)]; simp [HL.out])
      have HT1 := Lib.hid (HTK.out _ HB.out 0 4 (by omega) (by omega) (by omega))
      have hb1 := leN_bd zs HBY.out 0 4
      have hb2 := leN_bd zs HBY.out 4 4
      obtain ⟨x, hx⟩ : ∃ x, leN zs 0 4 = x := ⟨_, rfl⟩
      obtain ⟨y, hy⟩ : ∃ x, leN zs 4 4 = x := ⟨_, rfl⟩
      rw [hx] at hb1 HT1 HRN
      rw [hy] at hb2 HRN
      have hx0 : 0 ≤ x ∧ x < 4294967296 := by simpa using hb1
      have hy0 : 0 ≤ y ∧ y < 4294967296 := by simpa using hb2
      have hwx : IntKind.i64.wrap x = x := by simp [IntKind.wrap, IntKind.bits, IntKind.signed]; omega
      have hwy : IntKind.i64.wrap y = y := by simp [IntKind.wrap, IntKind.bits, IntKind.signed]; omega
      have HY := Lib.hid hy
      obtain ⟨X1, hX1⟩ : ∃ X, { rqK 8 with N := x } = X := ⟨_, rfl⟩
      obtain ⟨X2, hX2⟩ : ∃ X, { X1 with Z := y } = X := ⟨_, rfl⟩
      have HX1 := Lib.hid hX1
      have HX2 := Lib.hid hX2
      obtain ⟨w1, hw1⟩ : ∃ W, wS.setCell ⟨w.heap.size + 1, 36, none⟩ (.int .i64 x) = W := ⟨_, rfl⟩
      have HR1 : Hid (Rd w w1 w.heap.size (w.heap.size + 1) rq0 X1) := Lib.hid (by rw [← hw1, ← hX1]; exact HR.out.setN x)
      obtain ⟨w2, hw2⟩ : ∃ W, w1.setCell ⟨w.heap.size + 1, 37, none⟩ (.int .i64 y) = W := ⟨_, rfl⟩
      have HR2 : Hid (Rd w w2 w.heap.size (w.heap.size + 1) rq0 X2) := Lib.hid (by rw [← hw2, ← hX2]; exact HR1.out.setZ y)
      have HT2 := Lib.hid (HTK.out _ HB.out 4 4 (by omega) (by omega) (by omega))
      rw [HY.out] at HT2
      have cl36 := (HR.out.own.cells HR.out.dx).2.2.2.2.1
      have fr36 := HR.out.own.frozen 36
      have cl37 := (HR1.out.own.cells HR1.out.dx).2.2.2.2.2
      have fr37 := HR1.out.own.frozen 37
      clear hx hy hX1 hX2 hb1 hb2
      go_wp2_with (first
        | (go_at_call 42; (fail_if_success (have hh := HU1.out)); refine HT1.out.mono ?_; rintro e w3 ⟨rfl, rfl⟩; have HU1 : Hid True := Lib.hid trivial)
        | (go_at_call 42; refine HT2.out.mono ?_; rintro e w3 ⟨rfl, rfl⟩)
        | (refine wpList_ld rfl _ _ rfl _ rfl _ (HR2.out.own.load HR2.out.dx) ?_)
        | (refine wpList_store_row rfl 29 _ _ rfl w.heap.size _ rfl rfl 29 _ HR2.out.out (Rq.sizeOf X2 HR2.out.dx) (Rq.sizes rq0 X2 rfl HR2.out.dx) (Rq.one X2) ?_; generalize hwZ : World.setRow _ _ _ = wZ; have HZ : Hid (Rd w wZ w.heap.size (w.heap.size + 1) X2 X2) := Lib.hid (by rw [← hwZ]; exact HR2.out.ans X2 HR2.out.dx); have HZK := Lib.hid (keep_row hwZ); clear hwZ))
      refine bodyPost_ret (HZ.out.out.res2 HZ.out.dy rfl _ rfl) rfl ?_
      exact RdQ.of X2 true (by rw [← HX2.out, ← HX1.out]; exact ⟨Bs.empty _ _, fun _ => rfl, Nat.le_refl _, Nat.zero_le _, dok_zero, (Nat.zero_le 140737488355328 : (0 : Nat) ≤ 140737488355328), u64_zero, by show _ ≤ (8 : Int) ∧ (8 : Int) ≤ _; omega, by show _ ≤ x ∧ x ≤ _; omega, by show _ ≤ y ∧ y ≤ _; omega⟩) (RdP.isRec (by rw [HRN.out, ← HX2.out, ← HX1.out]; rfl)) HZ.out.le (by rw [← HX2.out, ← HX1.out]; exact Ob.nil _ _ _)
    · have hne : ((n : Int) != 8) = true := by simp; omega
      have HRN : Hid (readN 8 zs = none) := Lib.hid (by unfold readN; rw [if_neg (by omega)]; simp only [HL.out, Int.reduceEq, if_true, if_false]; rw [if_pos (by omega)])
      clear hA
      go_wp2_with (first
        | (refine wpList_ld rfl _ _ rfl _ rfl _ (HR.out.own.load HR.out.dx) ?_)
        | (refine wpList_store_row rfl 29 _ _ rfl w.heap.size _ rfl rfl 29 _ HR.out.out (Rq.sizeOf (rqK 8) HR.out.dx) (Rq.sizes rq0 (rqK 8) rfl HR.out.dx) (Rq.one (rqK 8)) ?_; generalize hwZ : World.setRow _ _ _ = wZ; have HZ : Hid (Rd w wZ w.heap.size (w.heap.size + 1) (rqK 8) (rqK 8)) := Lib.hid (by rw [← hwZ]; exact HR.out.ans (rqK 8) HR.out.dx); have HZK := Lib.hid (keep_row hwZ); clear hwZ))
      refine bodyPost_ret (HZ.out.out.res2 HZ.out.dy rfl _ rfl) rfl ?_
      exact RdQ.of (rqK 8) false (HFK.out _) (RdP.noRec HRN.out) HZ.out.le (Ob.nil _ _ _)
end Go.Proofs.Ytjdigncieoaglaa
