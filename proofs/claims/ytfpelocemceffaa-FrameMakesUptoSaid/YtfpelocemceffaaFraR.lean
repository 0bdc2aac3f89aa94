/- Layer 13, the reference: Make. -/
import Derived.Test.YtfpelocemceffaaFraP
import Derived.Test.YtfpelocemceffaaFixR
import Derived.Test.YtfpelocemceffaaCrcR2
namespace Go.Proofs.Ytfpelocemceffaa
set_option linter.unusedVariables false
open Go.RowKit Go.Lib

theorem frmN_parts (k s : Int) (data : List Int) : frmN k s data = ([] ++ [k % 256] ++ putN s 8 ++ putN (data.length : Int) 4 ++ putN (crcN ([] ++ [k % 256] ++ putN s 8 ++ putN (data.length : Int) 4) : Nat) 4 ++ data) ++ putN (crcN ([] ++ [k % 256] ++ putN s 8 ++ putN (data.length : Int) 4 ++ putN (crcN ([] ++ [k % 256] ++ putN s 8 ++ putN (data.length : Int) 4) : Nat) 4 ++ data) : Nat) 4 := by
  have e : frmS k s data.length = [] ++ [k % 256] ++ putN s 8 ++ putN (data.length : Int) 4 := by
    unfold frmS
    rw [show putN k 1 = [k % 256] by simp [putN]]
    simp
  unfold frmN frmH sealN
  rw [e]

set_option maxRecDepth 100000 in
set_option maxHeartbeats 1000000 in
theorem rmake_any (k s : Int) (p : Option Addr) (n c : Nat) (zs : List Int) (w : World) (h : Bs w p n zs) (hpc : p = none → c = 0) (hn : n ≤ 1048576) (hs : 0 ≤ s ∧ s < 18446744073709551616) :
    Calls Try.prog 12 #[.int .i64 k, .int .u64 s, .slice p n c] w fun e w' => ∃ v, e = .returned v ∧ Ob w' w.heap.size 5 v (frmN k s zs) ∧ Below w.heap.size w w' := by
  have H := Lib.hid h
  have HPC := Lib.hid hpc
  have hzl := h.len
  have HF := Lib.hid (frmN_parts k s zs)
  rw [hzl] at HF
  obtain ⟨R, hR⟩ : ∃ R, frmN k s zs = R := ⟨_, rfl⟩
  rw [hR] at HF ⊢
  obtain ⟨x1, e1⟩ : ∃ x, ([] : List Int) ++ [k % 256] = x := ⟨_, rfl⟩
  rw [e1] at HF
  have l1 : x1.length = 1 := by rw [← e1]; rfl
  obtain ⟨x2, e2⟩ : ∃ x, x1 ++ putN s 8 = x := ⟨_, rfl⟩
  rw [e2] at HF
  have l2 : x2.length = 9 := by rw [← e2, List.length_append, putN_length, l1]
  obtain ⟨x3, e3⟩ : ∃ x, x2 ++ putN (n : Int) 4 = x := ⟨_, rfl⟩
  rw [e3] at HF
  have l3 : x3.length = 13 := by rw [← e3, List.length_append, putN_length, l2]
  have hc3 := crcN_lt x3
  obtain ⟨q3, hq3⟩ : ∃ q, crcN x3 = q := ⟨_, rfl⟩
  rw [hq3] at HF hc3
  obtain ⟨x4, e4⟩ : ∃ x, x3 ++ putN (q3 : Int) 4 = x := ⟨_, rfl⟩
  rw [e4] at HF
  have l4 : x4.length = 17 := by rw [← e4, List.length_append, putN_length, l3]
  obtain ⟨x5, e5⟩ : ∃ x, x4 ++ zs = x := ⟨_, rfl⟩
  rw [e5] at HF
  obtain ⟨L, hL⟩ : ∃ L, x5.length = L := ⟨_, rfl⟩
  have l5 : L = 17 + n := by rw [← hL, ← e5, List.length_append, l4, hzl]
  have hc5 := crcN_lt x5
  obtain ⟨q5, hq5⟩ : ∃ q, crcN x5 = q := ⟨_, rfl⟩
  rw [hq5] at HF hc5
  have E1 := Lib.hid e1
  have E2 := Lib.hid e2
  have E3 := Lib.hid e3
  have E4 := Lib.hid e4
  have E5 := Lib.hid e5
  have L1 := Lib.hid l1
  have L2 := Lib.hid l2
  have L3 := Lib.hid l3
  have L4 := Lib.hid l4
  have L5 := Lib.hid hL
  have Q3 := Lib.hid hq3
  have Q5 := Lib.hid hq5
  have hL5 : L ≤ 2097152 := by omega
  have hw3 : IntKind.u64.wrap (q3 : Int) = (q3 : Int) := wrap_u64_in (by omega) (by omega)
  have hw5 : IntKind.u64.wrap (q5 : Int) = (q5 : Int) := wrap_u64_in (by omega) (by omega)
  have hwn : IntKind.u64.wrap (n : Int) = (n : Int) := wrap_u64_in (by omega) (by omega)
  have hwk : IntKind.u8.wrap k = k % 256 := by simp [IntKind.wrap, IntKind.bits, IntKind.signed]
  have hk : 0 ≤ k % 256 ∧ k % 256 < 256 := by omega
  have HA4 : Hid (x4.length + n ≤ 140737488355328) := Lib.hid (by omega)
  clear h hpc hzl hR e1 e2 e3 e4 e5 l1 l2 l3 l4 l5 hL hq3 hq5
  go_enter Try.func12, Try.ntmps12
  go_wp2_with (first
    | ((fail_if_success (have hh := HB1.out)); refine wpList_append_bytes rfl _ _ 22 5 rfl Try.underlying22 info8 w.heap.size _ [] rfl (Ob.nil _ _ _) (some ⟨w.heap.size, 0, none⟩) 1 1 [k % 256] rfl (bs_one w _ _ hk.1 hk.2) (fun h => by cases h) (by simp) (by simp) ?_; intro v1 w1 ho1 hg1; rw [E1.out] at ho1; have HB1 : Hid (Below w.heap.size w w1) := Lib.hid (below_new (e := 5) ((Below.refl _ _).alloc (Nat.le_refl _) _) (Ob.nil _ _ _) hg1 (by simp)); obtain ⟨p1, c1, hv1, hlc1, hcm1, hbs1, hpc1⟩ := ho1.open; rw [L1.out] at hv1 hlc1 hbs1; subst hv1; have HD1 := Lib.hid hbs1; have HP1 := Lib.hid hpc1; clear ho1 hg1 hbs1 hpc1)
    | (go_at_call 22; (fail_if_success (have hh := HB2.out)); refine (rput_any _ 1 _ x1 s 8 _ HD1.out HP1.out (by omega) (by omega) (by omega) hs.1 hs.2).mono ?_; rintro e w2 ⟨v2, rfl, ho2, hb2⟩; rw [E2.out] at ho2; have HB2 := Lib.hid (below_step HB1.out hb2); obtain ⟨p2, c2, hv2, hlc2, hcm2, hbs2, hpc2⟩ := ho2.open; rw [L2.out] at hv2 hlc2 hbs2; subst hv2; have HD2 := Lib.hid hbs2; have HP2 := Lib.hid hpc2; clear ho2 hb2 hbs2 hpc2)
    | (go_at_call 22; (fail_if_success (have hh := HB3.out)); refine (rput_any _ 9 _ x2 (n : Int) 4 _ HD2.out HP2.out (by omega) (by omega) (by omega) (by omega) (by omega)).mono ?_; rintro e w3 ⟨v3, rfl, ho3, hb3⟩; rw [E3.out] at ho3; have HB3 := Lib.hid (below_step HB2.out hb3); obtain ⟨p3, c3, hv3, hlc3, hcm3, hbs3, hpc3⟩ := ho3.open; rw [L3.out] at hv3 hlc3 hbs3; subst hv3; have HD3 := Lib.hid hbs3; have HP3 := Lib.hid hpc3; clear ho3 hb3 hbs3 hpc3)
    | (go_at_call 20; (fail_if_success (have hh := HBa.out)); refine (rcrc_any _ 13 _ x3 _ HD3.out (by omega)).mono ?_; rintro e wa ⟨rfl, hba⟩; rw [Q3.out]; have HBa := Lib.hid (below_step HB3.out hba); have HDa := Lib.hid (HD3.out.later hba); clear hba)
    | (go_at_call 22; (fail_if_success (have hh := HB4.out)); refine (rput_any _ 13 _ x3 (q3 : Int) 4 _ HDa.out HP3.out (by omega) (by omega) (by omega) (by omega) (by omega)).mono ?_; rintro e w4 ⟨v4, rfl, ho4, hb4⟩; rw [E4.out] at ho4; have HB4 := Lib.hid (below_step HBa.out hb4); have HO4 := Lib.hid (ho4.mono HBa.out.size); clear ho4 hb4)
    | (refine wpList_append_bytes rfl _ _ 22 5 rfl Try.underlying22 info8 w.heap.size _ x4 rfl HO4.out p n c zs rfl (H.out.later HB4.out) HPC.out HA4.out HB4.out.size ?_; intro v5 w5 ho5 hg5; rw [E5.out] at ho5; have HB5 := Lib.hid (below_new HB4.out HO4.out hg5 HB4.out.size); obtain ⟨p5, c5, hv5, hlc5, hcm5, hbs5, hpc5⟩ := ho5.open; rw [L5.out] at hv5 hlc5 hbs5; subst hv5; have HD5 := Lib.hid hbs5; have HP5 := Lib.hid hpc5; clear ho5 hg5 hbs5 hpc5)
    | (go_at_call 20; refine (rcrc_any _ L _ x5 _ HD5.out hL5).mono ?_; rintro e wb ⟨rfl, hbb⟩; rw [Q5.out]; have HBb := Lib.hid (below_step HB5.out hbb); have HDb := Lib.hid (HD5.out.later hbb); clear hbb)
    | (go_at_call 22; refine (rput_any _ L _ x5 (q5 : Int) 4 _ HDb.out HP5.out (by omega) (by omega) (by omega) (by omega) (by omega)).mono ?_; rintro e w6 ⟨v6, rfl, ho6, hb6⟩; have HB6 := Lib.hid (below_step HBb.out hb6); have HO6 := Lib.hid (ho6.mono HBb.out.size); clear ho6 hb6))
  go_ret
  exact ⟨_, rfl, by rw [HF.out]; exact HO6.out, HB6.out⟩
end Go.Proofs.Ytfpelocemceffaa
