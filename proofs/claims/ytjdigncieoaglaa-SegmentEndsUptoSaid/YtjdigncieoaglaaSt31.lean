/- Layer 14, the program: lead -/
import Derived.Test.YtjdigncieoaglaaSt11
import Derived.Test.YtjdigncieoaglaaSt20
import Derived.Lib.SmallJoins
set_option linter.unusedSimpArgs false
set_option linter.unusedVariables false
namespace Go.Proofs.Ytjdigncieoaglaa
set_option linter.unusedVariables false
open Go.RowKit Go.Lib

/-- the data of a record's frame, but for its own -/
def leadN (r : Rc) : List Int := if r.k ≤ 2 then r.dg else dataN r
theorem leadN_12 {r : Rc} (h : r.k = 1 ∨ r.k = 2) : leadN r = r.dg := by
  unfold leadN
  rw [if_pos (by omega)]
theorem leadN_bare {r : Rc} (hk : 1 ≤ r.k ∧ r.k ≤ 8) : leadN (bareN r) ++ (bareN r).da = dataN r := by
  obtain ⟨k, s, dg, nm, da, n, z⟩ := r
  dsimp only at hk
  unfold leadN dataN bareN
  dsimp only
  rcases kinds (k := k) with h1 | h1 | rfl | rfl | rfl | rfl | rfl | rfl | rfl | rfl
  · omega
  · omega
  all_goals simp
theorem textP_in {s : ByteArray} (h : s.size ≤ 255) : textP s = (s.size : Int) :: numsOf s := by
  unfold textP
  rw [if_pos h]
theorem putS_4 (n : Int) : putS n 4 = putN n 4 := rfl
theorem putS_8 (n : Int) : putS n 8 = putN n 8 := rfl

set_option maxRecDepth 100000 in
set_option maxHeartbeats 1000000 in
theorem lead_any (x : Rq) (w : World) (hx : x.Fit w) (hr : rightN x.rc = 0) :
    Calls Try.prog 36 #[x.v] w fun e w' => ∃ v, e = .returned v ∧ Ob w' w.heap.size 5 v (leadN x.rc) ∧ Below w.heap.size w w' := by
  obtain ⟨wA, hA, hm, hb, c0, c1, c34, c35, c36, c37⟩ := box_rec w x hx.dg.1
  have HB := Lib.hid hb
  have HD := Lib.hid (hm.dig hx.dg)
  have HDL := Lib.hid hx.dg.1
  have HK := Lib.hid (rightN_k hr)
  have HNM := Lib.hid fun (h : x.k = 3 ∨ x.k = 4) => tagP_len (rightN_nm hr h)
  have HNZ := Lib.hid fun (h : x.k = 6 ∨ x.k = 8) => rightN_nz hr h
  have HHD := Lib.hid fun (h : x.k = 7) => rightN_hd hr h
  have HC := Lib.hid fun W (hW : Below wA.heap.size wA W) => (hm.later hW).cells hx.dg.1
  obtain ⟨R, hR⟩ : ∃ R, leadN x.rc = R := ⟨_, rfl⟩
  rw [hR]
  have HR : Hid (R = leadN x.rc) := Lib.hid hR.symm
  clear hR
  unfold leadN dataN at HR
  unfold Rq.rc at HR HNM HNZ HHD HK
  dsimp only at HR HNM HNZ HHD HK
  have HNL := Lib.hid (numsOf_length x.nm)
  have HS := Lib.hid hb.size
  unfold Rq.v
  obtain ⟨k, s, dg, nm, p, n, c, da, N, Z⟩ := x
  dsimp only at *
  generalize mixC _ _ _ = M at *
  clear hb hx hm hr c1
  rcases kinds (k := k) with h | h | rfl | rfl | rfl | rfl | rfl | rfl | rfl | rfl
  · have := HK.out; omega
  · have := HK.out; omega
  · replace HR : Hid (R = dg) := Lib.hid (by rw [HR.out]; simp)
    clear c34 c35 c36 c37 HK HNM HNZ HHD
    go_enter Try.func36, Try.ntmps36
    go_wp2_with (refine wpList_append_bytes rfl _ _ 23 5 rfl Try.underlying23 info8 wA.heap.size _ [] rfl (Ob.nil _ _ _) (some ⟨w.heap.size, 2, none⟩) 32 32 dg rfl HD.out (fun h => by cases h) (by simp) (Nat.le_refl _) ?_; intro v1 w1 ho1 hg1; rw [List.nil_append] at ho1; have HB1 : Hid (Below wA.heap.size wA w1) := Lib.hid (below_new (e := 5) (Below.refl _ _) (Ob.nil _ _ _) hg1 (Nat.le_refl _)); have HO1 := Lib.hid ho1; clear ho1 hg1)
    go_ret
    exact ⟨_, rfl, by rw [HR.out]; exact HO1.out.mono HS.out, below_step HB.out HB1.out⟩
  · replace HR : Hid (R = dg) := Lib.hid (by rw [HR.out]; simp)
    clear c34 c35 c36 c37 HK HNM HNZ HHD
    go_enter Try.func36, Try.ntmps36
    go_wp2_with (refine wpList_append_bytes rfl _ _ 23 5 rfl Try.underlying23 info8 wA.heap.size _ [] rfl (Ob.nil _ _ _) (some ⟨w.heap.size, 2, none⟩) 32 32 dg rfl HD.out (fun h => by cases h) (by simp) (Nat.le_refl _) ?_; intro v1 w1 ho1 hg1; rw [List.nil_append] at ho1; have HB1 : Hid (Below wA.heap.size wA w1) := Lib.hid (below_new (e := 5) (Below.refl _ _) (Ob.nil _ _ _) hg1 (Nat.le_refl _)); have HO1 := Lib.hid ho1; clear ho1 hg1)
    go_ret
    exact ⟨_, rfl, by rw [HR.out]; exact HO1.out.mono HS.out, below_step HB.out HB1.out⟩
  · have hn := HNM.out (by omega)
    replace HR : Hid (R = ((nm.size : Int) :: numsOf nm) ++ dg) := Lib.hid (by rw [HR.out, HNL.out]; simp)
    rw [HNL.out] at hn
    have HTX := Lib.hid (textP_in (s := nm) (by omega))
    have HL2 : Hid (((nm.size : Int) :: numsOf nm).length + 32 ≤ 140737488355328) := Lib.hid (by rw [List.length_cons, HNL.out]; omega)
    clear c35 c36 c37 HK HNM HNZ HHD
    go_enter Try.func36, Try.ntmps36
    go_wp2_with (first
      | (go_at_call 50; refine (putText_any none 0 0 [] nm wA (Bs.empty _ _) (by omega) (by unfold maxLen; omega)).mono ?_; rintro e w1 ⟨v1, rfl, ho1, hb1⟩; rw [List.nil_append, HTX.out] at ho1; have HB1 := Lib.hid hb1; have HO1 := Lib.hid ho1; have HD1 := Lib.hid (HD.out.later hb1); clear ho1 hb1)
      | (refine wpList_append_bytes rfl _ _ 23 5 rfl Try.underlying23 info8 wA.heap.size _ ((nm.size : Int) :: numsOf nm) rfl HO1.out (some ⟨w.heap.size, 2, none⟩) 32 32 dg rfl HD1.out (fun h => by cases h) HL2.out HB1.out.size ?_; intro v2 w2 ho2 hg2; have HB2 := Lib.hid (below_new HB1.out HO1.out hg2 HB1.out.size); have HO2 := Lib.hid ho2; clear ho2 hg2))
    go_ret
    exact ⟨_, rfl, by rw [HR.out]; exact HO2.out.mono HS.out, below_step HB.out HB2.out⟩
  · have hn := HNM.out (by omega)
    replace HR : Hid (R = ((nm.size : Int) :: numsOf nm)) := Lib.hid (by rw [HR.out, HNL.out]; simp)
    rw [HNL.out] at hn
    have HTX := Lib.hid (textP_in (s := nm) (by omega))
    have HL2 : Hid (((nm.size : Int) :: numsOf nm).length + 32 ≤ 140737488355328) := Lib.hid (by rw [List.length_cons, HNL.out]; omega)
    clear c35 c36 c37 HK HNM HNZ HHD
    go_enter Try.func36, Try.ntmps36
    go_wp2_with (go_at_call 50; refine (putText_any none 0 0 [] nm wA (Bs.empty _ _) (by omega) (by unfold maxLen; omega)).mono ?_; rintro e w1 ⟨v1, rfl, ho1, hb1⟩; rw [List.nil_append, HTX.out] at ho1; have HB1 := Lib.hid hb1; have HO1 := Lib.hid ho1; have HD1 := Lib.hid (HD.out.later hb1); clear ho1 hb1)
    go_ret
    exact ⟨_, rfl, by rw [HR.out]; exact HO1.out.mono HS.out, below_step HB.out HB1.out⟩
  · replace HR : Hid (R = dg) := Lib.hid (by rw [HR.out]; simp)
    clear c34 c35 c36 c37 HK HNM HNZ HHD
    go_enter Try.func36, Try.ntmps36
    go_wp2_with (refine wpList_append_bytes rfl _ _ 23 5 rfl Try.underlying23 info8 wA.heap.size _ [] rfl (Ob.nil _ _ _) (some ⟨w.heap.size, 2, none⟩) 32 32 dg rfl HD.out (fun h => by cases h) (by simp) (Nat.le_refl _) ?_; intro v1 w1 ho1 hg1; rw [List.nil_append] at ho1; have HB1 : Hid (Below wA.heap.size wA w1) := Lib.hid (below_new (e := 5) (Below.refl _ _) (Ob.nil _ _ _) hg1 (Nat.le_refl _)); have HO1 := Lib.hid ho1; clear ho1 hg1)
    go_ret
    exact ⟨_, rfl, by rw [HR.out]; exact HO1.out.mono HS.out, below_step HB.out HB1.out⟩
  · have hn := HNZ.out (by omega)
    replace HR : Hid (R = ([] ++ putN N 4) ++ putN Z 4) := Lib.hid (by rw [HR.out]; simp)
    have hwN : IntKind.u64.wrap N = N := wrap_u64_in (by omega) (by omega)
    have hwZ : IntKind.u64.wrap Z = Z := wrap_u64_in (by omega) (by omega)
    obtain ⟨x1, e1⟩ : ∃ x, ([] : List Int) ++ putN N 4 = x := ⟨_, rfl⟩
    have l1 : x1.length = 4 := by rw [← e1]; simp [putN_length]
    rw [e1] at HR
    have E1 := Lib.hid e1
    have L1 := Lib.hid l1
    clear e1 l1 c34 c35 HK HNM HHD HNZ
    go_enter Try.func36, Try.ntmps36
    go_wp2_with (first
      | (go_at_call 51; (fail_if_success (have hh := HB1.out)); refine (put_any none 0 0 [] N 4 wA (Bs.empty _ _) (by omega) (by omega) (by omega)).mono ?_; rintro e w1 ⟨v1, rfl, ho1, hb1⟩; rw [putS_4, E1.out] at ho1; have HB1 := Lib.hid hb1; obtain ⟨p1, c1, hv1, hlc1, hcm1, hbs1, hpc1⟩ := ho1.open; rw [L1.out] at hv1 hlc1 hbs1; subst hv1; have HD1 := Lib.hid hbs1; obtain ⟨_, _, _, _, d36, d37⟩ := HC.out _ HB1.out; clear ho1 hb1 hbs1 hpc1 d36)
      | (go_at_call 51; refine (put_any p1 4 c1 x1 Z 4 w1 HD1.out (by omega) (by omega) (by omega)).mono ?_; rintro e w2 ⟨v2, rfl, ho2, hb2⟩; rw [putS_4] at ho2; have HB2 := Lib.hid (below_step HB1.out hb2); have HO2 := Lib.hid (ho2.mono HB1.out.size); clear ho2 hb2))
    go_ret
    exact ⟨_, rfl, by rw [HR.out]; exact HO2.out.mono HS.out, below_step HB.out HB2.out⟩
  · have hn := HHD.out rfl
    replace HR : Hid (R = magN ++ putN N 8) := Lib.hid (by rw [HR.out]; simp)
    have hwN : IntKind.u64.wrap N = N := wrap_u64_in (by omega) (by omega)
    have kc := fun (W : World) (C : Array Value) (n c : Nat) => Lib.run_convert_bytes_const (P := Try.prog) W 23 5 C n c Try.underlying23 Try.underlying5
    obtain ⟨wB, hB⟩ : ∃ W, wA.alloc (.cells #[.int .u8 115, .int .u8 116, .int .u8 105, .int .u8 108, .int .u8 108, .int .u8 97, .int .u8 103, .int .u8 101] 5 (8, 9)) = W := ⟨_, rfl⟩
    have HMB : Hid (Bs wB (some ⟨wA.heap.size, 0, none⟩) 8 magN) := Lib.hid (by rw [← hB]; exact bs_lit_fr wA 5 _ (8, 9) magN 8 rfl magN_byt rfl)
    have HBB : Hid (Below wA.heap.size wA wB) := Lib.hid (by rw [← hB]; exact (Below.refl _ _).alloc (Nat.le_refl _) _)
    obtain ⟨_, _, _, _, d36, _⟩ := HC.out _ HBB.out
    clear c34 c35 c37 HK HNM HNZ HHD
    go_enter Try.func36, Try.ntmps36
    go_wp2_with (go_at_call 51; refine (put_any _ 8 _ magN N 8 _ HMB.out (by omega) (by omega) (by omega)).mono ?_; rintro e w1 ⟨v1, rfl, ho1, hb1⟩; rw [putS_8] at ho1; have HB1 := Lib.hid (below_step HBB.out hb1); have HO1 := Lib.hid (ho1.mono HBB.out.size); clear ho1 hb1)
    go_ret
    exact ⟨_, rfl, by rw [HR.out]; exact HO1.out.mono HS.out, below_step HB.out HB1.out⟩
  · have hn := HNZ.out (by omega)
    replace HR : Hid (R = ([] ++ putN N 4) ++ putN Z 4) := Lib.hid (by rw [HR.out]; simp)
    have hwN : IntKind.u64.wrap N = N := wrap_u64_in (by omega) (by omega)
    have hwZ : IntKind.u64.wrap Z = Z := wrap_u64_in (by omega) (by omega)
    obtain ⟨x1, e1⟩ : ∃ x, ([] : List Int) ++ putN N 4 = x := ⟨_, rfl⟩
    have l1 : x1.length = 4 := by rw [← e1]; simp [putN_length]
    rw [e1] at HR
    have E1 := Lib.hid e1
    have L1 := Lib.hid l1
    clear e1 l1 c34 c35 HK HNM HHD HNZ
    go_enter Try.func36, Try.ntmps36
    go_wp2_with (first
      | (go_at_call 51; (fail_if_success (have hh := HB1.out)); refine (put_any none 0 0 [] N 4 wA (Bs.empty _ _) (by omega) (by omega) (by omega)).mono ?_; rintro e w1 ⟨v1, rfl, ho1, hb1⟩; rw [putS_4, E1.out] at ho1; have HB1 := Lib.hid hb1; obtain ⟨p1, c1, hv1, hlc1, hcm1, hbs1, hpc1⟩ := ho1.open; rw [L1.out] at hv1 hlc1 hbs1; subst hv1; have HD1 := Lib.hid hbs1; obtain ⟨_, _, _, _, d36, d37⟩ := HC.out _ HB1.out; clear ho1 hb1 hbs1 hpc1 d36)
      | (go_at_call 51; refine (put_any p1 4 c1 x1 Z 4 w1 HD1.out (by omega) (by omega) (by omega)).mono ?_; rintro e w2 ⟨v2, rfl, ho2, hb2⟩; rw [putS_4] at ho2; have HB2 := Lib.hid (below_step HB1.out hb2); have HO2 := Lib.hid (ho2.mono HB1.out.size); clear ho2 hb2))
    go_ret
    exact ⟨_, rfl, by rw [HR.out]; exact HO2.out.mono HS.out, below_step HB.out HB2.out⟩
end Go.Proofs.Ytjdigncieoaglaa
