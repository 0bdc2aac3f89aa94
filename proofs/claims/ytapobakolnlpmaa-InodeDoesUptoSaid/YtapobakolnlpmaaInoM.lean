/- Layer 10: the reference's Append, Cut, Crash. -/
import Derived.Test.YtapobakolnlpmaaInoK
namespace Go.Proofs.Ytapobakolnlpmaa
set_option linter.unusedVariables false
open Go.RowKit Go.Lib

set_option maxRecDepth 100000 in
theorem rnow_any (x : Ni) (w : World) (h : Ni.fit w x) (ho : x.fi.ok) :
    Calls Try.prog 11 #[.slice x.p x.n x.c, .slice x.q x.m x.d] w fun e w' => ∃ v, e = .returned v ∧ Ob w' w.heap.size 5 v (nowP x.fi) ∧ Below w.heap.size w w' := by
  obtain ⟨hn, hm, _, _⟩ := Ni.len h ho
  exact rall_any x.p x.n x.c x.zs x.q x.m x.d x.L w h.1 h.2.1 hn h.2.2.2.1 (Nat.le_succ_of_le hm)

set_option maxRecDepth 100000 in
set_option maxHeartbeats 2000000 in
theorem rappend_ino (x : Ni) (r : Option Addr) (l e : Nat) (bs : List Int) (w : World) (h : Ni.fit w x) (ho : x.fi.ok) (hb : Bs w r l bs) (hr : r = none → e = 0) (hle : l ≤ e) (hem : e ≤ maxLen) (hl : l ≤ 2097152) :
    Calls Try.prog 7 #[x.v, .slice r l e] w fun e w' => ∃ y : Ni, e = .returned (.tuple #[y.v, .int .i64 (appendE x.fi bs)]) ∧ Ni.fit w' y ∧ y.fi = appendP x.fi bs ∧ Below w.heap.size w w' := by
  have HN := Lib.hid fun W hW => rnow_any x W hW ho
  have HMO := Lib.hid fun u W hW hU => rmore_any x u W hW ho hU
  have HNB := Lib.hid (nowP_bound ho)
  obtain ⟨p, n, c, q, m, d, zs, L⟩ := x
  have HF := Lib.hid h
  obtain ⟨wA, hA⟩ : ∃ A, (w.alloc (.cells #[.slice p n c, .slice q m d] 25)).alloc (.cells #[.slice none 0 0, .slice none 0 0] 25) = A := ⟨_, rfl⟩
  have HBA : Hid (Below w.heap.size w wA) := Lib.hid (by rw [← hA]; exact below_alloc' (below_alloc' (Below.refl _ _) _) _)
  have HI : Hid (Iw wA w.heap.size ⟨p, n, c, q, m, d, zs, L⟩) := Lib.hid (by rw [← hA]; exact Iw.later (heap_alloc_new _ _) (below_alloc' (Below.refl _ _) _))
  have HZ : Hid (Iw wA (w.heap.size + 1) ni0) := Lib.hid (by rw [← hA]; exact two_new _ _ _)
  have HFA := Lib.hid (HF.out.later HBA.out)
  have HBS := Lib.hid hb
  have hbl := hb.1
  generalize hF : Ni.fi ⟨p, n, c, q, m, d, zs, L⟩ = F at *
  have HFF := Lib.hid hF
  obtain ⟨i0, i1⟩ := HI.out.cells
  unfold Ni.v at HMO ⊢
  dsimp only at HN
  clear h ho hb hF
  go_enter Try.func7, Try.ntmps7
  go_wp2_with fail
  clear hA
  refine (HN.out _ HFA.out).mono ?_
  rintro e4 w4 ⟨v4, rfl, ho4, hb4⟩
  obtain ⟨p4, c4, hv4, _⟩ := ho4.open
  subst hv4
  have HB4 := Lib.hid (below_step HBA.out hb4)
  have HI4 := Lib.hid (HI.out.later hb4)
  have HZ4 := Lib.hid (HZ.out.later hb4)
  have HF4 := Lib.hid (HFA.out.later hb4)
  have HS4 := Lib.hid (HBS.out.later HB4.out)
  have hN1 := HNB.out
  generalize hNN : nowP F = N at *
  have HNN := Lib.hid hNN
  clear ho4 hb4 i0 i1 hNN HN HNB HI HZ HFA
  obtain ⟨i0, i1⟩ := HI4.out.cells
  obtain ⟨z0, z1⟩ := HZ4.out.cells
  have f0 := HZ4.out.frozen 0
  have f1 := HZ4.out.frozen 1
  by_cases hcase : 1048576 < N.length + l
  · have HE : Hid (appendE F bs = 18) := Lib.hid (by unfold appendE; rw [HNN.out, hbl, if_pos hcase])
    have HP : Hid (appendP F bs = F) := Lib.hid (by unfold appendP; rw [HNN.out, hbl, if_pos hcase])
    have hc1 : decide ((N.length : Int) + (l : Int) > 1048576) = true := by simp; omega
    generalize N.length = nl at *
    clear hcase hbl
    go_wp2
    refine bodyPost_ret (Iw.results_tmp (y := ⟨p, n, c, q, m, d, zs, L⟩) (cells2_stored HZ4.out _ _) rfl _ rfl) rfl ?_
    refine ⟨_, by rw [HE.out]; rfl, HF4.out.stored HZ4.out.sl2 (stored2_keep _ _ _ _), by rw [HP.out]; exact HFF.out, (HB4.out.setCell (p := ⟨w.heap.size + 1, 0, none⟩) (Nat.le_succ _) _).setCell (p := ⟨w.heap.size + 1, 1, none⟩) (Nat.le_succ _) _⟩
  · have HE : Hid (appendE F bs = 0) := Lib.hid (by unfold appendE; rw [HNN.out, hbl, if_neg hcase])
    have hc1 : decide ((N.length : Int) + (l : Int) > 1048576) = false := by simp; omega
    by_cases hl0 : l = 0
    · have HP : Hid (appendP F bs = F) := Lib.hid (by unfold appendP; rw [HNN.out, hbl, if_neg hcase, if_pos hl0])
      generalize N.length = nl at *
      clear hcase hbl
      have hl1 : ((l : Int) == 0) = true := by simp [hl0]
      clear hl0
      go_wp2
      refine bodyPost_ret (Iw.results_tmp (y := ⟨p, n, c, q, m, d, zs, L⟩) (cells2_stored HZ4.out _ _) rfl _ rfl) rfl ?_
      refine ⟨_, by rw [HE.out]; rfl, HF4.out.stored HZ4.out.sl2 (stored2_keep _ _ _ _), by rw [HP.out]; exact HFF.out, (HB4.out.setCell (p := ⟨w.heap.size + 1, 0, none⟩) (Nat.le_succ _) _).setCell (p := ⟨w.heap.size + 1, 1, none⟩) (Nat.le_succ _) _⟩
    · have HP : Hid (appendP F bs = ⟨F.b, F.l ++ [⟨(N.length : Int), false, bs⟩]⟩) := Lib.hid (by unfold appendP; rw [HNN.out, hbl, if_neg hcase, if_neg hl0])
      generalize N.length = nl at *
      clear hcase hbl
      have hl1 : ((l : Int) == 0) = false := by simp [hl0]
      have HU : Hid (Wd.fit w4 ⟨⟨(nl : Int), false, bs⟩, r, l, e⟩) := Lib.hid ⟨HS4.out, hr, hle, hem, by show InI64 (nl : Int); unfold InI64; omega⟩
      clear hl0
      have HM2 := Lib.hid (HMO.out ⟨⟨(nl : Int), false, bs⟩, r, l, e⟩ _ HF4.out HU.out)
      unfold chV at HM2
      dsimp only at HM2
      go_wp2_with fail
      refine HM2.out.mono ?_
      rintro e5 w5 ⟨⟨yp, yn, yc, yq, ym, yd, yz, yL⟩, rfl, hf5, hy5, hb5⟩
      have HF5 := Lib.hid hf5
      have HY5 := Lib.hid hy5
      have HZ5 := Lib.hid (HZ4.out.later hb5)
      have HB5 := Lib.hid (below_step HB4.out hb5)
      clear hf5 hy5 hb5 i0 i1 z0 z1 f0 f1
      obtain ⟨z0, z1⟩ := HZ5.out.cells
      have f0 := HZ5.out.frozen 0
      have f1 := HZ5.out.frozen 1
      go_wp2
      refine bodyPost_ret (Iw.results_tmp (y := ⟨yp, yn, yc, yq, ym, yd, yz, yL⟩) (cells2_stored HZ5.out _ _) rfl _ rfl) rfl ?_
      refine ⟨_, by rw [HE.out]; rfl, HF5.out.stored HZ5.out.sl2 (stored2_keep _ _ _ _), by rw [HP.out]; exact HY5.out, (HB5.out.setCell (p := ⟨w.heap.size + 1, 0, none⟩) (Nat.le_succ _) _).setCell (p := ⟨w.heap.size + 1, 1, none⟩) (Nat.le_succ _) _⟩

set_option maxRecDepth 100000 in
set_option maxHeartbeats 2000000 in
theorem rcut_ino (x : Ni) (k : Int) (w : World) (h : Ni.fit w x) (ho : x.fi.ok) (hk : InI64 k) :
    Calls Try.prog 10 #[x.v, .int .i64 k] w fun e w' => ∃ y : Ni, e = .returned (.tuple #[y.v, .int .i64 (cutE x.fi k)]) ∧ Ni.fit w' y ∧ y.fi = cutP x.fi k ∧ Below w.heap.size w w' := by
  have HN := Lib.hid fun W hW => rnow_any x W hW ho
  have HMO := Lib.hid fun u W hW hU => rmore_any x u W hW ho hU
  have HNB := Lib.hid (nowP_bound ho)
  have HK := Lib.hid hk
  obtain ⟨p, n, c, q, m, d, zs, L⟩ := x
  have HF := Lib.hid h
  obtain ⟨wA, hA⟩ : ∃ A, (w.alloc (.cells #[.slice p n c, .slice q m d] 25)).alloc (.cells #[.slice none 0 0, .slice none 0 0] 25) = A := ⟨_, rfl⟩
  have HBA : Hid (Below w.heap.size w wA) := Lib.hid (by rw [← hA]; exact below_alloc' (below_alloc' (Below.refl _ _) _) _)
  have HI : Hid (Iw wA w.heap.size ⟨p, n, c, q, m, d, zs, L⟩) := Lib.hid (by rw [← hA]; exact Iw.later (heap_alloc_new _ _) (below_alloc' (Below.refl _ _) _))
  have HZ : Hid (Iw wA (w.heap.size + 1) ni0) := Lib.hid (by rw [← hA]; exact two_new _ _ _)
  have HFA := Lib.hid (HF.out.later HBA.out)
  generalize hF : Ni.fi ⟨p, n, c, q, m, d, zs, L⟩ = F at *
  have HFF := Lib.hid hF
  obtain ⟨i0, i1⟩ := HI.out.cells
  obtain ⟨z0, z1⟩ := HZ.out.cells
  have f0 := HZ.out.frozen 0
  have f1 := HZ.out.frozen 1
  unfold Ni.v at HMO ⊢
  dsimp only at HN
  clear h ho hF hk
  go_enter Try.func10, Try.ntmps10
  by_cases hneg : k < 0
  · have HE : Hid (cutE F k = 20) := Lib.hid (by unfold cutE; rw [if_pos (Or.inl hneg)])
    have HP : Hid (cutP F k = F) := Lib.hid (by unfold cutP; rw [if_pos (Or.inl hneg)])
    have hb1 : decide (k < 0) = true := decide_eq_true hneg
    go_wp2
    clear hA
    refine bodyPost_ret (Iw.results_tmp (y := ⟨p, n, c, q, m, d, zs, L⟩) (cells2_stored HZ.out _ _) rfl _ rfl) rfl ?_
    refine ⟨_, by rw [HE.out]; rfl, HFA.out.stored HZ.out.sl2 (stored2_keep _ _ _ _), by rw [HP.out]; exact HFF.out, (HBA.out.setCell (p := ⟨w.heap.size + 1, 0, none⟩) (Nat.le_succ _) _).setCell (p := ⟨w.heap.size + 1, 1, none⟩) (Nat.le_succ _) _⟩
  · have hb1 : decide (k < 0) = false := decide_eq_false hneg
    go_wp2_with fail
    clear hA
    refine (HN.out _ HFA.out).mono ?_
    rintro e4 w4 ⟨v4, rfl, ho4, hb4⟩
    obtain ⟨p4, c4, hv4, _⟩ := ho4.open
    subst hv4
    have HB4 := Lib.hid (below_step HBA.out hb4)
    have HI4 := Lib.hid (HI.out.later hb4)
    have HZ4 := Lib.hid (HZ.out.later hb4)
    have HF4 := Lib.hid (HFA.out.later hb4)
    have hN1 := HNB.out
    generalize hNN : nowP F = N at *
    have HNN := Lib.hid hNN
    clear ho4 hb4 i0 i1 z0 z1 f0 f1 hNN HN HNB HI HZ HFA
    obtain ⟨i0, i1⟩ := HI4.out.cells
    obtain ⟨z0, z1⟩ := HZ4.out.cells
    have f0 := HZ4.out.frozen 0
    have f1 := HZ4.out.frozen 1
    by_cases hbig : (N.length : Int) < k
    · have HE : Hid (cutE F k = 20) := Lib.hid (by unfold cutE; rw [HNN.out, if_pos (Or.inr hbig)])
      have HP : Hid (cutP F k = F) := Lib.hid (by unfold cutP; rw [HNN.out, if_pos (Or.inr hbig)])
      generalize N.length = nl at *
      go_wp2
      refine bodyPost_ret (Iw.results_tmp (y := ⟨p, n, c, q, m, d, zs, L⟩) (cells2_stored HZ4.out _ _) rfl _ rfl) rfl ?_
      refine ⟨_, by rw [HE.out]; rfl, HF4.out.stored HZ4.out.sl2 (stored2_keep _ _ _ _), by rw [HP.out]; exact HFF.out, (HB4.out.setCell (p := ⟨w.heap.size + 1, 0, none⟩) (Nat.le_succ _) _).setCell (p := ⟨w.heap.size + 1, 1, none⟩) (Nat.le_succ _) _⟩
    · have HE : Hid (cutE F k = 0) := Lib.hid (by unfold cutE; rw [HNN.out, if_neg (by omega)])
      have HP : Hid (cutP F k = ⟨F.b, F.l ++ [⟨k, true, []⟩]⟩) := Lib.hid (by unfold cutP; rw [HNN.out, if_neg (by omega)])
      have HU : Hid (Wd.fit w4 ⟨⟨k, true, []⟩, none, 0, 0⟩) := Lib.hid ⟨Bs.empty _ _, fun _ => rfl, Nat.le_refl _, by simp, HK.out⟩
      have HM2 := Lib.hid (HMO.out ⟨⟨k, true, []⟩, none, 0, 0⟩ _ HF4.out HU.out)
      unfold chV at HM2
      dsimp only at HM2
      generalize N.length = nl at *
      go_wp2_with fail
      refine HM2.out.mono ?_
      rintro e5 w5 ⟨⟨yp, yn, yc, yq, ym, yd, yz, yL⟩, rfl, hf5, hy5, hb5⟩
      have HF5 := Lib.hid hf5
      have HY5 := Lib.hid hy5
      have HZ5 := Lib.hid (HZ4.out.later hb5)
      have HB5 := Lib.hid (below_step HB4.out hb5)
      clear hf5 hy5 hb5 i0 i1 z0 z1 f0 f1
      obtain ⟨z0, z1⟩ := HZ5.out.cells
      have f0 := HZ5.out.frozen 0
      have f1 := HZ5.out.frozen 1
      go_wp2
      refine bodyPost_ret (Iw.results_tmp (y := ⟨yp, yn, yc, yq, ym, yd, yz, yL⟩) (cells2_stored HZ5.out _ _) rfl _ rfl) rfl ?_
      refine ⟨_, by rw [HE.out]; rfl, HF5.out.stored HZ5.out.sl2 (stored2_keep _ _ _ _), by rw [HP.out]; exact HY5.out, (HB5.out.setCell (p := ⟨w.heap.size + 1, 0, none⟩) (Nat.le_succ _) _).setCell (p := ⟨w.heap.size + 1, 1, none⟩) (Nat.le_succ _) _⟩

set_option maxRecDepth 100000 in
set_option maxHeartbeats 2000000 in
theorem rcrash_ino (x : Ni) (r : Option Addr) (l e : Nat) (ch : List Int) (w : World) (h : Ni.fit w x) (ho : x.fi.ok) (hb : Bs w r l ch) (hr : r = none → e = 0) (hle : l ≤ e) (hl : l ≤ 2097152) :
    Calls Try.prog 19 #[x.v, .slice r l e] w fun e w' => ∃ (y : Ni) (p' : Option Addr) (n' c' : Nat), e = .returned (.tuple #[y.v, .slice p' n' c']) ∧ Ni.fit w' y ∧ y.fi = crashP x.fi ch ∧ Bs w' p' n' (restP x.fi ch) ∧ n' ≤ 2097152 ∧ Below w.heap.size w w' := by
  obtain ⟨hn, hm, hzl, hll⟩ := Ni.len h ho
  obtain ⟨p, n, c, q, m, d, zs, L⟩ := x
  have HF := Lib.hid h
  obtain ⟨wA, hA⟩ : ∃ A, (w.alloc (.cells #[.slice p n c, .slice q m d] 25)).alloc (.cells #[.slice none 0 0, .slice none 0 0] 25) = A := ⟨_, rfl⟩
  have HBA : Hid (Below w.heap.size w wA) := Lib.hid (by rw [← hA]; exact below_alloc' (below_alloc' (Below.refl _ _) _) _)
  have HI : Hid (Iw wA w.heap.size ⟨p, n, c, q, m, d, zs, L⟩) := Lib.hid (by rw [← hA]; exact Iw.later (heap_alloc_new _ _) (below_alloc' (Below.refl _ _) _))
  have HZ : Hid (Iw wA (w.heap.size + 1) ni0) := Lib.hid (by rw [← hA]; exact two_new _ _ _)
  have HFA := Lib.hid (HF.out.later HBA.out)
  have HSA := Lib.hid (hb.later HBA.out)
  have HNL : Hid (n ≤ 2097152) := Lib.hid hn
  have HM : Hid (m ≤ 1048576) := Lib.hid (Nat.le_succ_of_le hm)
  have hbl := hb.1
  have HCP : Hid (crashP (Ni.fi ⟨p, n, c, q, m, d, zs, L⟩) ch = ⟨surP zs (chs L) ch, []⟩) := Lib.hid rfl
  have HRE : Hid (restP (Ni.fi ⟨p, n, c, q, m, d, zs, L⟩) ch = ch.drop m) := Lib.hid (by unfold restP Ni.fi; rw [chs_length, hll])
  generalize hF : Ni.fi ⟨p, n, c, q, m, d, zs, L⟩ = F at *
  obtain ⟨i0, i1⟩ := HI.out.cells
  unfold Ni.v
  clear h ho hb hF hn hm hzl hll
  go_enter Try.func19, Try.ntmps19
  go_wp2_with fail
  clear hA
  refine (rsurvive_any p n c zs q m d L r l e ch _ HFA.out.1 HFA.out.2.1 HNL.out HFA.out.2.2.2.1 HM.out HSA.out hl).mono ?_
  rintro e4 w4 ⟨v4, rfl, ho4, hb4⟩
  obtain ⟨p4, c4, hv4, hlc4, _, hbs4, hpn4⟩ := ho4.open
  subst hv4
  have HB4 := Lib.hid (below_step HBA.out hb4)
  have HI4 := Lib.hid (HI.out.later hb4)
  have HZ4 := Lib.hid (HZ.out.later hb4)
  have HS4 := Lib.hid (HSA.out.later hb4)
  have HR4 := Lib.hid hbs4
  have HP4 := Lib.hid hpn4
  have HC4 := Lib.hid hlc4
  clear ho4 hb4 i0 i1 HI HZ hbs4 hpn4 hlc4
  generalize surP zs (chs L) ch = S at *
  obtain ⟨i0, i1⟩ := HI4.out.cells
  obtain ⟨z0, z1⟩ := HZ4.out.cells
  have f0 := HZ4.out.frozen 0
  have f1 := HZ4.out.frozen 1
  by_cases hlt : l < m
  · have HD : Hid (ch.drop m = []) := Lib.hid (List.drop_of_length_le (by omega))
    go_wp2
    refine bodyPost_ret (Iw.results_tmp (y := ⟨p4, S.length, c4, none, 0, 0, S, []⟩) (cells2_stored HZ4.out _ _) rfl _ rfl) rfl ?_
    exact ⟨_, _, _, _, rfl, ⟨HR4.out.stored HZ4.out.sl2 (stored2_keep _ _ _ _), HP4.out, HC4.out, ⟨rfl, by simp, Or.inl rfl⟩, fun _ => rfl, Nat.le_refl _⟩, HCP.out.symm, by rw [HRE.out, HD.out]; exact Bs.empty _ _, by omega, (HB4.out.setCell (p := ⟨w.heap.size + 1, 0, none⟩) (Nat.le_succ _) _).setCell (p := ⟨w.heap.size + 1, 1, none⟩) (Nat.le_succ _) _⟩
  · obtain ⟨p', hsl, hbs', hpn'⟩ := HS4.out.slice_from (P := Try.prog) 22 5 Try.underlying22 (fun _ => by kernel_rfl) e m hle (by omega)
    have HBS' := Lib.hid hbs'
    clear hbs' hpn'
    have hml : m ≤ l := by omega
    have hmi : (m : Int) ≤ (l : Int) := by omega
    go_wp2_with fail
    go_region
    go_wp2
    have HX := Lib.hid (below_drew' (Below.refl ((w4.setCell ⟨w.heap.size + 1, 0, none⟩ (.slice p4 S.length c4)).setCell ⟨w.heap.size + 1, 1, none⟩ (.slice none 0 0)).heap.size ((w4.setCell ⟨w.heap.size + 1, 0, none⟩ (.slice p4 S.length c4)).setCell ⟨w.heap.size + 1, 1, none⟩ (.slice none 0 0))))
    have HY : Hid (Iw ((w4.setCell ⟨w.heap.size + 1, 0, none⟩ (.slice p4 S.length c4)).setCell ⟨w.heap.size + 1, 1, none⟩ (.slice none 0 0)) (w.heap.size + 1) ⟨p4, S.length, c4, none, 0, 0, S, []⟩) := Lib.hid (cells2_stored HZ4.out _ _)
    refine bodyPost_ret (Iw.results_tmp (y := ⟨p4, S.length, c4, none, 0, 0, S, []⟩) (HY.out.later HX.out) rfl _ rfl) rfl ?_
    exact ⟨_, _, _, _, rfl, ⟨(HR4.out.stored HZ4.out.sl2 (stored2_keep _ _ _ _)).later HX.out, HP4.out, HC4.out, ⟨rfl, by simp, Or.inl rfl⟩, fun _ => rfl, Nat.le_refl _⟩, HCP.out.symm, by rw [HRE.out]; exact (HBS'.out.stored HZ4.out.sl2 (stored2_keep _ _ _ _)).later HX.out, by omega, below_step ((HB4.out.setCell (p := ⟨w.heap.size + 1, 0, none⟩) (Nat.le_succ _) _).setCell (p := ⟨w.heap.size + 1, 1, none⟩) (Nat.le_succ _) _) HX.out⟩
end Go.Proofs.Ytapobakolnlpmaa
