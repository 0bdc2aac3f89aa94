/- The statement InodeLasts, where what it reads is of bulk at most 1048576: for every file, all bytes that are appended and every choice it answers true and leaves its arguments as they were. -/
import Derived.Test.YtapobakolnlpmaaInoR
import Derived.Test.YtapobakolnlpmaaInoO
import Derived.Test.YtapobakolnlpmaaLaw
namespace Go.Proofs.Ytapobakolnlpmaa
set_option linter.unusedVariables false
open Go.RowKit Go.Lib Go.ChangeShapes Go.WideShapes Go.ChangeAt

theorem fi_bs {F : Fi} (h : F.b.length ≤ 1048576) : (nowP F).length ≤ 1048576 := nowP_le h
set_option maxRecDepth 100000 in
set_option maxHeartbeats 4000000 in
theorem inoLasts_walk (x : Ni) (r : Option Addr) (l e : Nat) (bs : List Int) (u : Option Addr) (k f : Nat) (ch : List Int) (w : World) (h : Ni.fit w x) (hx1 : x.fi.b.length ≤ 1048576) (hx2 : x.fi.l.length ≤ 262144) (hx3 : ∀ c ∈ x.fi.l, c.dat.length ≤ 1048576) (hb : Bs w r l bs) (hr : r = none → e = 0) (hle : l ≤ e) (hl : e ≤ 1048576)
    (hc : Bs w u k ch) (hu : u = none → f = 0) (hkf : k ≤ f) (hkl : f ≤ 1048576) :
    Calls Try.prog 5 #[x.v, .slice r l e, .slice u k f] w fun e w' => e = .returned (.bool true) ∧ Below w.heap.size w w' := by
  have ho : x.fi.ok := ⟨by omega, by omega, fun c hc => by have := hx3 c hc; omega⟩
  have hSO := syncP_ok ho
  have hNL := fi_bs hx1
  have hl2 : l ≤ 2097152 := by omega
  have hk2 : k ≤ 2097152 := by omega
  have HSY := Lib.hid fun W (h1 : Ni.fit W x) => isync_any x W h1 ho
  obtain ⟨p, n, c, q, m, d, zs, L⟩ := x
  have HF := Lib.hid h
  have HBS := Lib.hid hb
  have HCH := Lib.hid hc
  have hbl := hb.1
  generalize hF : Ni.fi ⟨p, n, c, q, m, d, zs, L⟩ = F at *
  obtain ⟨N, hN⟩ : ∃ N, nowP F = N := ⟨_, rfl⟩
  have hsy : syncP F = ⟨N, []⟩ := by unfold syncP; rw [hN]
  rw [hsy] at HSY hSO
  rw [hN] at hNL
  have HSO := Lib.hid hSO
  have HAO := Lib.hid (appendP_ok (b := bs) hSO (by omega) (by simp))
  have HCO := Lib.hid (crashP_ok ch HAO.out)
  have HCS : Hid (crashP ⟨N, []⟩ ch = ⟨N, []⟩) := Lib.hid (by unfold crashP; rw [surP_nil])
  have HNS : Hid (nowP ⟨N, []⟩ = N) := Lib.hid rfl
  obtain ⟨t, ht1, ht2, ht3⟩ := crash_append N bs ch
  have HGOT := Lib.hid ht3
  have HE0 : Hid (¬ 1048576 < N.length + bs.length → appendE ⟨N, []⟩ bs = 0 ∧ nowP (appendP ⟨N, []⟩ bs) = N ++ bs) := Lib.hid fun hh => ⟨by unfold appendE; rw [if_neg (by exact hh)], now_append N bs hh⟩
  have HE1 : Hid (1048576 < N.length + bs.length → appendE ⟨N, []⟩ bs = 18) := Lib.hid fun hh => by unfold appendE; rw [if_pos (by exact hh)]
  have HNL : Hid (N.length ≤ 1048576) := Lib.hid hNL
  have hall : (N ++ bs).length = N.length + l := by rw [List.length_append, hbl]
  clear h ho hx1 hx2 hx3 hb hc hF hN hsy hSO hNL
  unfold Ni.v at HSY ⊢
  dsimp only at HSY ⊢
  obtain ⟨wA, hA⟩ : ∃ A, w.alloc (.cells #[.slice p n c, .slice q m d] 25) = A := ⟨_, rfl⟩
  have HBA : Hid (Below w.heap.size w wA) := Lib.hid (by rw [← hA]; exact below_alloc' (Below.refl _ _) _)
  have HI : Hid (Iw wA w.heap.size ⟨p, n, c, q, m, d, zs, L⟩) := Lib.hid (by rw [← hA]; exact heap_alloc_new _ _)
  have HFA := Lib.hid (HF.out.later HBA.out)
  obtain ⟨i0, i1⟩ := HI.out.cells
  go_enter Try.func5, Try.ntmps5
  go_wp2_with fail
  clear hA i0 i1
  -- s := Sync(x)
  refine (HSY.out _ HFA.out).mono ?_
  rintro e2 w2 ⟨⟨sp, sn, sc, sq, sm, sd, sz, sL⟩, rfl, hf2, hy2, hb2⟩
  have HSF : Hid (Ni.fi ⟨sp, sn, sc, sq, sm, sd, sz, sL⟩ = ⟨N, []⟩) := Lib.hid hy2
  obtain ⟨w3, hw3⟩ : ∃ W, w2.alloc (.cells #[.slice sp sn sc, .slice sq sm sd] 25) = W := ⟨_, rfl⟩
  obtain ⟨G1, hG1⟩ : ∃ G, w2.heap.size = G := ⟨_, rfl⟩
  have hx3 : Below w2.heap.size w2 w3 := by rw [← hw3]; exact below_alloc' (Below.refl _ _) _
  have HB3 := Lib.hid (below_step HBA.out (below_step hb2 hx3))
  have HS3 : Hid (Ni.fit w3 ⟨sp, sn, sc, sq, sm, sd, sz, sL⟩) := Lib.hid (hf2.later hx3)
  have HG3 : Hid (Iw w3 G1 ⟨sp, sn, sc, sq, sm, sd, sz, sL⟩) := Lib.hid (by rw [← hw3, ← hG1]; exact heap_alloc_new _ _)
  have HSN : Hid (sn = N.length) := Lib.hid (by have h1 := hf2.1.1; have h2 : sz = N := congrArg Fi.b hy2; dsimp only at h1; rw [← h1, h2])
  clear hf2 hy2 hb2 hx3 HSY HBA HI HFA
  obtain ⟨i0, i1⟩ := HG3.out.cells
  have HC1 := Lib.hid (icrash_any _ u k f ch w3 HS3.out (by rw [HSF.out]; exact HSO.out) (HCH.out.later HB3.out) hu hkf hk2)
  rw [HSF.out, HCS.out] at HC1
  unfold Ni.v at HC1
  dsimp only at HC1
  go_wp2_with fail
  clear hw3 hG1 i0 i1
  -- y, _ := Crash(s, choice)
  refine HC1.out.mono ?_
  rintro e4 w4 ⟨⟨yp, yn, yc, yq, ym, yd, yz, yL⟩, v4, rfl, hf4, hy4, _, hb4⟩
  have HYF : Hid (Ni.fi ⟨yp, yn, yc, yq, ym, yd, yz, yL⟩ = ⟨N, []⟩) := Lib.hid hy4
  obtain ⟨w5, hw5⟩ : ∃ W, w4.alloc (.cells #[.slice yp yn yc, .slice yq ym yd] 25) = W := ⟨_, rfl⟩
  obtain ⟨G2, hG2⟩ : ∃ G, w4.heap.size = G := ⟨_, rfl⟩
  have hx5 : Below w4.heap.size w4 w5 := by rw [← hw5]; exact below_alloc' (Below.refl _ _) _
  have HX5 := Lib.hid (below_step hb4 hx5)
  have HB5 := Lib.hid (below_step HB3.out HX5.out)
  have HS5 := Lib.hid (HS3.out.later HX5.out)
  have HG5 := Lib.hid (HG3.out.later HX5.out)
  have HY5 : Hid (Ni.fit w5 ⟨yp, yn, yc, yq, ym, yd, yz, yL⟩) := Lib.hid (hf4.later hx5)
  have HH5 : Hid (Iw w5 G2 ⟨yp, yn, yc, yq, ym, yd, yz, yL⟩) := Lib.hid (by rw [← hw5, ← hG2]; exact heap_alloc_new _ _)
  clear hf4 hy4 hb4 hx5 HC1 HS3 HG3 HB3 HX5
  obtain ⟨i0, i1⟩ := HG5.out.cells
  have HC2 := Lib.hid (iappend_any _ r l e bs w5 HS5.out (by rw [HSF.out]; exact HSO.out) (HBS.out.later HB5.out) hr hle hl2)
  rw [HSF.out] at HC2
  unfold Ni.v at HC2
  dsimp only at HC2
  obtain ⟨ee, hee⟩ : ∃ z, appendE ⟨N, []⟩ bs = z := ⟨_, rfl⟩
  rw [hee] at HC2 HE0 HE1
  clear hee
  go_wp2_with fail
  clear hw5 hG2 i0 i1
  -- z, e := Append(s, b)
  refine HC2.out.mono ?_
  rintro e6 w6 ⟨⟨zp, zn, zc, zq, zm, zd, zz, zL⟩, rfl, hf6, hy6, hb6⟩
  have HZF : Hid (Ni.fi ⟨zp, zn, zc, zq, zm, zd, zz, zL⟩ = appendP ⟨N, []⟩ bs) := Lib.hid hy6
  obtain ⟨w7, hw7⟩ : ∃ W, w6.alloc (.cells #[.slice zp zn zc, .slice zq zm zd] 25) = W := ⟨_, rfl⟩
  obtain ⟨G3, hG3⟩ : ∃ G, w6.heap.size = G := ⟨_, rfl⟩
  have hx7 : Below w6.heap.size w6 w7 := by rw [← hw7]; exact below_alloc' (Below.refl _ _) _
  have HX7 := Lib.hid (below_step hb6 hx7)
  have HB7 := Lib.hid (below_step HB5.out HX7.out)
  have HS7 := Lib.hid (HS5.out.later HX7.out)
  have HG7 := Lib.hid (HG5.out.later HX7.out)
  have HY7 := Lib.hid (HY5.out.later HX7.out)
  have HH7 := Lib.hid (HH5.out.later HX7.out)
  have HZ7 : Hid (Ni.fit w7 ⟨zp, zn, zc, zq, zm, zd, zz, zL⟩) := Lib.hid (hf6.later hx7)
  have HJ7 : Hid (Iw w7 G3 ⟨zp, zn, zc, zq, zm, zd, zz, zL⟩) := Lib.hid (by rw [← hw7, ← hG3]; exact heap_alloc_new _ _)
  clear hf6 hy6 hb6 hx7 HC2 HS5 HG5 HY5 HH5 HB5 HX7
  obtain ⟨i0, i1⟩ := HJ7.out.cells
  have HC3 := Lib.hid (icrash_any _ u k f ch w7 HZ7.out (by rw [HZF.out]; exact HAO.out) (HCH.out.later HB7.out) hu hkf hk2)
  rw [HZF.out] at HC3
  unfold Ni.v at HC3
  dsimp only at HC3
  go_wp2_with fail
  clear hw7 hG3 i0 i1
  -- c, _ := Crash(z, choice)
  refine HC3.out.mono ?_
  rintro e8 w8 ⟨⟨cp, cn, cc, cq, cm, cd, cz, cL⟩, v8, rfl, hf8, hy8, _, hb8⟩
  have HCF : Hid (Ni.fi ⟨cp, cn, cc, cq, cm, cd, cz, cL⟩ = crashP (appendP ⟨N, []⟩ bs) ch) := Lib.hid hy8
  obtain ⟨w9, hw9⟩ : ∃ W, w8.alloc (.cells #[.slice cp cn cc, .slice cq cm cd] 25) = W := ⟨_, rfl⟩
  obtain ⟨G4, hG4⟩ : ∃ G, w8.heap.size = G := ⟨_, rfl⟩
  have hx9 : Below w8.heap.size w8 w9 := by rw [← hw9]; exact below_alloc' (Below.refl _ _) _
  have HX9 := Lib.hid (below_step hb8 hx9)
  have HB9 := Lib.hid (below_step HB7.out HX9.out)
  have HS9 := Lib.hid (HS7.out.later HX9.out)
  have HG9 := Lib.hid (HG7.out.later HX9.out)
  have HY9 := Lib.hid (HY7.out.later HX9.out)
  have HH9 := Lib.hid (HH7.out.later HX9.out)
  have HZ9 := Lib.hid (HZ7.out.later HX9.out)
  have HJ9 := Lib.hid (HJ7.out.later HX9.out)
  have HC9 : Hid (Ni.fit w9 ⟨cp, cn, cc, cq, cm, cd, cz, cL⟩) := Lib.hid (hf8.later hx9)
  have HK9 : Hid (Iw w9 G4 ⟨cp, cn, cc, cq, cm, cd, cz, cL⟩) := Lib.hid (by rw [← hw9, ← hG4]; exact heap_alloc_new _ _)
  clear hf8 hy8 hb8 hx9 HC3 HS7 HG7 HY7 HH7 HB7 HX9 HZ7 HJ7
  -- all := append(append([]byte{}, Now(s)...), b...)
  have HXE : Hid (Below w9.heap.size w9 (w9.alloc (.cells #[] 5))) := Lib.hid (below_alloc' (Below.refl _ _) _)
  obtain ⟨i0, i1⟩ := (HG9.out.later HXE.out).cells
  have HOE := Lib.hid (ob_lit w9 5 #[] [] 0 rfl (by simp) (fun j => by simp) rfl)
  have HNW := Lib.hid (inow_any _ _ (HS9.out.later HXE.out) (by rw [HSF.out]; exact HSO.out))
  rw [HSF.out, HNS.out] at HNW
  unfold Ni.v at HNW
  dsimp only at HNW
  go_wp2_with fail
  clear hw9 hG4 i0 i1
  refine HNW.out.mono ?_
  rintro e10 w10 ⟨v10, rfl, ho10, hb10⟩
  obtain ⟨p10, c10, hv10, _, _, hbs10, hpn10⟩ := ho10.open
  subst hv10
  have HN10 := Lib.hid hbs10
  have HP10 := Lib.hid hpn10
  have HO10 := Lib.hid (HOE.out.later hb10)
  have HX10 := Lib.hid (below_step HXE.out hb10)
  have HSZ : Hid (w9.heap.size ≤ w10.heap.size) := Lib.hid HX10.out.size
  clear ho10 hb10 hbs10 hpn10 HNW HOE HXE
  have HZL1 : Hid (([] : List Int).length + N.length ≤ 140737488355328) := Lib.hid (by have := HNL.out; simp; omega)
  have HZL2 : Hid (([] ++ N : List Int).length + l ≤ 140737488355328) := Lib.hid (by have := HNL.out; simp; omega)
  have HB10 := Lib.hid (below_step HB9.out HX10.out)
  have HS10 := Lib.hid (HBS.out.later HB10.out)
  go_wp2_with (first
    | (refine wpList_append_bytes rfl (.tmp 36) (.tmp 38) 22 5 rfl Try.underlying22 info8 w9.heap.size _ [] rfl HO10.out p10 N.length c10 N rfl HN10.out HP10.out HZL1.out HSZ.out ?_; intro v11 w11 hob11 hg11; have HO11 := Lib.hid hob11; have HX11 := Lib.hid (below_new HX10.out HO10.out hg11 HSZ.out); have HS11 := Lib.hid (HBS.out.later (below_step HB9.out HX11.out)); have HSZ1 : Hid (w9.heap.size ≤ w11.heap.size) := Lib.hid HX11.out.size; clear hob11 hg11)
    | (refine wpList_append_bytes rfl (.tmp 39) (.tmp 40) 22 5 rfl Try.underlying22 info8 w9.heap.size _ ([] ++ N) rfl HO11.out r l e bs rfl HS11.out hr HZL2.out HSZ1.out ?_; intro v12 w12 hob12 hg12; have HO12 := Lib.hid hob12; have HX12 := Lib.hid (below_new HX11.out HO11.out hg12 HSZ1.out); obtain ⟨i0, i1⟩ := (HK9.out.later HX12.out).cells; obtain ⟨p12, c12, hv12, hlc12, _, hbs12, hpn12⟩ := hob12.open; rw [List.nil_append, hall] at hv12 hlc12 hbs12; subst hv12; have HA12 := Lib.hid hbs12; have HP12 := Lib.hid hpn12; have HL12 := Lib.hid hlc12; clear hob12 hg12 hbs12 hpn12 hlc12)
    | fail)
  -- got := Now(c)
  have HCX := Lib.hid (HC9.out.later HX12.out)
  have HNC := Lib.hid (inow_any _ _ HCX.out (by rw [HCF.out]; exact HCO.out))
  rw [HCF.out, HGOT.out] at HNC
  unfold Ni.v at HNC
  dsimp only at HNC
  refine HNC.out.mono ?_
  rintro e13 w13 ⟨v13, rfl, ho13, hb13⟩
  obtain ⟨p13, c13, hv13, _, _, hbs13, hpn13⟩ := ho13.open
  have hgl : ((N ++ bs).take t).length = t := by rw [List.length_take]; omega
  rw [hgl] at hv13 hbs13
  subst hv13
  have HGT := Lib.hid hbs13
  have HQ0 := Lib.hid hb13
  have HX13 := Lib.hid (below_step HX12.out hb13)
  clear ho13 hb13 hbs13 hpn13 i0 i1 HNC HCX
  have HSM := Lib.hid (rsame_ino _ _ w13 (HY9.out.later HX13.out) (HS9.out.later HX13.out) (by rw [HYF.out]; exact HSO.out) (HSF.out.trans HYF.out.symm))
  unfold Ni.v at HSM
  dsimp only at HSM
  obtain ⟨i0, i1⟩ := (HG9.out.later HX13.out).cells
  obtain ⟨j0, j1⟩ := (HH9.out.later HX13.out).cells
  go_wp2_with fail
  refine HSM.out.mono ?_
  rintro e14 w14 ⟨rfl, hb14⟩
  have HQ1 := Lib.hid hb14
  have HX14 := Lib.hid (below_step HX13.out hb14)
  clear hb14 i0 i1 j0 j1 HSM
  by_cases hbig : 1048576 < N.length + bs.length
  · obtain rfl : ee = 18 := HE1.out hbig
    clear hbig HE0 HE1
    have HB20 := HX14
    have HQ2 := HQ1
    have HQ := Lib.hid (below_step HQ0.out HQ1.out)
    obtain ⟨w20, hw20⟩ : ∃ W, w14 = W := ⟨_, rfl⟩
    subst hw20
    have HGN : Hid (N.length ≤ t ∧ t ≤ N.length + l) := Lib.hid ⟨ht2, by rw [← hall]; exact ht1⟩
    have hg1 : decide ((t : Int) ≥ (N.length : Int)) = true := by have := HGN.out; simp; omega
    have hg2 : decide ((t : Int) ≤ ((N.length + l : Nat) : Int)) = true := by have := HGN.out; simp; omega
    obtain ⟨pp, hsl, hbs', _⟩ := (HA12.out.later HQ.out).slice_to (P := Try.prog) 22 5 Try.underlying22 (fun _ => by kernel_rfl) c12 t HL12.out HGN.out.2
    have HBS' := Lib.hid hbs'
    have HTM : Hid (t ≤ maxLen) := Lib.hid (by have h1 := HGN.out.2; have h2 := HNL.out; unfold maxLen; omega)
    clear hbs'
    obtain ⟨g0, g1⟩ := (HG9.out.later HB20.out).cells
    rw [HSN.out] at g0
    generalize N.length = nl at *
    go_wp2_with fail
    refine (same_any p13 pp t t c13 c12 _ _ _ HTM.out HTM.out (HGT.out.later HQ2.out) HBS'.out).mono ?_
    rintro e21 w21 ⟨rfl, nq3, rfl⟩
    rw [decide_eq_true rfl]
    have HB21 := Lib.hid (below_drewN HB20.out nq3)
    generalize w14.drewN nq3 = w21 at *
    go_wp2_with fail
    refine (ilives_any _).mono ?_
    rintro e22 w22 ⟨rfl, hb22⟩
    have HB22 := Lib.hid (below_step HB9.out (below_step HB21.out hb22))
    clear hb22
    go_wp2
    go_ret
    exact ⟨rfl, HB22.out⟩
  · obtain ⟨he0, hna⟩ := HE0.out hbig
    subst he0
    have HNA := Lib.hid hna
    clear hbig HE0 HE1 hna
    have HZ14 := Lib.hid (HZ9.out.later HX14.out)
    have HNZ := Lib.hid (inow_any _ _ HZ14.out (by rw [HZF.out]; exact HAO.out))
    rw [HZF.out, HNA.out] at HNZ
    unfold Ni.v at HNZ
    dsimp only at HNZ
    obtain ⟨i0, i1⟩ := (HJ9.out.later HX14.out).cells
    go_wp2_with fail
    refine HNZ.out.mono ?_
    rintro e15 w15 ⟨v15, rfl, ho15, hb15⟩
    obtain ⟨p15, c15, hv15, _, _, hbs15, hpn15⟩ := ho15.open
    rw [hall] at hv15 hbs15
    subst hv15
    have HT15 := Lib.hid hbs15
    have HQ3 := Lib.hid hb15
    have HX15 := Lib.hid (below_step HX14.out hb15)
    have HAM : Hid (N.length + l ≤ maxLen) := Lib.hid (by have h2 := HNL.out; unfold maxLen; omega)
    have HA15 := Lib.hid (HA12.out.later (below_step (below_step HQ0.out HQ1.out) HQ3.out))
    clear ho15 hb15 hbs15 hpn15 i0 i1 HNZ
    go_wp2_with fail
    refine (same_any p15 p12 _ _ c15 c12 (N ++ bs) (N ++ bs) _ HAM.out HAM.out HT15.out HA15.out).mono ?_
    rintro e20 w20 ⟨rfl, nq, rfl⟩
    rw [decide_eq_true (rfl : N ++ bs = N ++ bs)]
    have HB20 := Lib.hid (below_drewN HX15.out nq)
    have HQ4 := Lib.hid (below_drewN (Below.refl w15.heap.size w15) nq)
    have HQ2 := Lib.hid (below_step (below_step HQ1.out HQ3.out) HQ4.out)
    have HQ := Lib.hid (below_step HQ0.out HQ2.out)
    clear HQ4 HT15 HA15
    generalize w15.drewN nq = w20 at *
    have HGN : Hid (N.length ≤ t ∧ t ≤ N.length + l) := Lib.hid ⟨ht2, by rw [← hall]; exact ht1⟩
    have hg1 : decide ((t : Int) ≥ (N.length : Int)) = true := by have := HGN.out; simp; omega
    have hg2 : decide ((t : Int) ≤ ((N.length + l : Nat) : Int)) = true := by have := HGN.out; simp; omega
    obtain ⟨pp, hsl, hbs', _⟩ := (HA12.out.later HQ.out).slice_to (P := Try.prog) 22 5 Try.underlying22 (fun _ => by kernel_rfl) c12 t HL12.out HGN.out.2
    have HBS' := Lib.hid hbs'
    have HTM : Hid (t ≤ maxLen) := Lib.hid (by have h1 := HGN.out.2; have h2 := HNL.out; unfold maxLen; omega)
    clear hbs'
    obtain ⟨g0, g1⟩ := (HG9.out.later HB20.out).cells
    rw [HSN.out] at g0
    generalize N.length = nl at *
    go_wp2_with fail
    refine (same_any p13 pp t t c13 c12 _ _ _ HTM.out HTM.out (HGT.out.later HQ2.out) HBS'.out).mono ?_
    rintro e21 w21 ⟨rfl, nq3, rfl⟩
    rw [decide_eq_true rfl]
    have HB21 := Lib.hid (below_drewN HB20.out nq3)
    generalize w20.drewN nq3 = w21 at *
    go_wp2_with fail
    refine (ilives_any _).mono ?_
    rintro e22 w22 ⟨rfl, hb22⟩
    have HB22 := Lib.hid (below_step HB9.out (below_step HB21.out hb22))
    clear hb22
    go_wp2
    go_ret
    exact ⟨rfl, HB22.out⟩
theorem inodeLasts_contract (H : Type) (enc : TypeId × Value → H) (W : World) (base : Nat) (args : Array Value) (ds gs : List (DataW H)) (before : List MemPlace)
    (hval : ∀ (j : Nat) t v, Try.f5.params[j]? = some t → args[j]? = some v → Value.okWide Try.prog W .any base t v)
    (hW : DataW.Whole enc Try.prog Try.f5.params.toList Rows.inodeLastsSpec.vars false W args.toList ds gs before) (hk : Rows.uptoSmall H (ds ++ gs) = true) :
    Calls Try.prog 5 args W fun e W' => ∃ v, e = .returned v ∧ Rows.inodeLastsSpec.post enc Try.prog Try.f5 false true false false W args v W' := by
  have hW' := hW
  obtain ⟨p, q, hA0, hV, rfl, hfz, hnd⟩ := hW
  have hA : DataW.TrodAll enc Try.prog W 0 (fun _ => true) true Try.f5.params.toList args.toList ds p := hA0
  rw [Try.params5] at hA hval
  obtain ⟨v0, vs0, d0, ds0, p0, q0, hargs, rfl, rfl, t0, r0⟩ := trodAll_cons hA
  obtain ⟨v1, vs1, d1, ds1, p1, q1, rfl, rfl, rfl, t1, r1⟩ := trodAll_cons r0
  obtain ⟨v2, vs2, d2, ds2, p2, q2, rfl, rfl, rfl, t2, r2⟩ := trodAll_cons r1
  obtain ⟨rfl, rfl, rfl⟩ := trodAll_nil r2
  obtain rfl : args = #[v0, v1, v2] := by cases args; simp_all
  obtain ⟨rfl, rfl⟩ := trodVars_none hV
  have hk0 := of_decide_eq_true hk
  simp only [Rows.uptoBulkAll, List.append_nil] at hk0
  obtain ⟨x0, rfl, hf0, hxa0, hxb0, hxc0⟩ := open_ino (hval 0 25 v0 rfl rfl) t0 (by omega)
  obtain ⟨a1, len1, cap1, rfl⟩ := okWide_slice Try.underlying22 (hval 1 22 v1 rfl rfl)
  obtain ⟨fuel1, t1⟩ := t1
  obtain ⟨hlc1, hcm1, hpc1, hb1, zs1, hbs1⟩ := open_bs Try.underlying22 Try.underlying5 (by kernel_rfl) t1
  obtain ⟨a2, len2, cap2, rfl⟩ := okWide_slice Try.underlying22 (hval 2 22 v2 rfl rfl)
  obtain ⟨fuel2, t2⟩ := t2
  obtain ⟨hlc2, hcm2, hpc2, hb2, zs2, hbs2⟩ := open_bs Try.underlying22 Try.underlying5 (by kernel_rfl) t2
  have hk' := of_decide_eq_true hk
  simp only [Rows.uptoBulkAll, List.append_nil, hb1, hb2] at hk'
  refine (inoLasts_walk  x0 a1 len1 cap1 zs1 a2 len2 cap2 zs2 W hf0 hxa0 hxb0 hxc0 hbs1 hpc1 hlc1 (by omega) hbs2 hpc2 hlc2 (by omega)).mono fun e W' ⟨he, hb⟩ => ?_
  subst he
  exact ⟨_, rfl, law_post laidOut (by kernel_rfl) rfl Try.underlying4 rfl hW' rfl rfl rfl hb⟩

set_option maxRecDepth 100000 in
theorem inodeLasts_lifted (os : Os) (started : os.Started) (H : Type) (enc : TypeId × Value → H) (F : Stop.Interp) :
    ReturnsInHanded {} Try.checked os 5 .any ((Rows.OpenSpec.upto Rows.inodeLastsSpec).pre6 enc Try.prog Try.f5 Rows.inodeLastsUptoRow.domain false) (((Rows.OpenSpec.upto Rows.inodeLastsSpec).at F).post enc Try.prog Try.f5 false true false false) := by
  refine returnsInHanded_of_cond (C := Try.checked) (s := Rows.OpenSpec.upto Rows.inodeLastsSpec) (k := Rows.uptoSmall) rfl own started (by kernel_rfl) Try.func5
    (OpenSpec.witness (enc := enc) (C := Try.checked) (s := Rows.OpenSpec.upto Rows.inodeLastsSpec) (k := Rows.uptoSmall) rfl false ⟨#[], #[.agg #[.slice none 0 0, .slice none 0 0], .slice none 0 0, .slice none 0 0], []⟩ 8 (by kernel_rfl) (by kernel_rfl) (by kernel_rfl)
      (x := ([.agg [.nil, .nil], .nil, .nil], [], [])) (by kernel_rfl) rfl (by kernel_rfl)) ?_
  intro W base args ds gs before hval hW _ hk _
  exact inodeLasts_contract H enc W base args ds gs before hval hW hk

theorem inodeLastsUpto_holds : Rows.InodeLastsUptoSaid :=
  OpenClaim.holds_of_cond 5 Try.f5 rfl rfl rfl rfl rfl rfl rfl ⟨rfl, rfl, rfl, rfl, rfl⟩ rfl rfl rfl rfl rfl (by kernel_rfl) Try.func5 (by kernel_rfl)
    (of_decide_eq_true (by kernel_rfl)) (by unfold Func.isWrapper; first | (rw [if_pos (by decide +kernel)]; kernel_rfl) | (rw [if_neg (by decide +kernel)]; exact ⟨rfl, rfl⟩))
    (fun os started H enc _ F => inodeLasts_lifted os started H enc F)
end Go.Proofs.Ytapobakolnlpmaa
