/- The statement InodeDoes, where what it reads is of bulk at most 1048576: for every file, all bytes and every number it answers true and leaves its arguments as they were. -/
import Derived.Test.YtapobakolnlpmaaInoR
import Derived.Test.YtapobakolnlpmaaInoO
import Derived.Test.YtapobakolnlpmaaLaw
namespace Go.Proofs.Ytapobakolnlpmaa
set_option linter.unusedVariables false
open Go.RowKit Go.Lib Go.ChangeShapes Go.WideShapes Go.ChangeAt

theorem Iw.other {w w' : World} {g : Nat} {x : Ni} (h : Iw w g x) (e : w'.heap[g]? = w.heap[g]?) : Iw w' g x := by unfold Iw; rw [e]; exact h

set_option maxRecDepth 100000 in
set_option maxHeartbeats 4000000 in
theorem inoDoes_walk (x : Ni) (r : Option Addr) (l e : Nat) (bs : List Int) (k : Int) (w : World) (h : Ni.fit w x) (hx1 : x.fi.b.length ≤ 1048576) (hx2 : x.fi.l.length ≤ 262144) (hx3 : ∀ c ∈ x.fi.l, c.dat.length ≤ 1048576) (hb : Bs w r l bs) (hr : r = none → e = 0) (hle : l ≤ e) (hl : e ≤ 1048576) (hk : InI64 k) :
    Calls Try.prog 3 #[x.v, .slice r l e, .int .i64 k] w fun e w' => e = .returned (.bool true) ∧ Below w.heap.size w w' := by
  have ho : x.fi.ok := ⟨by omega, by omega, fun c hc => by have := hx3 c hc; omega⟩
  have hl2 : l ≤ 2097152 := by omega
  have hem : e ≤ maxLen := by unfold maxLen; omega
  have HAO := Lib.hid (appendP_ok (b := bs) ho (by rw [hb.1]; omega) (by omega))
  have HCO := Lib.hid (cutP_ok (n := k) ho (by omega))
  have HSO := Lib.hid (syncP_ok ho)
  have HNL : Hid ((nowP x.fi).length ≤ 2097152) := Lib.hid (nowP_bound ho)
  have HA1 := Lib.hid fun W (h1 : Ni.fit W x) (h2 : Bs W r l bs) => iappend_any x r l e bs W h1 ho h2 hr hle hl2
  have HA2 := Lib.hid fun W (h1 : Ni.fit W x) (h2 : Bs W r l bs) => rappend_ino x r l e bs W h1 ho h2 hr hle hem hl2
  have HC1 := Lib.hid fun W (h1 : Ni.fit W x) => icut_any x k W h1 ho hk
  have HC2 := Lib.hid fun W (h1 : Ni.fit W x) => rcut_ino x k W h1 ho hk
  have HN1 := Lib.hid fun W (h1 : Ni.fit W x) => rnow_any x W h1 ho
  have HN2 := Lib.hid fun W (h1 : Ni.fit W x) => inow_any x W h1 ho
  have HSY := Lib.hid fun W (h1 : Ni.fit W x) => isync_any x W h1 ho
  have HR1 := Lib.hid fun W (h1 : Ni.fit W x) => iroom_any x W h1 ho
  obtain ⟨hn, hm, hzl, hll⟩ := Ni.len h ho
  have HR2 := Lib.hid fun W (h1 : Ni.fit W x) => rpeak_any (x.n : Int) x.q x.m x.d x.L W h1.2.2.2.1 (Nat.le_succ_of_le hm)
  rw [show peakP (x.n : Int) (chs x.L) = roomP x.fi by unfold roomP Ni.fi; rw [hzl]] at HR2
  obtain ⟨p, n, c, q, m, d, zs, L⟩ := x
  have HF := Lib.hid h
  have HS := Lib.hid hb
  generalize hF : Ni.fi ⟨p, n, c, q, m, d, zs, L⟩ = F at *
  generalize roomP F = rm at *
  have HSF : Hid (syncP F = ⟨nowP F, []⟩) := Lib.hid rfl
  generalize nowP F = N at *
  generalize hee : appendE F bs = ea at *
  generalize hec : cutE F k = ec at *
  generalize appendP F bs = FA at *
  generalize cutP F k = FC at *
  have e1 : (ea != ea) = false := by simp
  have e2 : (ec != ec) = false := by simp
  clear h ho hx1 hx2 hx3 hb hF hk hee hec hn hm hzl hll
  unfold Ni.v at HA1 HA2 HC1 HC2 HN2 HSY HR1 ⊢
  dsimp only at HA1 HA2 HC1 HC2 HN1 HN2 HSY HR1 HR2 ⊢
  obtain ⟨wA, hA⟩ : ∃ A, w.alloc (.cells #[.slice p n c, .slice q m d] 25) = A := ⟨_, rfl⟩
  have HBA : Hid (Below w.heap.size w wA) := Lib.hid (by rw [← hA]; exact below_alloc' (Below.refl _ _) _)
  have HI : Hid (Iw wA w.heap.size ⟨p, n, c, q, m, d, zs, L⟩) := Lib.hid (by rw [← hA]; exact heap_alloc_new _ _)
  have HLT : Hid (w.heap.size < wA.heap.size) := Lib.hid HI.out.lt
  have HFA := Lib.hid (HF.out.later HBA.out)
  have HSA := Lib.hid (HS.out.later HBA.out)
  obtain ⟨i0, i1⟩ := HI.out.cells
  go_enter Try.func3, Try.ntmps3
  go_wp2_with fail
  clear hA i0 i1
  refine (HA1.out _ HFA.out HSA.out).mono ?_
  rintro e2' w2 ⟨⟨yp, yn, yc, yq, ym, yd, yz, yL⟩, rfl, hf2, hy2, hb2⟩
  have HYF : Hid (Ni.fi ⟨yp, yn, yc, yq, ym, yd, yz, yL⟩ = FA) := Lib.hid hy2
  obtain ⟨w3, hw3⟩ : ∃ W, w2.alloc (.cells #[.slice yp yn yc, .slice yq ym yd] 25) = W := ⟨_, rfl⟩
  obtain ⟨G1, hG1⟩ : ∃ G, w2.heap.size = G := ⟨_, rfl⟩
  have hx3 : Below w2.heap.size w2 w3 := by rw [← hw3]; exact below_alloc' (Below.refl _ _) _
  have HX3 := Lib.hid (below_step hb2 hx3)
  have HY3 : Hid (Ni.fit w3 ⟨yp, yn, yc, yq, ym, yd, yz, yL⟩) := Lib.hid (hf2.later hx3)
  have HG3 : Hid (Iw w3 G1 ⟨yp, yn, yc, yq, ym, yd, yz, yL⟩) := Lib.hid (by rw [← hw3, ← hG1]; exact heap_alloc_new _ _)
  have HG1 : Hid (wA.heap.size ≤ G1) := Lib.hid (by rw [← hG1]; exact hb2.size)
  clear hf2 hy2 hb2 hx3 HA1
  obtain ⟨i0, i1⟩ := (HI.out.later HX3.out).cells
  go_wp2_with fail
  clear hw3 hG1 i0 i1
  refine (HA2.out _ (HFA.out.later HX3.out) (HSA.out.later HX3.out)).mono ?_
  rintro e4 w4 ⟨⟨zp, zn, zc, zq, zm, zd, zz, zL⟩, rfl, hf4, hy4, hb4⟩
  have HZF : Hid (Ni.fi ⟨zp, zn, zc, zq, zm, zd, zz, zL⟩ = FA) := Lib.hid hy4
  obtain ⟨w5, hw5⟩ : ∃ W, w4.alloc (.cells #[.slice zp zn zc, .slice zq zm zd] 25) = W := ⟨_, rfl⟩
  obtain ⟨G2, hG2⟩ : ∃ G, w4.heap.size = G := ⟨_, rfl⟩
  have hx5 : Below w4.heap.size w4 w5 := by rw [← hw5]; exact below_alloc' (Below.refl _ _) _
  have HQ5 := Lib.hid (below_step hb4 hx5)
  have HX5 := Lib.hid (below_step HX3.out HQ5.out)
  have HY5 := Lib.hid (HY3.out.later HQ5.out)
  have HG5 := Lib.hid (HG3.out.later HQ5.out)
  have HZ5 : Hid (Ni.fit w5 ⟨zp, zn, zc, zq, zm, zd, zz, zL⟩) := Lib.hid (hf4.later hx5)
  have HH5 : Hid (Iw w5 G2 ⟨zp, zn, zc, zq, zm, zd, zz, zL⟩) := Lib.hid (by rw [← hw5, ← hG2]; exact heap_alloc_new _ _)
  have HG2 : Hid (G1 < G2) := Lib.hid (by have h1 := HG3.out.lt; have h2 := hb4.size; omega)
  clear hf4 hy4 hb4 hx5 HA2 HY3 HG3 HX3
  obtain ⟨j0, j1⟩ := HG5.out.cells
  obtain ⟨k0, k1⟩ := HH5.out.cells
  have HSM := Lib.hid (rsame_ino _ _ w5 HY5.out HZ5.out (by rw [HYF.out]; exact HAO.out) (HZF.out.trans HYF.out.symm))
  unfold Ni.v at HSM
  dsimp only at HSM
  go_wp2_with fail
  clear hw5 hG2 j0 j1 k0 k1
  refine HSM.out.mono ?_
  rintro e6 w6 ⟨rfl, hb6⟩
  have HX6 := Lib.hid (below_step HX5.out hb6)
  have HG6 := Lib.hid (HG5.out.later hb6)
  have HH6 := Lib.hid (HH5.out.later hb6)
  clear hb6 HSM HY5 HG5 HZ5 HH5 HX5 HQ5 HYF HZF
  obtain ⟨i0, i1⟩ := (HI.out.later HX6.out).cells
  go_wp2_with fail
  clear i0 i1
  refine (HC1.out _ (HFA.out.later HX6.out)).mono ?_
  rintro e7 w7 ⟨⟨up, un, uc, uq, um, ud, uz, uL⟩, rfl, hf7, hy7, hb7⟩
  have HUF : Hid (Ni.fi ⟨up, un, uc, uq, um, ud, uz, uL⟩ = FC) := Lib.hid hy7
  have HX7 := Lib.hid (below_step HX6.out hb7)
  have HG7 := Lib.hid (HG6.out.later hb7)
  have HH7 := Lib.hid (HH6.out.later hb7)
  obtain ⟨j0, j1⟩ := HG7.out.cells
  have f0 := HG7.out.frozen 0
  have f1 := HG7.out.frozen 1
  obtain ⟨w8, hw8⟩ : ∃ W, (w7.setCell ⟨G1, 0, none⟩ (.slice up un uc)).setCell ⟨G1, 1, none⟩ (.slice uq um ud) = W := ⟨_, rfl⟩
  have HX8 : Hid (Below wA.heap.size wA w8) := Lib.hid (by rw [← hw8]; exact (HX7.out.setCell (p := ⟨G1, 0, none⟩) HG1.out _).setCell (p := ⟨G1, 1, none⟩) HG1.out _)
  have HU8 : Hid (Ni.fit w8 ⟨up, un, uc, uq, um, ud, uz, uL⟩) := Lib.hid (by rw [← hw8]; exact Ni.fit.stored HG7.out.sl2 (stored2_keep _ _ _ _) hf7)
  have HG8 : Hid (Iw w8 G1 ⟨up, un, uc, uq, um, ud, uz, uL⟩) := Lib.hid (by rw [← hw8]; exact cells2_stored HG7.out _ _)
  have HH8 : Hid (Iw w8 G2 ⟨zp, zn, zc, zq, zm, zd, zz, zL⟩) := Lib.hid (HH7.out.other (by rw [← hw8]; exact stored2_keep _ _ _ _ _ (by have := HG2.out; omega)))
  clear hf7 hy7 hb7 HC1 HG6 HH6 HX6 HG7 HH7 HX7
  obtain ⟨i0, i1⟩ := (HI.out.later HX8.out).cells
  go_wp2_with fail
  clear hw8 i0 i1 j0 j1 f0 f1
  refine (HC2.out _ (HFA.out.later HX8.out)).mono ?_
  rintro e9 w9 ⟨⟨tp, tn, tc, tq, tm, td, tz, tL⟩, rfl, hf9, hy9, hb9⟩
  have HTF : Hid (Ni.fi ⟨tp, tn, tc, tq, tm, td, tz, tL⟩ = FC) := Lib.hid hy9
  have HX9 := Lib.hid (below_step HX8.out hb9)
  have HG9 := Lib.hid (HG8.out.later hb9)
  have HH9 := Lib.hid (HH8.out.later hb9)
  have HU9 := Lib.hid (HU8.out.later hb9)
  obtain ⟨j0, j1⟩ := HH9.out.cells
  have f0 := HH9.out.frozen 0
  have f1 := HH9.out.frozen 1
  obtain ⟨w10, hw10⟩ : ∃ W, (w9.setCell ⟨G2, 0, none⟩ (.slice tp tn tc)).setCell ⟨G2, 1, none⟩ (.slice tq tm td) = W := ⟨_, rfl⟩
  have HX10 : Hid (Below wA.heap.size wA w10) := Lib.hid (by
    have hg : wA.heap.size ≤ G2 := by have h1 := HG1.out; have h2 := HG2.out; omega
    rw [← hw10]; exact (HX9.out.setCell (p := ⟨G2, 0, none⟩) hg _).setCell (p := ⟨G2, 1, none⟩) hg _)
  have HU10 : Hid (Ni.fit w10 ⟨up, un, uc, uq, um, ud, uz, uL⟩) := Lib.hid (by rw [← hw10]; exact Ni.fit.stored HH9.out.sl2 (stored2_keep _ _ _ _) HU9.out)
  have HT10 : Hid (Ni.fit w10 ⟨tp, tn, tc, tq, tm, td, tz, tL⟩) := Lib.hid (by rw [← hw10]; exact Ni.fit.stored HH9.out.sl2 (stored2_keep _ _ _ _) hf9)
  have HH10 : Hid (Iw w10 G2 ⟨tp, tn, tc, tq, tm, td, tz, tL⟩) := Lib.hid (by rw [← hw10]; exact cells2_stored HH9.out _ _)
  have HG10 : Hid (Iw w10 G1 ⟨up, un, uc, uq, um, ud, uz, uL⟩) := Lib.hid (HG9.out.other (by rw [← hw10]; exact stored2_keep _ _ _ _ _ (by have := HG2.out; omega)))
  clear hf9 hy9 hb9 HC2 HG8 HH8 HX8 HG9 HH9 HX9 HU8 HU9
  obtain ⟨h0, h1⟩ := HG10.out.cells
  obtain ⟨k0, k1⟩ := HH10.out.cells
  have HSM := Lib.hid (rsame_ino _ _ w10 HU10.out HT10.out (by rw [HUF.out]; exact HCO.out) (HTF.out.trans HUF.out.symm))
  unfold Ni.v at HSM
  dsimp only at HSM
  go_wp2_with fail
  clear hw10 j0 j1 f0 f1 h0 h1 k0 k1
  refine HSM.out.mono ?_
  rintro e11 w11 ⟨rfl, hb11⟩
  have HX11 := Lib.hid (below_step HX10.out hb11)
  clear hb11 HSM HU10 HT10 HG10 HH10 HX10 HUF HTF
  obtain ⟨i0, i1⟩ := (HI.out.later HX11.out).cells
  go_wp2_with fail
  clear i0 i1
  refine (HN1.out _ (HFA.out.later HX11.out)).mono ?_
  rintro e12 w12 ⟨v12, rfl, ho12, hb12⟩
  obtain ⟨p12, c12, hv12, hlc12, _, hbs12, hpn12⟩ := ho12.open
  subst hv12
  have HX12 := Lib.hid (below_step HX11.out hb12)
  have HN12 := Lib.hid hbs12
  have HP12 := Lib.hid hpn12
  have HL12 := Lib.hid hlc12
  have HNM : Hid (N.length ≤ maxLen) := Lib.hid (by have := HNL.out; unfold maxLen; omega)
  clear ho12 hb12 hbs12 hpn12 hlc12 HN1 HX11
  have HK : Hid (∀ W, Below w12.heap.size w12 W → W.cell? ⟨w.heap.size, 0, none⟩ = some (.slice p n c) ∧ W.cell? ⟨w.heap.size, 1, none⟩ = some (.slice q m d)) := Lib.hid fun W hW => (HI.out.later (below_step HX12.out hW)).cells
  have HFW : Hid (∀ W, Below w12.heap.size w12 W → Ni.fit W ⟨p, n, c, q, m, d, zs, L⟩) := Lib.hid fun W hW => HFA.out.later (below_step HX12.out hW)
  have HNN : Hid (∀ W, Below w12.heap.size w12 W → Ni.fit W ⟨p12, N.length, c12, none, 0, 0, N, []⟩) := Lib.hid fun W hW => ⟨HN12.out.later hW, HP12.out, HL12.out, ⟨rfl, by simp, Or.inl rfl⟩, fun _ => rfl, Nat.le_refl _⟩
  have HD0 := Lib.hid (below_drew' (Below.refl w12.heap.size w12))
  have s0 := HK.out _ (Below.refl _ _)
  have s1 := HK.out _ HD0.out
  have e3 : (rm == rm) = true := by simp
  go_wp2_with fail
  go_region_held3 (fun W => W.cell? ⟨w.heap.size, 0, none⟩ = some (.slice p n c) ∧ W.cell? ⟨w.heap.size, 1, none⟩ = some (.slice q m d)) (first | exact s0 | exact s1 | exact s2 | exact s3 | exact s4 | exact s5 | exact s6 | exact s7 | exact s8) (first
    | (go_at_call 13; refine (HN2.out _ (HFW.out _ HD0.out)).mono ?_; rintro e13 w13 ⟨v13, rfl, ho13, hb13⟩; obtain ⟨p13, c13, hv13, _, _, hbs13, _⟩ := ho13.open; subst hv13; have HT13 := Lib.hid hbs13; have HB13 := Lib.hid (below_step HD0.out hb13); have s2 := HK.out _ HB13.out; clear ho13 hb13 hbs13)
    | (go_at_call 12; refine (same_any p13 p12 _ _ c13 c12 N N _ HNM.out HNM.out HT13.out (HN12.out.later HB13.out)).mono ?_; rintro e14 w14 ⟨rfl, nq, rfl⟩; rw [decide_eq_true (rfl : N = N)]; have HB14 := Lib.hid (below_drewN HB13.out nq); generalize w13.drewN nq = w14 at *; have s3 := HK.out _ HB14.out)
    | (go_at_call 14; refine (HSY.out _ (HFW.out _ HB14.out)).mono ?_; rintro e15 w15 ⟨⟨vp, vn, vc, vq, vm, vd, vz, vL⟩, rfl, hf15, hy15, hb15⟩; have HV15 := Lib.hid hf15; have HVF : Hid (Ni.fi ⟨vp, vn, vc, vq, vm, vd, vz, vL⟩ = syncP F) := Lib.hid hy15; have HB15 := Lib.hid (below_step HB14.out hb15); have s4 := HK.out _ HB15.out; have HSM := Lib.hid (rsame_ino _ ⟨p12, N.length, c12, none, 0, 0, N, []⟩ w15 HV15.out (HNN.out _ HB15.out) (by rw [HVF.out]; exact HSO.out) (by rw [HVF.out, HSF.out]; rfl)); unfold Ni.v at HSM; dsimp only at HSM; clear hf15 hy15 hb15)
    | (go_at_call 8; refine HSM.out.mono ?_; rintro e16 w16 ⟨rfl, hb16⟩; have HB16 := Lib.hid (below_step HB15.out hb16); have s5 := HK.out _ HB16.out; clear hb16)
    | (go_at_call 15; refine (HR1.out _ (HFW.out _ HB16.out)).mono ?_; rintro e17 w17 ⟨rfl, hb17⟩; have HB17 := Lib.hid (below_step HB16.out hb17); have s6 := HK.out _ HB17.out; clear hb17)
    | (go_at_call 16; refine (HR2.out _ (HFW.out _ HB17.out)).mono ?_; rintro e18 w18 ⟨rfl, hb18⟩; have HB18 := Lib.hid (below_step HB17.out hb18); have s7 := HK.out _ HB18.out; clear hb18)
    | (go_at_call 17; refine (ilives_any _).mono ?_; rintro e19 w19 ⟨rfl, hb19⟩; have HB19 := Lib.hid (below_step HB18.out hb19); have s8 := HK.out _ HB19.out; clear hb19))
  go_wp2
  go_ret
  exact ⟨rfl, below_step HBA.out (below_step HX12.out HB19.out)⟩
theorem inodeDoes_contract (H : Type) (enc : TypeId × Value → H) (W : World) (base : Nat) (args : Array Value) (ds gs : List (DataW H)) (before : List MemPlace)
    (hval : ∀ (j : Nat) t v, Try.f3.params[j]? = some t → args[j]? = some v → Value.okWide Try.prog W .any base t v)
    (hW : DataW.Whole enc Try.prog Try.f3.params.toList Rows.inodeDoesSpec.vars false W args.toList ds gs before) (hk : Rows.uptoSmall H (ds ++ gs) = true) :
    Calls Try.prog 3 args W fun e W' => ∃ v, e = .returned v ∧ Rows.inodeDoesSpec.post enc Try.prog Try.f3 false true false false W args v W' := by
  have hW' := hW
  obtain ⟨p, q, hA0, hV, rfl, hfz, hnd⟩ := hW
  have hA : DataW.TrodAll enc Try.prog W 0 (fun _ => true) true Try.f3.params.toList args.toList ds p := hA0
  rw [Try.params3] at hA hval
  obtain ⟨v0, vs0, d0, ds0, p0, q0, hargs, rfl, rfl, t0, r0⟩ := trodAll_cons hA
  obtain ⟨v1, vs1, d1, ds1, p1, q1, rfl, rfl, rfl, t1, r1⟩ := trodAll_cons r0
  obtain ⟨v2, vs2, d2, ds2, p2, q2, rfl, rfl, rfl, t2, r2⟩ := trodAll_cons r1
  obtain ⟨rfl, rfl, rfl⟩ := trodAll_nil r2
  obtain rfl : args = #[v0, v1, v2] := by cases args; simp_all
  obtain ⟨rfl, rfl⟩ := trodVars_none hV
  have hk0 := of_decide_eq_true hk
  simp only [Rows.uptoBulkAll, List.append_nil] at hk0
  obtain ⟨x0, rfl, hf0, hxa0, hxb0, hxc0⟩ := open_ino (hval 0 25 v0 rfl rfl) t0 (by omega)
  obtain ⟨a1, len1, cap1, rfl⟩ := okWide_slice Try.underlying22 (hval 1 22 v1 rfl rfl)
  obtain ⟨fuel1, t1⟩ := t1
  obtain ⟨hlc1, hcm1, hpc1, hb1, zs1, hbs1⟩ := open_bs Try.underlying22 Try.underlying5 (by kernel_rfl) t1
  obtain ⟨m2, rfl, rfl, rfl, wm2⟩ := open_int Try.underlying3 (hval 2 3 v2 rfl rfl) t2
  have hk' := of_decide_eq_true hk
  simp only [Rows.uptoBulkAll, List.append_nil, hb1] at hk'
  refine (inoDoes_walk  x0 a1 len1 cap1 zs1 m2 W hf0 hxa0 hxb0 hxc0 hbs1 hpc1 hlc1 (by omega) (by have hh := wf_i64 wm2; unfold InI64; omega)).mono fun e W' ⟨he, hb⟩ => ?_
  subst he
  exact ⟨_, rfl, law_post laidOut (by kernel_rfl) rfl Try.underlying4 rfl hW' rfl rfl rfl hb⟩

set_option maxRecDepth 100000 in
theorem inodeDoes_lifted (os : Os) (started : os.Started) (H : Type) (enc : TypeId × Value → H) (F : Stop.Interp) :
    ReturnsInHanded {} Try.checked os 3 .any ((Rows.OpenSpec.upto Rows.inodeDoesSpec).pre6 enc Try.prog Try.f3 Rows.inodeDoesUptoRow.domain false) (((Rows.OpenSpec.upto Rows.inodeDoesSpec).at F).post enc Try.prog Try.f3 false true false false) := by
  refine returnsInHanded_of_cond (C := Try.checked) (s := Rows.OpenSpec.upto Rows.inodeDoesSpec) (k := Rows.uptoSmall) rfl own started (by kernel_rfl) Try.func3
    (OpenSpec.witness (enc := enc) (C := Try.checked) (s := Rows.OpenSpec.upto Rows.inodeDoesSpec) (k := Rows.uptoSmall) rfl false ⟨#[], #[.agg #[.slice none 0 0, .slice none 0 0], .slice none 0 0, .int .i64 0], []⟩ 8 (by kernel_rfl) (by kernel_rfl) (by kernel_rfl)
      (x := ([.agg [.nil, .nil], .nil, .lit (.int .i64 0)], [], [])) (by kernel_rfl) rfl (by kernel_rfl)) ?_
  intro W base args ds gs before hval hW _ hk _
  exact inodeDoes_contract H enc W base args ds gs before hval hW hk

theorem inodeDoesUpto_holds : Rows.InodeDoesUptoSaid :=
  OpenClaim.holds_of_cond 3 Try.f3 rfl rfl rfl rfl rfl rfl rfl ⟨rfl, rfl, rfl, rfl, rfl⟩ rfl rfl rfl rfl rfl (by kernel_rfl) Try.func3 (by kernel_rfl)
    (of_decide_eq_true (by kernel_rfl)) (by unfold Func.isWrapper; first | (rw [if_pos (by decide +kernel)]; kernel_rfl) | (rw [if_neg (by decide +kernel)]; exact ⟨rfl, rfl⟩))
    (fun os started H enc _ F => inodeDoes_lifted os started H enc F)
end Go.Proofs.Ytapobakolnlpmaa
