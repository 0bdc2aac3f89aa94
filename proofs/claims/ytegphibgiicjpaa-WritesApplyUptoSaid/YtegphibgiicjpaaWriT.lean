/- The statement WritesApply, where what it reads is of bulk at most 1048576: for all bytes and all changes it answers true and leaves its arguments as they were. -/
import Derived.Test.YtegphibgiicjpaaWriR
namespace Go.Proofs.Ytegphibgiicjpaa
set_option linter.unusedVariables false
open Go.RowKit Go.Lib Go.ChangeShapes Go.WideShapes Go.ChangeAt

theorem wright_b (c : Ch) (p : Option Addr) (n cap : Nat) (w : World) (h : chIn w c p n cap) :
    Calls Try.prog 6 #[.agg #[.bool c.cut, .int .i64 c.off, .slice p n cap]] w fun e w' => e = .returned (.bool (rightP c)) ∧ Below w.heap.size w w' := by
  refine (wright_any c p n cap w h).mono ?_
  rintro e w' ⟨rfl, rfl⟩
  exact ⟨rfl, (Below.refl _ _).alloc (Nat.le_refl _) _⟩
theorem rright_b (c : Ch) (p : Option Addr) (n cap : Nat) (w : World) (h : chIn w c p n cap) :
    Calls Try.prog 7 #[.agg #[.bool c.cut, .int .i64 c.off, .slice p n cap]] w fun e w' => e = .returned (.bool (rightP c)) ∧ Below w.heap.size w w' := by
  refine (rwright_any c p n cap w h).mono ?_
  rintro e w' ⟨rfl, rfl⟩
  exact ⟨rfl, (Below.refl _ _).alloc (Nat.le_refl _) _⟩
theorem appP_bound (b : List Int) (c : Ch) (m : Nat) (h : b.length ≤ 2097152) : (appP b c m).length ≤ 2097152 := by
  have h1 := appP_peak b c m
  have h2 := peakP_max [c] b.length
  have e : peakP (b.length : Int) [c] = peakOne b.length c := rfl
  rw [e] at h2
  omega

set_option maxRecDepth 100000 in
set_option maxHeartbeats 4000000 in
theorem wapplies_walk (q : Option Addr) (l cp : Nat) (zs : List Int) (p : Option Addr) (n cap : Nat) (L : List Wd) (w : World) (hz : Bs w q l zs) (hq : q = none → cp = 0) (hlc : l ≤ cp) (hl : cp ≤ 1048576) (h : Ws w p n L) (hpc : p = none → cap = 0) (hnc : n ≤ cap) (hn : n ≤ 1048576) :
    Calls Try.prog 3 #[.slice q l cp, .slice p n cap] w fun e w' => e = .returned (.bool true) ∧ Below w.heap.size w w' := by
  have H := Lib.hid h
  have HZ := Lib.hid hz
  have HQ := Lib.hid hq
  have HL : Hid (l ≤ 2097152) := Lib.hid (by omega)
  have HN := Lib.hid hn
  have HSL : Hid ((allP zs (chs L)).length ≤ maxLen) := Lib.hid (by have := allP_bound zs (chs L) (by rw [hz.1]; omega); unfold maxLen; omega)
  have HAL : Hid (∀ c m, (appP zs c m).length ≤ maxLen) := Lib.hid (fun c m => by have := appP_bound zs c m (by rw [hz.1]; omega); unfold maxLen; omega)
  clear h hz hq hpc hnc
  go_enter Try.func3, Try.ntmps3
  go_wp2
  go_loopw [5] (fun i wr => ∃ k : Nat, k ≤ n ∧ i = .int .i64 (k : Int) ∧ Hid (Below w.heap.size w wr)) (fun i _ => n - (intOf i).toNat)
  case atStart => exact ⟨0, by omega, rfl, Lib.hid (Below.refl _ _)⟩
  case round =>
    obtain ⟨k, hk, rfl, HB⟩ := hrel
    by_cases hlt : k < n
    · obtain ⟨b, off, rfl, hcl⟩ := H.out.ptr k hlt
      have HF := Lib.hid (H.out.fit k)
      have HDL := Lib.hid (H.out.fit k).1.1
      generalize L.getD k wd0 = x at *
      obtain ⟨xc, xp, xn, xcap⟩ := x
      have HDE : Hid (appP zs xc xc.dat.length = appP zs xc xn) := Lib.hid (by rw [show xc.dat.length = xn from HDL.out])
      have HAS := Lib.hid (HAL.out xc xn)
      have HK : Hid (∀ W, Below w.heap.size w W → W.cell? ⟨b, off + k * 3, none⟩ = some (.bool xc.cut) ∧ W.cell? ⟨b, off + k * 3 + 1, none⟩ = some (.int .i64 xc.off) ∧ W.cell? ⟨b, off + k * 3 + 2, none⟩ = some (.slice xp xn xcap)) := Lib.hid (fun W hW => by
        refine ⟨?_, ?_, ?_⟩
        · rw [hW.cell (World.block_lt_of_cell? w _ hcl.1)]; exact hcl.1
        · rw [hW.cell (World.block_lt_of_cell? w _ hcl.2.1)]; exact hcl.2.1
        · rw [hW.cell (World.block_lt_of_cell? w _ hcl.2.2)]; exact hcl.2.2)
      clear hcl
      have HB0 := Lib.hid (below_step HB.out ((Below.refl _ _).drew))
      have k0 := HK.out _ HB0.out
      have k1 := HK.out _ HB.out
      have hkn : (k : Int) < (n : Int) := by omega
      have hk0 : (0 : Int) ≤ (k : Int) := by omega
      generalize hrb : rightP xc = rb at *
      have HRB := Lib.hid hrb
      clear hrb
      have hne : (rb != rb) = false := by cases rb <;> rfl
      go_wp2
      go_region_held3 (fun W => W.cell? ⟨b, off + k * 3, none⟩ = some (.bool xc.cut) ∧ W.cell? ⟨b, off + k * 3 + 1, none⟩ = some (.int .i64 xc.off) ∧ W.cell? ⟨b, off + k * 3 + 2, none⟩ = some (.slice xp xn xcap)) (first | exact k0 | exact k1 | exact k2 | exact k3 | exact k4 | exact k5 | exact k6) (first
        | (go_at_call 6; refine (wright_b xc xp xn xcap _ (HF.out.later HB0.out)).mono ?_; rintro e w2 ⟨rfl, hb2⟩; rw [HRB.out]; have HB2 := Lib.hid (below_step HB0.out hb2); have k2 := HK.out _ HB2.out; clear hb2)
        | (go_at_call 7; refine (rright_b xc xp xn xcap _ (HF.out.later HB2.out)).mono ?_; rintro e w3 ⟨rfl, hb3⟩; rw [HRB.out]; have HB3 := Lib.hid (below_step HB2.out hb3); have k3 := HK.out _ HB3.out; clear hb3)
        | (go_at_call 9; refine (wapply_any q l cp zs xc xp xn xcap _ (HZ.out.later HB3.out) HQ.out HL.out (HF.out.later HB3.out)).mono ?_; rintro e w4 ⟨v4, rfl, ho4, hb4⟩; rw [HDE.out] at ho4; have HB4 := Lib.hid (below_step HB3.out hb4); have k4 := HK.out _ HB4.out; obtain ⟨p4, c4, hv4, _, _, hbs4, _⟩ := ho4.open; subst hv4; have HBS4 := Lib.hid hbs4; clear ho4 hb4 hbs4)
        | (go_at_call 10; refine (rapply_any q l cp zs xc xp xn xcap xn _ (HZ.out.later HB4.out) HQ.out (HF.out.later HB4.out) HL.out).mono ?_; rintro e w5 ⟨v5, rfl, ho5, hb5⟩; have HB5 := Lib.hid (below_step HB4.out hb5); have k5 := HK.out _ HB5.out; have HBS6 := Lib.hid (HBS4.out.later hb5); obtain ⟨p5, c5, hv5, _, _, hbs5, _⟩ := ho5.open; subst hv5; have HBS5 := Lib.hid hbs5; clear ho5 hb5 hbs5)
        | (go_at_call 8; refine (same_any p4 p5 _ _ c4 c5 (appP zs xc xn) (appP zs xc xn) _ HAS.out HAS.out HBS6.out HBS5.out).mono ?_; rintro e w6 ⟨rfl, nq, hw6⟩; have HB6 : Hid (Below w.heap.size w w6) := Lib.hid (by rw [hw6]; exact below_drewN HB5.out nq); have k6 := HK.out _ HB6.out; rw [decide_eq_true (rfl : appP zs xc xn = appP zs xc xn)]; clear hw6))
      go_wp2
      refine ⟨?_, by simp [intOf]; omega⟩
      first
        | exact ⟨k + 1, by omega, by go_num, HB6⟩
        | ((repeat apply Exists.intro); refine ⟨?_, rfl⟩; exact ⟨k + 1, by omega, by go_num, HB6⟩)
    · obtain rfl : k = n := by omega
      go_wp2_with fail
      refine (wall_any q l cp zs p _ cap L wr (HZ.out.later HB.out) HQ.out HL.out (H.out.later HB.out) HN.out).mono ?_
      rintro e w1 ⟨v1, rfl, ho1, hb1⟩
      have HB1 := Lib.hid (below_step HB.out hb1)
      obtain ⟨p1, c1, hv1, _, _, hbs1, _⟩ := ho1.open
      subst hv1
      have HBS1 := Lib.hid hbs1
      clear hbs1 ho1 hb1
      go_wp2_with fail
      refine (rall_any q l cp zs p _ cap L w1 (HZ.out.later HB1.out) HQ.out HL.out (H.out.later HB1.out) HN.out).mono ?_
      rintro e w2 ⟨v2, rfl, ho2, hb2⟩
      have HB2 := Lib.hid (below_step HB1.out hb2)
      obtain ⟨p2, c2, hv2, _, _, hbs2, _⟩ := ho2.open
      subst hv2
      have HBS2 := Lib.hid hbs2
      have HBS3 := Lib.hid (HBS1.out.later hb2)
      clear hbs2 ho2 hb2 HBS1 HB1
      generalize allP zs (chs L) = ss at *
      go_wp2_with fail
      refine (same_any p1 p2 _ _ c1 c2 ss ss _ HSL.out HSL.out HBS3.out HBS2.out).mono ?_
      rintro e w3 ⟨rfl, nq, rfl⟩
      have HB3 := Lib.hid (below_drewN HB2.out nq)
      generalize w2.drewN nq = w3 at *
      clear HBS3 HBS2 HB2
      rw [decide_eq_true (rfl : ss = ss)]
      go_wp2_with fail
      refine (wlives_any w3).mono ?_
      rintro e w6 ⟨rfl, hb6⟩
      have HB6 := Lib.hid (below_step HB3.out hb6)
      clear hb6
      go_wp2
      go_ret
      exact ⟨rfl, HB6.out⟩
theorem writesApply_contract (H : Type) (enc : TypeId × Value → H) (W : World) (base : Nat) (args : Array Value) (ds gs : List (DataW H)) (before : List MemPlace)
    (hval : ∀ (j : Nat) t v, Try.f3.params[j]? = some t → args[j]? = some v → Value.okWide Try.prog W .any base t v)
    (hW : DataW.Whole enc Try.prog Try.f3.params.toList Rows.writesApplySpec.vars false W args.toList ds gs before) (hk : Rows.uptoSmall H (ds ++ gs) = true) :
    Calls Try.prog 3 args W fun e W' => ∃ v, e = .returned v ∧ Rows.writesApplySpec.post enc Try.prog Try.f3 false true false false W args v W' := by
  have hW' := hW
  obtain ⟨p, q, hA0, hV, rfl, hfz, hnd⟩ := hW
  have hA : DataW.TrodAll enc Try.prog W 0 (fun _ => true) true Try.f3.params.toList args.toList ds p := hA0
  rw [Try.params3] at hA hval
  obtain ⟨v0, vs0, d0, ds0, p0, q0, hargs, rfl, rfl, t0, r0⟩ := trodAll_cons hA
  obtain ⟨v1, vs1, d1, ds1, p1, q1, rfl, rfl, rfl, t1, r1⟩ := trodAll_cons r0
  obtain ⟨rfl, rfl, rfl⟩ := trodAll_nil r1
  obtain rfl : args = #[v0, v1] := by cases args; simp_all
  obtain ⟨rfl, rfl⟩ := trodVars_none hV
  obtain ⟨a0, len0, cap0, rfl⟩ := okWide_slice Try.underlying22 (hval 0 22 v0 rfl rfl)
  obtain ⟨fuel0, t0⟩ := t0
  obtain ⟨hlc0, hcm0, hpc0, hb0, zs0, hbs0⟩ := open_bs Try.underlying22 Try.underlying5 (by kernel_rfl) t0
  obtain ⟨a1, len1, cap1, rfl⟩ := okWide_slice Try.underlying23 (hval 1 23 v1 rfl rfl)
  obtain ⟨fuel1, t1⟩ := t1
  obtain ⟨hlc1, hcm1, hpc1, hb1, L1, hbs1⟩ := open_wds t1
  have hb1' : 4 * len1 + 1 ≤ Rows.uptoBulk d1 := hb1
  obtain ⟨B1, hB1⟩ : ∃ B, Rows.uptoBulk d1 = B := ⟨_, rfl⟩
  rw [hB1] at hb1'
  have hk' := of_decide_eq_true hk
  simp only [Rows.uptoBulkAll, List.append_nil, hb0, hB1] at hk'
  refine (wapplies_walk  a0 len0 cap0 zs0 a1 len1 cap1 L1 W hbs0 hpc0 hlc0 (by omega) hbs1 hpc1 hlc1 (by omega)).mono fun e W' ⟨he, hb⟩ => ?_
  subst he
  exact ⟨_, rfl, law_post laidOut (by kernel_rfl) rfl Try.underlying4 rfl hW' rfl rfl rfl hb⟩

set_option maxRecDepth 100000 in
theorem writesApply_lifted (os : Os) (started : os.Started) (H : Type) (enc : TypeId × Value → H) (F : Stop.Interp) :
    ReturnsInHanded {} Try.checked os 3 .any ((Rows.OpenSpec.upto Rows.writesApplySpec).pre6 enc Try.prog Try.f3 Rows.writesApplyUptoRow.domain false) (((Rows.OpenSpec.upto Rows.writesApplySpec).at F).post enc Try.prog Try.f3 false true false false) := by
  refine returnsInHanded_of_cond (C := Try.checked) (s := Rows.OpenSpec.upto Rows.writesApplySpec) (k := Rows.uptoSmall) rfl own started (by kernel_rfl) Try.func3
    (OpenSpec.witness (enc := enc) (C := Try.checked) (s := Rows.OpenSpec.upto Rows.writesApplySpec) (k := Rows.uptoSmall) rfl false ⟨#[], #[.slice none 0 0, .slice none 0 0], []⟩ 8 (by kernel_rfl) (by kernel_rfl) (by kernel_rfl)
      (x := ([.nil, .nil], [], [])) (by kernel_rfl) rfl (by kernel_rfl)) ?_
  intro W base args ds gs before hval hW _ hk _
  exact writesApply_contract H enc W base args ds gs before hval hW hk

theorem writesApplyUpto_holds : Rows.WritesApplyUptoSaid :=
  OpenClaim.holds_of_cond 3 Try.f3 rfl rfl rfl rfl rfl rfl rfl ⟨rfl, rfl, rfl, rfl, rfl⟩ rfl rfl rfl rfl rfl (by kernel_rfl) Try.func3 (by kernel_rfl)
    (of_decide_eq_true (by kernel_rfl)) (by unfold Func.isWrapper; first | (rw [if_pos (by decide +kernel)]; kernel_rfl) | (rw [if_neg (by decide +kernel)]; exact ⟨rfl, rfl⟩))
    (fun os started H enc _ F => writesApply_lifted os started H enc F)
end Go.Proofs.Ytegphibgiicjpaa
