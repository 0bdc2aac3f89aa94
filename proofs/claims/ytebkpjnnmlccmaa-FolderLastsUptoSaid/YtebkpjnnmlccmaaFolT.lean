/- The statement FolderLasts, where what it reads is of bulk at most 1048576: for every folder and every number it answers true and leaves its arguments as they were. -/
import Derived.Test.YtebkpjnnmlccmaaFolR
import Derived.Test.YtebkpjnnmlccmaaFolM
import Derived.Test.YtebkpjnnmlccmaaFolV
import Derived.Test.YtebkpjnnmlccmaaFolN
import Derived.Test.YtebkpjnnmlccmaaLaw
namespace Go.Proofs.Ytebkpjnnmlccmaa
set_option linter.unusedVariables false
open Go.RowKit Go.Lib Go.ChangeShapes Go.WideShapes Go.ChangeAt

theorem take_in {I : List Int} {k : Nat} (hk : k < I.length) (t : Int) : decide (t ∈ I.take (k + 1)) = (decide (t ∈ I.take k) || I.getD k 0 == t) := by
  rw [List.take_succ_eq_append_getElem hk, List.getD_eq_getElem?_getD, List.getElem?_eq_getElem hk, Bool.eq_iff_iff]
  simp only [decide_eq_true_eq, Bool.or_eq_true, List.mem_append, List.mem_singleton, Option.getD_some, beq_iff_eq]
  constructor
  · rintro (h | h)
    · exact Or.inl h
    · exact Or.inr h.symm
  · rintro (h | h)
    · exact Or.inl h
    · exact Or.inr h.symm

set_option maxRecDepth 100000 in
set_option maxHeartbeats 4000000 in
theorem folLasts_walk (x : Fo) (n : Int) (w : World) (h : Fo.fit w x) (ho : x.fd.ok) (hn : InI n) :
    Calls Try.prog 5 #[x.v, .int .i64 n] w fun e w' => e = .returned (.bool true) ∧ Below w.heap.size w w' := by
  obtain ⟨hnm, hll, hml⟩ := Fo.len h ho
  have HSY := Lib.hid fun W hW => fsync_any x W hW ho
  have HCR := Lib.hid fun W hW => fcrash_any x n W hW ho hn
  have HCM := Lib.hid fun W hW => fcrash_any x (x.m : Int) W hW ho (by unfold InI; omega)
  have HID := Lib.hid fun W hW => fids_any x W hW ho
  have HCE : Hid (crashP x.fd ((x.m : Int)).toNat = syncP x.fd) := Lib.hid (by unfold crashP syncP; rw [aft_to hml])
  have HSC : Hid (crashP (syncP x.fd) n.toNat = syncP x.fd) := Lib.hid (by unfold crashP; rw [behP_now x.fd 0]; rfl)
  have HIN := Lib.hid hn
  rw [HCE.out] at HCM
  obtain ⟨T, hT⟩ : ∃ T, n.toNat = T := ⟨_, rfl⟩
  have HTT := Lib.hid hT
  rw [hT] at HCR HSC
  have HCO := Lib.hid (crashP_ok ho T)
  have HSO := Lib.hid (syncP_ok ho)
  have HIL := Lib.hid (ids_bound (idsN_both x.fd _).1 fun i hi => hi)
  have HMB := Lib.hid (behP_ids x.fd T)
  obtain ⟨p, l, c, q, m, d, L, M⟩ := x
  dsimp only at hnm
  have HF := Lib.hid h
  generalize hF : Fo.fd ⟨p, l, c, q, m, d, L, M⟩ = F at *
  have HLL : Hid ((idsP F).length ≤ 1048576) := Lib.hid (Nat.le_trans HIL.out (by rw [← hF]; show L.length + M.length ≤ _; dsimp only at hll hml; omega))
  clear h ho hn hF hT HIL HCE hll hml
  unfold Fo.v at HSY HCR HCM HID ⊢
  dsimp only at HSY HCR HCM HID ⊢
  obtain ⟨wA, hA⟩ : ∃ A, w.alloc (.cells #[.slice p l c, .slice q m d] 25) = A := ⟨_, rfl⟩
  obtain ⟨G0, hG0⟩ : ∃ G, w.heap.size = G := ⟨_, rfl⟩
  have HBA : Hid (Below w.heap.size w wA) := Lib.hid (by rw [← hA]; exact below_alloc' (Below.refl _ _) _)
  have HI : Hid (Fw wA G0 ⟨p, l, c, q, m, d, L, M⟩) := Lib.hid (by rw [← hA, ← hG0]; exact heap_alloc_new _ _)
  have HFA := Lib.hid (HF.out.later HBA.out)
  obtain ⟨i0, i1⟩ := HI.out.cells
  go_enter Try.func5, Try.ntmps5
  go_wp2_with fail
  clear hA hG0 i0 i1
  -- s := Sync(f)
  refine (HSY.out _ HFA.out).mono ?_
  rintro e2 w2 ⟨⟨sp, sn, sc, sq, sm, sd, sL, sM⟩, rfl, hf2, hy2, hb2⟩
  have HSF : Hid (Fo.fd ⟨sp, sn, sc, sq, sm, sd, sL, sM⟩ = syncP F) := Lib.hid hy2
  obtain ⟨w3, hw3⟩ : ∃ W, w2.alloc (.cells #[.slice sp sn sc, .slice sq sm sd] 25) = W := ⟨_, rfl⟩
  obtain ⟨G1, hG1⟩ : ∃ G, w2.heap.size = G := ⟨_, rfl⟩
  have hx3 : Below w2.heap.size w2 w3 := by rw [← hw3]; exact below_alloc' (Below.refl _ _) _
  have HX3 := Lib.hid (below_step hb2 hx3)
  have HB3 := Lib.hid (below_step HBA.out HX3.out)
  have HS3 : Hid (Fo.fit w3 ⟨sp, sn, sc, sq, sm, sd, sL, sM⟩) := Lib.hid (hf2.later hx3)
  have HG3 : Hid (Fw w3 G1 ⟨sp, sn, sc, sq, sm, sd, sL, sM⟩) := Lib.hid (by rw [← hw3, ← hG1]; exact heap_alloc_new _ _)
  have HI3 := Lib.hid (HI.out.later HX3.out)
  have HF3 := Lib.hid (HFA.out.later HX3.out)
  clear hf2 hy2 hb2 hx3 HSY HBA HI HFA HX3
  obtain ⟨i0, i1⟩ := HI3.out.cells
  go_wp2_with fail
  clear hw3 hG1 i0 i1
  -- c := Crash(f, n)
  refine (HCR.out _ HF3.out).mono ?_
  rintro e4 w4 ⟨⟨yp, yn, yc, yq, ym, yd, yL, yM⟩, rfl, hf4, hy4, hb4⟩
  have HYL : Hid (yL = behP F T) := Lib.hid (congrArg Fd.l hy4)
  obtain ⟨w5, hw5⟩ : ∃ W, w4.alloc (.cells #[.slice yp yn yc, .slice yq ym yd] 25) = W := ⟨_, rfl⟩
  obtain ⟨G2, hG2⟩ : ∃ G, w4.heap.size = G := ⟨_, rfl⟩
  have hx5 : Below w4.heap.size w4 w5 := by rw [← hw5]; exact below_alloc' (Below.refl _ _) _
  have HX5 := Lib.hid (below_step hb4 hx5)
  have HB5 := Lib.hid (below_step HB3.out HX5.out)
  have HS5 := Lib.hid (HS3.out.later HX5.out)
  have HG5 := Lib.hid (HG3.out.later HX5.out)
  have HI5 := Lib.hid (HI3.out.later HX5.out)
  have HF5 := Lib.hid (HF3.out.later HX5.out)
  have HY5 : Hid (Gs encN w5 yp yn yL) := Lib.hid (hf4.1.later hx5)
  have HH5 : Hid (Fw w5 G2 ⟨yp, yn, yc, yq, ym, yd, yL, yM⟩) := Lib.hid (by rw [← hw5, ← hG2]; exact heap_alloc_new _ _)
  have hyn : yn ≤ 1048576 := by
    have h1 := hf4.1.len
    have h2 := HCO.out.2.2
    have h3 := congrArg Fd.l hy4
    dsimp only [Fo.fd] at h1 h3
    rw [← h3, h1] at h2
    omega
  clear hf4 hy4 hb4 hx5 HCR HS3 HG3 HI3 HF3 HB3 HX5
  obtain ⟨i0, i1⟩ := HI5.out.cells
  go_wp2_with fail
  clear hw5 hG2 i0 i1
  -- ids := Ids(f)
  refine (HID.out _ HF5.out).mono ?_
  rintro e6 w6 ⟨ip, il, ic, rfl, hg6, hb6⟩
  have HN6 := Lib.hid hg6.gs
  have hil : il ≤ 1048576 := by have := hg6.gs.len; have := HLL.out; omega
  have HIE : Hid ((idsP F).length = il) := Lib.hid hg6.gs.len
  have HB6 := Lib.hid (below_step HB5.out hb6)
  have HS6 := Lib.hid (HS5.out.later hb6)
  have HG6 := Lib.hid (HG5.out.later hb6)
  have HI6 := Lib.hid (HI5.out.later hb6)
  have HF6 := Lib.hid (HF5.out.later hb6)
  have HY6 := Lib.hid (HY5.out.later hb6)
  have HH6 := Lib.hid (HH5.out.later hb6)
  have HM6 : Hid (∀ a, a < yn → decide ((yL.getD a nd0).id ∈ idsP F) = true) := Lib.hid fun a ha => by
    refine decide_eq_true (HMB.out _ ?_)
    rw [← HYL.out]
    have : a < yL.length := by rw [HY6.out.len]; exact ha
    rw [List.getD_eq_getElem?_getD, List.getElem?_eq_getElem this]
    exact List.getElem_mem _
  generalize idsP F = I at *
  clear hg6 hb6 HID HS5 HG5 HI5 HF5 HY5 HH5 HB5 HMB HYL
  go_wp2
  go_loopw [8] (fun i wr => ∃ a : Nat, a ≤ yn ∧ i = .int .i64 (a : Int) ∧ Hid (Below w6.heap.size w6 wr)) (fun i _ => yn - (intOf i).toNat)
  case atStart => exact ⟨0, by omega, rfl, Lib.hid (Below.refl _ _)⟩
  case round =>
    obtain ⟨a, ha, rfl, HB⟩ := hrel
    obtain ⟨k0, k1⟩ := (HH6.out.later HB.out).cells
    by_cases hlt : a < yn
    · have HIN' := Lib.hid (HM6.out a hlt)
      obtain ⟨b1, o1, rfl, c0, c1⟩ := (HY6.out.later HB.out).nd a hlt
      have HC := Lib.hid fun W (hW : Below w6.heap.size w6 W) => (HY6.out.later hW)
      have hkn : (a : Int) < (yn : Int) := by omega
      have hk0 : (0 : Int) ≤ (a : Int) := by omega
      generalize hyy : yL.getD a nd0 = y at *
      obtain ⟨ys, yi⟩ := y
      have HYY := Lib.hid hyy
      clear hyy HC
      dsimp only at c0 c1 HIN'
      go_wp2
      go_loopw [9, 10] (fun v j wk => ∃ k : Nat, k ≤ il ∧ j = .int .i64 (k : Int) ∧ v = .bool (decide (yi ∈ I.take k)) ∧ Hid (Below w6.heap.size w6 wk)) (fun _ j _ => il - (intOf j).toNat)
      case atStart => exact ⟨0, by omega, rfl, by simp, HB⟩
      case round =>
        obtain ⟨k, hk, rfl, rfl, HBK⟩ := hrel
        clear c0 c1 k0 k1
        obtain ⟨k0, k1⟩ := (HH6.out.later HBK.out).cells
        have hc' := (HY6.out.later HBK.out).nd a hlt
        rw [HYY.out] at hc'
        obtain ⟨b1', o1', hp, c0, c1⟩ := hc'
        obtain ⟨rfl, rfl⟩ : b1 = b1' ∧ o1 = o1' := by simpa using hp
        dsimp only at c0 c1
        clear hp
        by_cases hkl : k < il
        · obtain ⟨b2, o2, rfl, e0⟩ := (HN6.out.later HBK.out).it k hkl
          have HS := Lib.hid (take_in (I := I) (k := k) (by rw [HIE.out]; exact hkl) yi)
          have hkn2 : (k : Int) < (il : Int) := by omega
          have hk02 : (0 : Int) ≤ (k : Int) := by omega
          generalize I.getD k 0 = z at *
          obtain ⟨bb, hbb⟩ : ∃ bb, decide (yi ∈ I.take k) = bb := ⟨_, rfl⟩
          rw [hbb] at HS ⊢
          clear hbb
          cases bb with
          | true =>
            go_wp2_with fail
            go_quiet (fail)
            have HBD := Lib.hid (below_drewN HBK.out nq)
            clear c0 c1 k0 k1 e0
            generalize wr.drewN nq = wd at *
            have HV := Lib.hid (congrArg Value.bool HS.out)
            go_wp2
            refine ⟨?_, by simp [intOf] <;> omega⟩
            first
              | exact ⟨k + 1, by omega, by go_num, by rw [HV.out]; rfl, HBD⟩
              | ((repeat apply Exists.intro); refine ⟨?_, rfl⟩; exact ⟨k + 1, by omega, by go_num, by rw [HV.out]; rfl, HBD⟩)
          | false =>
            go_wp2_with fail
            go_quiet (fail)
            have HBD := Lib.hid (below_drewN HBK.out nq)
            clear c0 c1 k0 k1 e0
            generalize wr.drewN nq = wd at *
            have HV := Lib.hid (congrArg Value.bool HS.out)
            go_wp2
            refine ⟨?_, by simp [intOf] <;> omega⟩
            first
              | exact ⟨k + 1, by omega, by go_num, by rw [HV.out]; rfl, HBD⟩
              | ((repeat apply Exists.intro); refine ⟨?_, rfl⟩; exact ⟨k + 1, by omega, by go_num, by rw [HV.out]; rfl, HBD⟩)
        · obtain rfl : k = il := by omega
          have e : decide (yi ∈ I.take k) = true := by rw [List.take_of_length_le (by rw [HIE.out]; exact Nat.le_refl _)]; exact HIN'.out
          rw [e]
          clear e
          go_wp2
          refine ⟨?_, by simp [intOf] <;> omega⟩
          first
            | exact ⟨a + 1, by omega, by go_num, HBK⟩
            | ((repeat apply Exists.intro); refine ⟨?_, rfl⟩; exact ⟨a + 1, by omega, by go_num, HBK⟩)
    · obtain rfl : a = yn := by omega
      have HS7 := Lib.hid (HS6.out.later HB.out)
      have HF7 := Lib.hid (HF6.out.later HB.out)
      have HG7 := Lib.hid (HG6.out.later HB.out)
      have HI7 := Lib.hid (HI6.out.later HB.out)
      have HB7 := Lib.hid (below_step HB6.out HB.out)
      have HSN := Lib.hid fun W hW => fcrash_any ⟨sp, sn, sc, sq, sm, sd, sL, sM⟩ n W hW (by rw [HSF.out]; exact HSO.out) HIN.out
      rw [HSF.out, HTT.out, HSC.out] at HSN
      unfold Fo.v at HSN
      dsimp only at HSN
      obtain ⟨i0, i1⟩ := HI7.out.cells
      obtain ⟨j0, j1⟩ := HG7.out.cells
      go_wp2_with fail
      clear i0 i1 j0 j1 k0 k1
      have HK : Hid (∀ W, Below wr.heap.size wr W → W.cell? ⟨G0, 0, none⟩ = some (.slice p l c) ∧ W.cell? ⟨G0, 1, none⟩ = some (.slice q m d) ∧ W.cell? ⟨G1, 0, none⟩ = some (.slice sp sn sc) ∧ W.cell? ⟨G1, 1, none⟩ = some (.slice sq sm sd)) := Lib.hid fun W hW => ⟨(HI7.out.later hW).cells.1, (HI7.out.later hW).cells.2, (HG7.out.later hW).cells.1, (HG7.out.later hW).cells.2⟩
      have HD0 := Lib.hid (below_drew' (Below.refl wr.heap.size wr))
      have s0 := HK.out _ (Below.refl _ _)
      have s1 := HK.out _ HD0.out
      go_region_held3 (fun W => W.cell? ⟨G0, 0, none⟩ = some (.slice p l c) ∧ W.cell? ⟨G0, 1, none⟩ = some (.slice q m d) ∧ W.cell? ⟨G1, 0, none⟩ = some (.slice sp sn sc) ∧ W.cell? ⟨G1, 1, none⟩ = some (.slice sq sm sd)) (first | exact s0 | exact s1 | exact s2 | exact s3 | exact s4 | exact s5 | exact s6) (first
        | (go_at_call 15; (fail_if_success (have hh := HB9.out)); refine (HSN.out _ (HS7.out.later HD0.out)).mono ?_; rintro e8 w8 ⟨⟨up, un, uc, uq, um, ud, uL, uM⟩, rfl, hf8, hy8, hb8⟩; have HB8 := Lib.hid (below_step HD0.out hb8); have s2 := HK.out _ HB8.out
           have HSM := Lib.hid (rsame_any ⟨up, un, uc, uq, um, ud, uL, uM⟩ ⟨sp, sn, sc, sq, sm, sd, sL, sM⟩ w8 hf8 (HS7.out.later HB8.out) (by rw [hy8]; exact HSO.out) (by rw [hy8]; exact HSF.out))
           unfold Fo.v at HSM
           dsimp only at HSM
           clear hf8 hy8 hb8)
        | (go_at_call 10; (fail_if_success (have hh := HB9.out)); refine HSM.out.mono ?_; rintro e9 w9 ⟨rfl, hb9⟩; have HB9 := Lib.hid (below_step HB8.out hb9); have s3 := HK.out _ HB9.out; clear hb9)
        | (go_at_call 15; refine (HCM.out _ (HF7.out.later HB9.out)).mono ?_; rintro e10 w10 ⟨⟨vp, vn, vc, vq, vm, vd, vL, vM⟩, rfl, hf10, hy10, hb10⟩; have HB10 := Lib.hid (below_step HB9.out hb10); have s4 := HK.out _ HB10.out
           have HSM2 := Lib.hid (rsame_any ⟨vp, vn, vc, vq, vm, vd, vL, vM⟩ ⟨sp, sn, sc, sq, sm, sd, sL, sM⟩ w10 hf10 (HS7.out.later HB10.out) (by rw [hy10]; exact HSO.out) (by rw [hy10]; exact HSF.out))
           unfold Fo.v at HSM2
           dsimp only at HSM2
           clear hf10 hy10 hb10)
        | (go_at_call 10; refine HSM2.out.mono ?_; rintro e11 w11 ⟨rfl, hb11⟩; have HB11 := Lib.hid (below_step HB10.out hb11); have s5 := HK.out _ HB11.out; clear hb11)
        | (go_at_call 14; refine (flives_any _).mono ?_; rintro e12 w12 ⟨rfl, hb12⟩; have HB12 := Lib.hid (below_step HB11.out hb12); have s6 := HK.out _ HB12.out; clear hb12))
      go_wp2
      go_ret
      exact ⟨rfl, below_step HB7.out HB12.out⟩
theorem folderLasts_contract (H : Type) (enc : TypeId × Value → H) (W : World) (base : Nat) (args : Array Value) (ds gs : List (DataW H)) (before : List MemPlace)
    (hval : ∀ (j : Nat) t v, Try.f5.params[j]? = some t → args[j]? = some v → Value.okWide Try.prog W .any base t v)
    (hW : DataW.Whole enc Try.prog Try.f5.params.toList Rows.folderLastsSpec.vars false W args.toList ds gs before) (hk : Rows.uptoSmall H (ds ++ gs) = true) :
    Calls Try.prog 5 args W fun e W' => ∃ v, e = .returned v ∧ Rows.folderLastsSpec.post enc Try.prog Try.f5 false true false false W args v W' := by
  have hW' := hW
  obtain ⟨p, q, hA0, hV, rfl, hfz, hnd⟩ := hW
  have hA : DataW.TrodAll enc Try.prog W 0 (fun _ => true) true Try.f5.params.toList args.toList ds p := hA0
  rw [Try.params5] at hA hval
  obtain ⟨v0, vs0, d0, ds0, p0, q0, hargs, rfl, rfl, t0, r0⟩ := trodAll_cons hA
  obtain ⟨v1, vs1, d1, ds1, p1, q1, rfl, rfl, rfl, t1, r1⟩ := trodAll_cons r0
  obtain ⟨rfl, rfl, rfl⟩ := trodAll_nil r1
  obtain rfl : args = #[v0, v1] := by cases args; simp_all
  obtain ⟨rfl, rfl⟩ := trodVars_none hV
  have hk0 := of_decide_eq_true hk
  simp only [Rows.uptoBulkAll, List.append_nil] at hk0
  obtain ⟨x0, rfl, hf0, ho0, hn0⟩ := open_fol (hval 0 25 v0 rfl rfl) t0 (by omega)
  obtain ⟨m1, rfl, rfl, rfl, wm1⟩ := open_int Try.underlying3 (hval 1 3 v1 rfl rfl) t1
  have hk' := of_decide_eq_true hk
  simp only [Rows.uptoBulkAll, List.append_nil] at hk'
  refine (folLasts_walk  x0 m1 W hf0 ho0 (wfI wm1)).mono fun e W' ⟨he, hb⟩ => ?_
  subst he
  exact ⟨_, rfl, law_post laidOut (by kernel_rfl) rfl Try.underlying4 rfl hW' rfl rfl rfl hb⟩

set_option maxRecDepth 100000 in
theorem folderLasts_lifted (os : Os) (started : os.Started) (H : Type) (enc : TypeId × Value → H) (F : Stop.Interp) :
    ReturnsInHanded {} Try.checked os 5 .any ((Rows.OpenSpec.upto Rows.folderLastsSpec).pre6 enc Try.prog Try.f5 Rows.folderLastsUptoRow.domain false) (((Rows.OpenSpec.upto Rows.folderLastsSpec).at F).post enc Try.prog Try.f5 false true false false) := by
  refine returnsInHanded_of_cond (C := Try.checked) (s := Rows.OpenSpec.upto Rows.folderLastsSpec) (k := Rows.uptoSmall) rfl own started (by kernel_rfl) Try.func5
    (OpenSpec.witness (enc := enc) (C := Try.checked) (s := Rows.OpenSpec.upto Rows.folderLastsSpec) (k := Rows.uptoSmall) rfl false ⟨#[], #[.agg #[.slice none 0 0, .slice none 0 0], .int .i64 0], []⟩ 8 (by kernel_rfl) (by kernel_rfl) (by kernel_rfl)
      (x := ([.agg [.nil, .nil], .lit (.int .i64 0)], [], [])) (by kernel_rfl) rfl (by kernel_rfl)) ?_
  intro W base args ds gs before hval hW _ hk _
  exact folderLasts_contract H enc W base args ds gs before hval hW hk

theorem folderLastsUpto_holds : Rows.FolderLastsUptoSaid :=
  OpenClaim.holds_of_cond 5 Try.f5 rfl rfl rfl rfl rfl rfl rfl ⟨rfl, rfl, rfl, rfl, rfl⟩ rfl rfl rfl rfl rfl (by kernel_rfl) Try.func5 (by kernel_rfl)
    (of_decide_eq_true (by kernel_rfl)) (by unfold Func.isWrapper; first | (rw [if_pos (by decide +kernel)]; kernel_rfl) | (rw [if_neg (by decide +kernel)]; exact ⟨rfl, rfl⟩))
    (fun os started H enc _ F => folderLasts_lifted os started H enc F)
end Go.Proofs.Ytebkpjnnmlccmaa
