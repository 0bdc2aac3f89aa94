/- The statement FolderCrash, where what it reads is of bulk at most 1048576: for every folder and every number it answers true and leaves its arguments as they were. -/
import Derived.Test.YtebkpjnnmlccmaaFolR
import Derived.Test.YtebkpjnnmlccmaaFolM
import Derived.Test.YtebkpjnnmlccmaaFolN
import Derived.Test.YtebkpjnnmlccmaaFolV
import Derived.Test.YtebkpjnnmlccmaaLaw
namespace Go.Proofs.Ytebkpjnnmlccmaa
set_option linter.unusedVariables false
open Go.RowKit Go.Lib Go.ChangeShapes Go.WideShapes Go.ChangeAt

theorem ids_le {F : Fd} (h : F.ok) : (idsP F).length ≤ 1048576 := Nat.le_trans (ids_bound (idsN_both F _).1 fun i hi => hi) h.2.2

set_option maxRecDepth 100000 in
set_option maxHeartbeats 4000000 in
theorem folCrash_walk (x : Fo) (n : Int) (w : World) (h : Fo.fit w x) (ho : x.fd.ok) (hn : InI n) :
    Calls Try.prog 4 #[x.v, .int .i64 n] w fun e w' => e = .returned (.bool true) ∧ Below w.heap.size w w' := by
  have HCR := Lib.hid fun W hW => fcrash_any x n W hW ho hn
  have HBH := Lib.hid fun W hW => rbehind_any x n W hW ho hn
  have HID := Lib.hid fun W hW => fids_any x W hW ho
  have HRI := Lib.hid fun W hW => rids_any x W hW ho
  have HSY := Lib.hid fun W hW => fsync_any x W hW ho
  have HNW := Lib.hid fun W hW => rnow_any x W hW ho
  obtain ⟨T, hT⟩ : ∃ T, n.toNat = T := ⟨_, rfl⟩
  rw [hT] at HCR HBH
  have HCO := Lib.hid (crashP_ok ho T)
  have HSO := Lib.hid (syncP_ok ho)
  have HIL := Lib.hid (ids_le ho)
  obtain ⟨p, l, c, q, m, d, L, M⟩ := x
  have HF := Lib.hid h
  generalize hF : Fo.fd ⟨p, l, c, q, m, d, L, M⟩ = F at *
  clear h ho hn hF hT
  unfold Fo.v at HCR HBH HID HRI HSY HNW ⊢
  dsimp only at HCR HBH HID HRI HSY HNW ⊢
  obtain ⟨wA, hA⟩ : ∃ A, w.alloc (.cells #[.slice p l c, .slice q m d] 25) = A := ⟨_, rfl⟩
  obtain ⟨G0, hG0⟩ : ∃ G, w.heap.size = G := ⟨_, rfl⟩
  have HBA : Hid (Below w.heap.size w wA) := Lib.hid (by rw [← hA]; exact below_alloc' (Below.refl _ _) _)
  have HI : Hid (Fw wA G0 ⟨p, l, c, q, m, d, L, M⟩) := Lib.hid (by rw [← hA, ← hG0]; exact heap_alloc_new _ _)
  have HFA := Lib.hid (HF.out.later HBA.out)
  obtain ⟨i0, i1⟩ := HI.out.cells
  go_enter Try.func4, Try.ntmps4
  go_wp2_with fail
  clear hA hG0
  refine (HCR.out _ HFA.out).mono ?_
  rintro e2 w2 ⟨⟨yp, yn, yc, yq, ym, yd, yL, yM⟩, rfl, hf2, hy2, hb2⟩
  obtain ⟨w3, hw3⟩ : ∃ W, w2.alloc (.cells #[.slice yp yn yc, .slice yq ym yd] 25) = W := ⟨_, rfl⟩
  obtain ⟨G, hG⟩ : ∃ G, w2.heap.size = G := ⟨_, rfl⟩
  have hx3 : Below w2.heap.size w2 w3 := by rw [← hw3]; exact below_alloc' (Below.refl _ _) _
  have HYF : Hid (Fo.fd ⟨yp, yn, yc, yq, ym, yd, yL, yM⟩ = crashP F T) := Lib.hid hy2
  have HX3 := Lib.hid (below_step hb2 hx3)
  have HB3 := Lib.hid (below_step HBA.out HX3.out)
  have HF3 := Lib.hid (HFA.out.later HX3.out)
  have HI3 := Lib.hid (HI.out.later HX3.out)
  have HY3 : Hid (Fo.fit w3 ⟨yp, yn, yc, yq, ym, yd, yL, yM⟩) := Lib.hid (hf2.later hx3)
  have HG3 : Hid (Fw w3 G ⟨yp, yn, yc, yq, ym, yd, yL, yM⟩) := Lib.hid (by rw [← hw3, ← hG]; exact heap_alloc_new _ _)
  clear hf2 hy2 hb2 i0 i1 hx3 HCR HI HFA HBA HX3
  go_wp2_with fail
  clear hw3 hG
  have HK : Hid (∀ W, Below w3.heap.size w3 W → W.cell? ⟨G0, 0, none⟩ = some (.slice p l c) ∧ W.cell? ⟨G0, 1, none⟩ = some (.slice q m d) ∧ W.cell? ⟨G, 0, none⟩ = some (.slice yp yn yc) ∧ W.cell? ⟨G, 1, none⟩ = some (.slice yq ym yd)) := Lib.hid fun W hW => ⟨(HI3.out.later hW).cells.1, (HI3.out.later hW).cells.2, (HG3.out.later hW).cells.1, (HG3.out.later hW).cells.2⟩
  have HD0 := Lib.hid (below_drew' (Below.refl w3.heap.size w3))
  have s0 := HK.out _ (Below.refl _ _)
  have s1 := HK.out _ HD0.out
  go_region_held3 (fun W => W.cell? ⟨G0, 0, none⟩ = some (.slice p l c) ∧ W.cell? ⟨G0, 1, none⟩ = some (.slice q m d) ∧ W.cell? ⟨G, 0, none⟩ = some (.slice yp yn yc) ∧ W.cell? ⟨G, 1, none⟩ = some (.slice yq ym yd)) (first | exact s0 | exact s1 | exact s2 | exact s3 | exact s4 | exact s5 | exact s6 | exact s7 | exact s8 | exact s9 | exact s10) (first
    | (go_at_call 16; refine (HBH.out _ (HF3.out.later HD0.out)).mono ?_; rintro e4 w4 ⟨v4, rfl, hg4, hb4⟩; obtain ⟨p4, c4, hv4, hlc4, _, hgs4, hpn4⟩ := hg4.open; subst hv4; have HB4 := Lib.hid (below_step HD0.out hb4); have s2 := HK.out _ HB4.out
       have HSM := Lib.hid (rsame_any ⟨yp, yn, yc, yq, ym, yd, yL, yM⟩ ⟨p4, (behP F T).length, c4, none, 0, 0, behP F T, []⟩ w4 (HY3.out.later HB4.out) ⟨hgs4, hpn4, hlc4, Gs.empty _ _ _, fun _ => rfl, Nat.le_refl _⟩ (by rw [HYF.out]; exact HCO.out) (by rw [HYF.out]; rfl))
       unfold Fo.v at HSM
       dsimp only at HSM
       clear hg4 hb4 hgs4 hpn4 hlc4)
    | (go_at_call 10; (fail_if_success (have hh := HB5.out)); refine HSM.out.mono ?_; rintro e5 w5 ⟨rfl, hb5⟩; have HB5 := Lib.hid (below_step HB4.out hb5); have s3 := HK.out _ HB5.out; clear hb5)
    | (go_at_call 18; refine (HID.out _ (HF3.out.later HB5.out)).mono ?_; rintro e6 w6 ⟨p6, l6, c6, rfl, hg6, hb6⟩; have HG6 := Lib.hid hg6.gs; have HB6 := Lib.hid (below_step HB5.out hb6); have s4 := HK.out _ HB6.out; clear hg6 hb6)
    | (go_at_call 19; refine (HRI.out _ (HF3.out.later HB6.out)).mono ?_; rintro e7 w7 ⟨v7, rfl, hg7, hb7⟩; obtain ⟨p7, c7, hv7, _, _, hgs7, _⟩ := hg7.open; subst hv7; have HB7 := Lib.hid (below_step HB6.out hb7); have s5 := HK.out _ HB7.out; have HIN := Lib.hid (rints_any p6 p7 l6 c6 (idsP F).length c7 (idsP F) w7 (HG6.out.later hb7) hgs7 (by have := HG6.out.len; have := HIL.out; omega)); clear hg7 hb7 hgs7)
    | (go_at_call 17; refine HIN.out.mono ?_; rintro e8 w8 ⟨rfl, nq, rfl⟩; have HB8 := Lib.hid (below_drewN HB7.out nq); generalize w7.drewN nq = w8 at *; have s6 := HK.out _ HB8.out)
    | (go_at_call 20; refine (HSY.out _ (HF3.out.later HB8.out)).mono ?_; rintro e9 w9 ⟨⟨zp, zn, zc, zq, zm, zd, zL, zM⟩, rfl, hf9, hy9, hb9⟩; have HZF := Lib.hid hy9; have HZ9 := Lib.hid hf9; have HB9 := Lib.hid (below_step HB8.out hb9); have s7 := HK.out _ HB9.out; clear hf9 hy9 hb9)
    | (go_at_call 13; refine (HNW.out _ (HF3.out.later HB9.out)).mono ?_; rintro e10 w10 ⟨v10, rfl, hg10, hb10⟩; obtain ⟨p10, c10, hv10, hlc10, _, hgs10, hpn10⟩ := hg10.open; subst hv10; have HB10 := Lib.hid (below_step HB9.out hb10); have s8 := HK.out _ HB10.out
       have HSM2 := Lib.hid (rsame_any ⟨zp, zn, zc, zq, zm, zd, zL, zM⟩ ⟨p10, (nowP F).length, c10, none, 0, 0, nowP F, []⟩ w10 (HZ9.out.later hb10) ⟨hgs10, hpn10, hlc10, Gs.empty _ _ _, fun _ => rfl, Nat.le_refl _⟩ (by rw [HZF.out]; exact HSO.out) (by rw [HZF.out]; rfl))
       unfold Fo.v at HSM2
       dsimp only at HSM2
       clear hg10 hb10 hgs10 hpn10 hlc10)
    | (go_at_call 10; refine HSM2.out.mono ?_; rintro e11 w11 ⟨rfl, hb11⟩; have HB11 := Lib.hid (below_step HB10.out hb11); have s9 := HK.out _ HB11.out; clear hb11)
    | (go_at_call 14; refine (flives_any _).mono ?_; rintro e12 w12 ⟨rfl, hb12⟩; have HB12 := Lib.hid (below_step HB11.out hb12); have s10 := HK.out _ HB12.out; clear hb12))
  go_wp2
  go_ret
  exact ⟨rfl, below_step HB3.out HB12.out⟩
theorem folderCrash_contract (H : Type) (enc : TypeId × Value → H) (W : World) (base : Nat) (args : Array Value) (ds gs : List (DataW H)) (before : List MemPlace)
    (hval : ∀ (j : Nat) t v, Try.f4.params[j]? = some t → args[j]? = some v → Value.okWide Try.prog W .any base t v)
    (hW : DataW.Whole enc Try.prog Try.f4.params.toList Rows.folderCrashSpec.vars false W args.toList ds gs before) (hk : Rows.uptoSmall H (ds ++ gs) = true) :
    Calls Try.prog 4 args W fun e W' => ∃ v, e = .returned v ∧ Rows.folderCrashSpec.post enc Try.prog Try.f4 false true false false W args v W' := by
  have hW' := hW
  obtain ⟨p, q, hA0, hV, rfl, hfz, hnd⟩ := hW
  have hA : DataW.TrodAll enc Try.prog W 0 (fun _ => true) true Try.f4.params.toList args.toList ds p := hA0
  rw [Try.params4] at hA hval
  obtain ⟨v0, vs0, d0, ds0, p0, q0, hargs, rfl, rfl, t0, r0⟩ := trodAll_cons hA
  obtain ⟨v1, vs1, d1, ds1, p1, q1, rfl, rfl, rfl, t1, r1⟩ := trodAll_cons r0
  obtain ⟨rfl, rfl, rfl⟩ := trodAll_nil r1
  obtain rfl : args = #[v0, v1] := by cases args; simp_all
  obtain ⟨rfl, rfl⟩ := trodVars_none hV
  have hk0 := of_decide_eq_true hk
  simp only [Rows.uptoBulkAll, List.append_nil] at hk0
  obtain ⟨x0, rfl, hf0, ho0, hn0⟩ := open_fol (hval 0 25 v0 rfl rfl) t0 (by omega)
  obtain ⟨m1, rfl, rfl, rfl, wm1⟩ := open_int Try.underlying3 (hval 1 3 v1 rfl rfl) t1
  have hk' := of_decide_eq_true hk
  simp only [Rows.uptoBulkAll, List.append_nil] at hk'
  refine (folCrash_walk  x0 m1 W hf0 ho0 (wfI wm1)).mono fun e W' ⟨he, hb⟩ => ?_
  subst he
  exact ⟨_, rfl, law_post laidOut (by kernel_rfl) rfl Try.underlying4 rfl hW' rfl rfl rfl hb⟩

set_option maxRecDepth 100000 in
theorem folderCrash_lifted (os : Os) (started : os.Started) (H : Type) (enc : TypeId × Value → H) (F : Stop.Interp) :
    ReturnsInHanded {} Try.checked os 4 .any ((Rows.OpenSpec.upto Rows.folderCrashSpec).pre6 enc Try.prog Try.f4 Rows.folderCrashUptoRow.domain false) (((Rows.OpenSpec.upto Rows.folderCrashSpec).at F).post enc Try.prog Try.f4 false true false false) := by
  refine returnsInHanded_of_cond (C := Try.checked) (s := Rows.OpenSpec.upto Rows.folderCrashSpec) (k := Rows.uptoSmall) rfl own started (by kernel_rfl) Try.func4
    (OpenSpec.witness (enc := enc) (C := Try.checked) (s := Rows.OpenSpec.upto Rows.folderCrashSpec) (k := Rows.uptoSmall) rfl false ⟨#[], #[.agg #[.slice none 0 0, .slice none 0 0], .int .i64 0], []⟩ 8 (by kernel_rfl) (by kernel_rfl) (by kernel_rfl)
      (x := ([.agg [.nil, .nil], .lit (.int .i64 0)], [], [])) (by kernel_rfl) rfl (by kernel_rfl)) ?_
  intro W base args ds gs before hval hW _ hk _
  exact folderCrash_contract H enc W base args ds gs before hval hW hk

theorem folderCrashUpto_holds : Rows.FolderCrashUptoSaid :=
  OpenClaim.holds_of_cond 4 Try.f4 rfl rfl rfl rfl rfl rfl rfl ⟨rfl, rfl, rfl, rfl, rfl⟩ rfl rfl rfl rfl rfl (by kernel_rfl) Try.func4 (by kernel_rfl)
    (of_decide_eq_true (by kernel_rfl)) (by unfold Func.isWrapper; first | (rw [if_pos (by decide +kernel)]; kernel_rfl) | (rw [if_neg (by decide +kernel)]; exact ⟨rfl, rfl⟩))
    (fun os started H enc _ F => folderCrash_lifted os started H enc F)
end Go.Proofs.Ytebkpjnnmlccmaa
