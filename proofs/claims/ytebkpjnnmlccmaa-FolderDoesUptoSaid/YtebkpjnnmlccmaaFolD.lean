/- The statement FolderDoes, where what it reads is of bulk at most 1048576: for every folder, every change and every name it answers true and leaves its arguments as they were. -/
import Derived.Test.YtebkpjnnmlccmaaFolR
import Derived.Test.YtebkpjnnmlccmaaFolM
import Derived.Test.YtebkpjnnmlccmaaFolO
import Derived.Test.YtebkpjnnmlccmaaLaw
namespace Go.Proofs.Ytebkpjnnmlccmaa
set_option linter.unusedVariables false
open Go.RowKit Go.Lib Go.ChangeShapes Go.WideShapes Go.ChangeAt

theorem doP_ok {disk : List Int → Bool} {F : Fd} {c : Cg} (h : F.ok) (hc : c.ok) (hn : F.l.length + F.p.length + 1 ≤ 1048576) : (doP disk F c).ok := by
  unfold doP
  split
  · refine ⟨h.1, fun x hx => ?_, by rw [List.length_append, List.length_singleton]; dsimp only; omega⟩
    rcases List.mem_append.1 hx with hx | hx
    · exact h.2.1 x hx
    · obtain rfl := List.mem_singleton.1 hx; exact hc
  · exact h
theorem now_le {F : Fd} (h : F.ok) : (nowP F).length ≤ 2097152 := by
  have h1 := behP_length F F.p.length
  have h2 := h.2.2
  unfold nowP; omega

set_option maxRecDepth 100000 in
set_option maxHeartbeats 4000000 in
theorem folDoes_walk (x : Fo) (c : Cg) (s : ByteArray) (w : World) (h : Fo.fit w x) (ho : x.fd.ok) (hn : x.n + x.m + 1 ≤ 1048576) (hc : c.ok) (hs : s.size ≤ 1048576) :
    Calls Try.prog 3 #[x.v, c.v, .string s] w fun e w' => e = .returned (.bool true) ∧ Below w.heap.size w w' := by
  have HDO := Lib.hid fun W hW => fdo_any x c W hW ho hc
  have HRD := Lib.hid fun W hW => rdo_any x c W hW ho hc
  have HFI := Lib.hid fun W hW => ffind_any x s W hW ho hs
  have HRF := Lib.hid fun W hW => rffind_any x s W hW ho
  have HNO := Lib.hid fun W hW => fnow_any x W hW ho
  have HRN := Lib.hid fun W hW => rnow_any x W hW ho
  obtain ⟨_, hll, hml⟩ := Fo.len h ho
  have HDK := Lib.hid (doP_ok (disk := diskP) ho hc (by show x.L.length + x.M.length + 1 ≤ _; omega))
  have HNL := Lib.hid (now_le ho)
  obtain ⟨p, l, cc, q, m, d, L, M⟩ := x
  have HF := Lib.hid h
  generalize hF : Fo.fd ⟨p, l, cc, q, m, d, L, M⟩ = F at *
  obtain ⟨er, her⟩ : ∃ e, errP diskP F c = e := ⟨_, rfl⟩
  obtain ⟨DF, hDF⟩ : ∃ e, doP diskP F c = e := ⟨_, rfl⟩
  rw [her, hDF] at HDO HRD
  rw [hDF] at HDK
  obtain ⟨r, hr⟩ : ∃ e, findP (nowP F) s = e := ⟨_, rfl⟩
  rw [hr] at HFI HRF
  unfold fndV at HFI HRF
  obtain ⟨ri, hri⟩ : ∃ e, r.getD 0 = e := ⟨_, rfl⟩
  obtain ⟨rb, hrb⟩ : ∃ e, r.isSome = e := ⟨_, rfl⟩
  rw [hri, hrb] at HFI HRF
  have hee : (er == er) = true := by simp
  have hii : (ri == ri) = true := by simp
  have hbb : (rb == rb) = true := by simp
  obtain ⟨ck, ca, cb, ci⟩ := c
  clear h ho hn hc hs hF her hDF hr hri hrb hll hml
  unfold Fo.v at HDO HRD HFI HRF HNO HRN ⊢
  unfold Cg.v at HDO HRD ⊢
  dsimp only at HDO HRD HFI HRF HNO HRN ⊢
  obtain ⟨wA, hA⟩ : ∃ A, (w.alloc (.cells #[.slice p l cc, .slice q m d] 25)).alloc (.cells #[.int .i64 ck, .string ca, .string cb, .int .i64 ci] 27) = A := ⟨_, rfl⟩
  obtain ⟨G0, hG0⟩ : ∃ G, w.heap.size = G := ⟨_, rfl⟩
  obtain ⟨G1, hG1⟩ : ∃ G, G0 + 1 = G := ⟨_, rfl⟩
  have HBA : Hid (Below w.heap.size w wA) := Lib.hid (by rw [← hA]; exact below_alloc' (below_alloc' (Below.refl _ _) _) _)
  have HI : Hid (Fw wA G0 ⟨p, l, cc, q, m, d, L, M⟩) := Lib.hid (by rw [← hA, ← hG0]; exact Fw.later (heap_alloc_new _ _) (below_alloc' (Below.refl _ _) _))
  have HC : Hid (Cw wA G1 ⟨ck, ca, cb, ci⟩) := Lib.hid (by rw [← hA, ← hG1, ← hG0]; exact two_new _ _ _)
  have HFA := Lib.hid (HF.out.later HBA.out)
  obtain ⟨i0, i1⟩ := HI.out.cells
  obtain ⟨g0, g1, g2, g3⟩ := HC.out.cells
  go_enter Try.func3, Try.ntmps3
  go_wp2_with fail
  clear hA hG0 hG1 i0 i1 g0 g1 g2 g3
  refine (HDO.out _ HFA.out).mono ?_
  rintro e2 w2 ⟨⟨yp, yn, yc, yq, ym, yd, yL, yM⟩, rfl, hf2, hy2, hb2⟩
  have HYF : Hid (Fo.fd ⟨yp, yn, yc, yq, ym, yd, yL, yM⟩ = DF) := Lib.hid hy2
  obtain ⟨w3, hw3⟩ : ∃ W, w2.alloc (.cells #[.slice yp yn yc, .slice yq ym yd] 25) = W := ⟨_, rfl⟩
  obtain ⟨G2, hG2⟩ : ∃ G, w2.heap.size = G := ⟨_, rfl⟩
  have hx3 : Below w2.heap.size w2 w3 := by rw [← hw3]; exact below_alloc' (Below.refl _ _) _
  have HX3 := Lib.hid (below_step hb2 hx3)
  have HB3 := Lib.hid (below_step HBA.out HX3.out)
  have HF3 := Lib.hid (HFA.out.later HX3.out)
  have HI3 := Lib.hid (HI.out.later HX3.out)
  have HC3 := Lib.hid (HC.out.later HX3.out)
  have HY3 : Hid (Fo.fit w3 ⟨yp, yn, yc, yq, ym, yd, yL, yM⟩) := Lib.hid (hf2.later hx3)
  have HG3 : Hid (Fw w3 G2 ⟨yp, yn, yc, yq, ym, yd, yL, yM⟩) := Lib.hid (by rw [← hw3, ← hG2]; exact heap_alloc_new _ _)
  clear hf2 hy2 hb2 hx3 HDO HI HC HFA HBA HX3
  obtain ⟨i0, i1⟩ := HI3.out.cells
  obtain ⟨g0, g1, g2, g3⟩ := HC3.out.cells
  go_wp2_with fail
  clear hw3 hG2 i0 i1 g0 g1 g2 g3
  refine (HRD.out _ HF3.out).mono ?_
  rintro e4 w4 ⟨⟨zp, zn, zc, zq, zm, zd, zL, zM⟩, rfl, hf4, hy4, hb4⟩
  have HZF : Hid (Fo.fd ⟨zp, zn, zc, zq, zm, zd, zL, zM⟩ = DF) := Lib.hid hy4
  obtain ⟨w5, hw5⟩ : ∃ W, w4.alloc (.cells #[.slice zp zn zc, .slice zq zm zd] 25) = W := ⟨_, rfl⟩
  obtain ⟨G4, hG4⟩ : ∃ G, w4.heap.size = G := ⟨_, rfl⟩
  have hx5 : Below w4.heap.size w4 w5 := by rw [← hw5]; exact below_alloc' (Below.refl _ _) _
  have HX5 := Lib.hid (below_step hb4 hx5)
  have HB5 := Lib.hid (below_step HB3.out HX5.out)
  have HF5 := Lib.hid (HF3.out.later HX5.out)
  have HI5 := Lib.hid (HI3.out.later HX5.out)
  have HY5 := Lib.hid (HY3.out.later HX5.out)
  have HG5 := Lib.hid (HG3.out.later HX5.out)
  have HZ5 : Hid (Fo.fit w5 ⟨zp, zn, zc, zq, zm, zd, zL, zM⟩) := Lib.hid (hf4.later hx5)
  have HH5 : Hid (Fw w5 G4 ⟨zp, zn, zc, zq, zm, zd, zL, zM⟩) := Lib.hid (by rw [← hw5, ← hG4]; exact heap_alloc_new _ _)
  clear hf4 hy4 hb4 hx5 HRD HI3 HC3 HF3 HY3 HG3 HX5 HB3
  obtain ⟨i0, i1⟩ := HI5.out.cells
  go_wp2_with fail
  clear hw5 hG4 i0 i1
  refine (HFI.out _ HF5.out).mono ?_
  rintro e6 w6 ⟨rfl, hb6⟩
  have HB6 := Lib.hid (below_step HB5.out hb6)
  have HF6 := Lib.hid (HF5.out.later hb6)
  have HI6 := Lib.hid (HI5.out.later hb6)
  have HY6 := Lib.hid (HY5.out.later hb6)
  have HG6 := Lib.hid (HG5.out.later hb6)
  have HZ6 := Lib.hid (HZ5.out.later hb6)
  have HH6 := Lib.hid (HH5.out.later hb6)
  clear hb6 HFI HI5 HF5 HY5 HG5 HZ5 HH5 HB5
  obtain ⟨i0, i1⟩ := HI6.out.cells
  go_wp2_with fail
  clear i0 i1
  refine (HRF.out _ HF6.out).mono ?_
  rintro e7 w7 ⟨rfl, hb7⟩
  have HB7 := Lib.hid (below_step HB6.out hb7)
  have HF7 := Lib.hid (HF6.out.later hb7)
  have HI7 := Lib.hid (HI6.out.later hb7)
  have HY7 := Lib.hid (HY6.out.later hb7)
  have HG7 := Lib.hid (HG6.out.later hb7)
  have HZ7 := Lib.hid (HZ6.out.later hb7)
  have HH7 := Lib.hid (HH6.out.later hb7)
  clear hb7 HRF HI6 HF6 HY6 HG6 HZ6 HH6 HB6
  go_wp2_with fail
  have HK : Hid (∀ W, Below w7.heap.size w7 W → W.cell? ⟨G0, 0, none⟩ = some (.slice p l cc) ∧ W.cell? ⟨G0, 1, none⟩ = some (.slice q m d) ∧ W.cell? ⟨G2, 0, none⟩ = some (.slice yp yn yc) ∧ W.cell? ⟨G2, 1, none⟩ = some (.slice yq ym yd) ∧ W.cell? ⟨G4, 0, none⟩ = some (.slice zp zn zc) ∧ W.cell? ⟨G4, 1, none⟩ = some (.slice zq zm zd)) := Lib.hid fun W hW => ⟨(HI7.out.later hW).cells.1, (HI7.out.later hW).cells.2, (HG7.out.later hW).cells.1, (HG7.out.later hW).cells.2, (HH7.out.later hW).cells.1, (HH7.out.later hW).cells.2⟩
  have HD0 := Lib.hid (below_drew' (Below.refl w7.heap.size w7))
  have s0 := HK.out _ (Below.refl _ _)
  have s1 := HK.out _ HD0.out
  have HSM := Lib.hid fun W (hW : Below w7.heap.size w7 W) => rsame_any ⟨yp, yn, yc, yq, ym, yd, yL, yM⟩ ⟨zp, zn, zc, zq, zm, zd, zL, zM⟩ W (HY7.out.later hW) (HZ7.out.later hW) (by rw [HYF.out]; exact HDK.out) (HZF.out.trans HYF.out.symm)
  unfold Fo.v at HSM
  dsimp only at HSM
  go_region_held3 (fun W => W.cell? ⟨G0, 0, none⟩ = some (.slice p l cc) ∧ W.cell? ⟨G0, 1, none⟩ = some (.slice q m d) ∧ W.cell? ⟨G2, 0, none⟩ = some (.slice yp yn yc) ∧ W.cell? ⟨G2, 1, none⟩ = some (.slice yq ym yd) ∧ W.cell? ⟨G4, 0, none⟩ = some (.slice zp zn zc) ∧ W.cell? ⟨G4, 1, none⟩ = some (.slice zq zm zd)) (first | exact s0 | exact s1 | exact s2 | exact s3 | exact s4 | exact s5 | exact s6) (first
    | (go_at_call 10; refine (HSM.out _ HD0.out).mono ?_; rintro e8 w8 ⟨rfl, hb8⟩; have HB8 := Lib.hid (below_step HD0.out hb8); have s2 := HK.out _ HB8.out; clear hb8)
    | (go_at_call 12; refine (HNO.out _ (HF7.out.later HB8.out)).mono ?_; rintro e9 w9 ⟨p9, l9, c9, rfl, hg9, hb9⟩; have HN9 := Lib.hid hg9.gs; have HB9 := Lib.hid (below_step HB8.out hb9); have s3 := HK.out _ HB9.out; clear hg9 hb9)
    | (go_at_call 13; refine (HRN.out _ (HF7.out.later HB9.out)).mono ?_; rintro e10 w10 ⟨v10, rfl, hg10, hb10⟩; obtain ⟨p10, c10, hv10, _, _, hgs10, _⟩ := hg10.open; subst hv10; have HB10 := Lib.hid (below_step HB9.out hb10); have s4 := HK.out _ HB10.out; have HNA := Lib.hid (rnames_any p9 p10 l9 c9 (nowP F).length c10 (nowP F) w10 (HN9.out.later hb10) hgs10 (by have := HN9.out.len; have := HNL.out; omega)); clear hg10 hb10 hgs10)
    | (go_at_call 11; refine HNA.out.mono ?_; rintro e11 w11 ⟨rfl, nq, rfl⟩; have HB11 := Lib.hid (below_drewN HB10.out nq); generalize w10.drewN nq = w11 at *; have s5 := HK.out _ HB11.out)
    | (go_at_call 14; refine (flives_any _).mono ?_; rintro e12 w12 ⟨rfl, hb12⟩; have HB12 := Lib.hid (below_step HB11.out hb12); have s6 := HK.out _ HB12.out; clear hb12))
  go_wp2
  go_ret
  exact ⟨rfl, below_step HB7.out HB12.out⟩
theorem folderDoes_contract (H : Type) (enc : TypeId × Value → H) (W : World) (base : Nat) (args : Array Value) (ds gs : List (DataW H)) (before : List MemPlace)
    (hval : ∀ (j : Nat) t v, Try.f3.params[j]? = some t → args[j]? = some v → Value.okWide Try.prog W .any base t v)
    (hW : DataW.Whole enc Try.prog Try.f3.params.toList Rows.folderDoesSpec.vars false W args.toList ds gs before) (hk : Rows.uptoSmall H (ds ++ gs) = true) :
    Calls Try.prog 3 args W fun e W' => ∃ v, e = .returned v ∧ Rows.folderDoesSpec.post enc Try.prog Try.f3 false true false false W args v W' := by
  have hW' := hW
  obtain ⟨p, q, hA0, hV, rfl, hfz, hnd⟩ := hW
  have hA : DataW.TrodAll enc Try.prog W 0 (fun _ => true) true Try.f3.params.toList args.toList ds p := hA0
  rw [Try.params3] at hA hval
  obtain ⟨v0, vs0, d0, ds0, p0, q0, hargs, rfl, rfl, t0, r0⟩ := trodAll_cons hA
  obtain ⟨v1, vs1, d1, ds1, p1, q1, rfl, rfl, rfl, t1, r1⟩ := trodAll_cons r0
  obtain ⟨v2, vs2, d2, ds2, p2, q2, rfl, rfl, rfl, t2, r2⟩ := trodAll_cons r1
  obtain ⟨rfl, rfl, rfl⟩ := trodAll_nil r2
  obtain rfl : args = #[v0, v1, v2] := by cases args; simp_all
  obtain ⟨rfl, rfl⟩ := trodVars_none hV
  have hk0 := of_decide_eq_true hk
  simp only [Rows.uptoBulkAll, List.append_nil] at hk0
  obtain ⟨x0, rfl, hf0, ho0, hn0⟩ := open_fol (hval 0 25 v0 rfl rfl) t0 (by omega)
  obtain ⟨c1, rfl, ho1⟩ := open_chg (hval 1 27 v1 rfl rfl) t1 (by omega)
  obtain ⟨s2, rfl, hs2, hb2⟩ := open_strT Try.underlying9 (hval 2 9 v2 rfl rfl) t2
  have hk' := of_decide_eq_true hk
  simp only [Rows.uptoBulkAll, List.append_nil, hb2] at hk'
  refine (folDoes_walk  x0 c1 s2 W hf0 ho0 hn0 ho1 (by omega)).mono fun e W' ⟨he, hb⟩ => ?_
  subst he
  exact ⟨_, rfl, law_post laidOut (by kernel_rfl) rfl Try.underlying4 rfl hW' rfl rfl rfl hb⟩

set_option maxRecDepth 100000 in
theorem folderDoes_lifted (os : Os) (started : os.Started) (H : Type) (enc : TypeId × Value → H) (F : Stop.Interp) :
    ReturnsInHanded {} Try.checked os 3 .any ((Rows.OpenSpec.upto Rows.folderDoesSpec).pre6 enc Try.prog Try.f3 Rows.folderDoesUptoRow.domain false) (((Rows.OpenSpec.upto Rows.folderDoesSpec).at F).post enc Try.prog Try.f3 false true false false) := by
  refine returnsInHanded_of_cond (C := Try.checked) (s := Rows.OpenSpec.upto Rows.folderDoesSpec) (k := Rows.uptoSmall) rfl own started (by kernel_rfl) Try.func3
    (OpenSpec.witness (enc := enc) (C := Try.checked) (s := Rows.OpenSpec.upto Rows.folderDoesSpec) (k := Rows.uptoSmall) rfl false ⟨#[], #[.agg #[.slice none 0 0, .slice none 0 0], .agg #[.int .i64 0, .string ⟨#[]⟩, .string ⟨#[]⟩, .int .i64 0], .string ⟨#[]⟩], []⟩ 8 (by kernel_rfl) (by kernel_rfl) (by kernel_rfl)
      (x := ([.agg [.nil, .nil], .agg [.lit (.int .i64 0), .lit (.string []), .lit (.string []), .lit (.int .i64 0)], .lit (.string [])], [], [])) (by kernel_rfl) rfl (by kernel_rfl)) ?_
  intro W base args ds gs before hval hW _ hk _
  exact folderDoes_contract H enc W base args ds gs before hval hW hk

theorem folderDoesUpto_holds : Rows.FolderDoesUptoSaid :=
  OpenClaim.holds_of_cond 3 Try.f3 rfl rfl rfl rfl rfl rfl rfl ⟨rfl, rfl, rfl, rfl, rfl⟩ rfl rfl rfl rfl rfl (by kernel_rfl) Try.func3 (by kernel_rfl)
    (of_decide_eq_true (by kernel_rfl)) (by unfold Func.isWrapper; first | (rw [if_pos (by decide +kernel)]; kernel_rfl) | (rw [if_neg (by decide +kernel)]; exact ⟨rfl, rfl⟩))
    (fun os started H enc _ F => folderDoes_lifted os started H enc F)
end Go.Proofs.Ytebkpjnnmlccmaa
