/- Layer 11: the reference's Do. -/
import Derived.Test.YtebkpjnnmlccmaaFolL
import Derived.Test.YtebkpjnnmlccmaaFolW
namespace Go.Proofs.Ytebkpjnnmlccmaa
set_option linter.unusedVariables false
open Go.RowKit Go.Lib Go.Maps

set_option maxRecDepth 100000 in
set_option maxHeartbeats 8000000 in
theorem rdo_any (x : Fo) (c : Cg) (w : World) (h : Fo.fit w x) (ho : x.fd.ok) (hc : c.ok) :
    Calls Try.prog 7 #[x.v, c.v] w fun e w' => ∃ y : Fo, e = .returned (.tuple #[y.v, .int .i64 (errP diskP x.fd c)]) ∧ Fo.fit w' y ∧ y.fd = doP diskP x.fd c ∧ Below w.heap.size w w' := by
  obtain ⟨hnm, hll, hml⟩ := Fo.len h ho
  obtain ⟨ck, ca, cb, ci⟩ := c
  have hca : ca.size ≤ 1048576 := hc.2.1
  have hcb : cb.size ≤ 1048576 := hc.2.2.1
  have HFI := Lib.hid fun W hW => rffind_any x ca W hW ho
  have HDA := Lib.hid fun W => rdisk_any ca W (by omega)
  have HDB := Lib.hid fun W => rdisk_any cb W (by omega)
  have HDO : Hid (doP diskP x.fd ⟨ck, ca, cb, ci⟩ = if errP diskP x.fd ⟨ck, ca, cb, ci⟩ = 0 then ⟨x.fd.l, x.fd.p ++ [⟨ck, ca, cb, ci⟩]⟩ else x.fd) := Lib.hid rfl
  obtain ⟨p, l, cc, q, m, d, L, M⟩ := x
  dsimp only at hnm hll hml
  have HFD : Hid (Fo.fd ⟨p, l, cc, q, m, d, L, M⟩ = ⟨L, M⟩) := Lib.hid rfl
  generalize Fo.fd ⟨p, l, cc, q, m, d, L, M⟩ = F at *
  have HML := Lib.hid hml
  have HNMm : Hid (m ≤ 1048576) := Lib.hid (by omega)
  have HF := Lib.hid h
  unfold Fo.v at HFI ⊢
  unfold Cg.v
  dsimp only at HFI ⊢
  obtain ⟨wA, hA⟩ : ∃ A, ((w.alloc (.cells #[.slice p l cc, .slice q m d] 25)).alloc (.cells #[.int .i64 ck, .string ca, .string cb, .int .i64 ci] 27)).alloc (.cells #[.slice none 0 0, .slice none 0 0] 25) = A := ⟨_, rfl⟩
  obtain ⟨G0, hG0⟩ : ∃ G, w.heap.size = G := ⟨_, rfl⟩
  obtain ⟨G1, hG1⟩ : ∃ G, G0 + 1 = G := ⟨_, rfl⟩
  obtain ⟨G2, hG2⟩ : ∃ G, G1 + 1 = G := ⟨_, rfl⟩
  have HGG : Hid (w.heap.size ≤ G2) := Lib.hid (by omega)
  have HG02 : Hid (G0 ≠ G2) := Lib.hid (by omega)
  have HG12 : Hid (G1 ≠ G2) := Lib.hid (by omega)
  have HBA : Hid (Below w.heap.size w wA) := Lib.hid (by rw [← hA]; exact below_alloc' (below_alloc' (below_alloc' (Below.refl _ _) _) _) _)
  have HI : Hid (Fw wA G0 ⟨p, l, cc, q, m, d, L, M⟩) := Lib.hid (by rw [← hA, ← hG0]; exact Fw.later (Fw.later (heap_alloc_new _ _) (below_alloc' (Below.refl _ _) _)) (below_alloc' (Below.refl _ _) _))
  have HC : Hid (Cw wA G1 ⟨ck, ca, cb, ci⟩) := Lib.hid (by rw [← hA, ← hG1, ← hG0]; exact Cw.later (two_new _ _ _) (below_alloc' (Below.refl _ _) _))
  have HZ : Hid (Fw wA G2 fo0) := Lib.hid (by
    rw [← hA, ← hG2, ← hG1, ← hG0]
    have := heap_alloc_new ((w.alloc (.cells #[.slice p l cc, .slice q m d] 25)).alloc (.cells #[.int .i64 ck, .string ca, .string cb, .int .i64 ci] 27)) (.cells #[.slice none 0 0, .slice none 0 0] 25)
    have e : ((w.alloc (.cells #[.slice p l cc, .slice q m d] 25)).alloc (.cells #[.int .i64 ck, .string ca, .string cb, .int .i64 ci] 27)).heap.size = w.heap.size + 1 + 1 := by simp
    rw [e] at this
    exact this)
  have HFA := Lib.hid (HF.out.later HBA.out)
  have HK : Hid (∀ W, Below wA.heap.size wA W → W.cell? ⟨G0, 0, none⟩ = some (.slice p l cc) ∧ W.cell? ⟨G0, 1, none⟩ = some (.slice q m d) ∧ W.cell? ⟨G1, 0, none⟩ = some (.int .i64 ck) ∧ W.cell? ⟨G1, 1, none⟩ = some (.string ca) ∧ W.cell? ⟨G1, 2, none⟩ = some (.string cb) ∧ W.cell? ⟨G1, 3, none⟩ = some (.int .i64 ci)) := Lib.hid fun W hW => ⟨(HI.out.later hW).cells.1, (HI.out.later hW).cells.2, (HC.out.later hW).cells.1, (HC.out.later hW).cells.2.1, (HC.out.later hW).cells.2.2.1, (HC.out.later hW).cells.2.2.2⟩
  have HK2 : Hid (∀ W v0 v1, Below wA.heap.size wA W → ((W.setCell ⟨G2, 0, none⟩ v0).setCell ⟨G2, 1, none⟩ v1).cell? ⟨G0, 0, none⟩ = some (.slice p l cc) ∧ ((W.setCell ⟨G2, 0, none⟩ v0).setCell ⟨G2, 1, none⟩ v1).cell? ⟨G0, 1, none⟩ = some (.slice q m d) ∧ ((W.setCell ⟨G2, 0, none⟩ v0).setCell ⟨G2, 1, none⟩ v1).cell? ⟨G1, 0, none⟩ = some (.int .i64 ck) ∧ ((W.setCell ⟨G2, 0, none⟩ v0).setCell ⟨G2, 1, none⟩ v1).cell? ⟨G1, 1, none⟩ = some (.string ca) ∧ ((W.setCell ⟨G2, 0, none⟩ v0).setCell ⟨G2, 1, none⟩ v1).cell? ⟨G1, 2, none⟩ = some (.string cb) ∧ ((W.setCell ⟨G2, 0, none⟩ v0).setCell ⟨G2, 1, none⟩ v1).cell? ⟨G1, 3, none⟩ = some (.int .i64 ci)) := Lib.hid fun W v0 v1 hW => by
    have h1 := HK.out W hW
    have hk := stored2_keep W G2 v0 v1 G0 HG02.out
    have hl := stored2_keep W G2 v0 v1 G1 HG12.out
    rw [World.cell?_of_block (a := ⟨G0, 0, none⟩) hk, World.cell?_of_block (a := ⟨G0, 1, none⟩) hk, World.cell?_of_block (a := ⟨G1, 0, none⟩) hl, World.cell?_of_block (a := ⟨G1, 1, none⟩) hl, World.cell?_of_block (a := ⟨G1, 2, none⟩) hl, World.cell?_of_block (a := ⟨G1, 3, none⟩) hl]
    exact h1
  obtain ⟨i0, i1, g0, g1, g2, g3⟩ := HK.out _ (Below.refl _ _)
  obtain ⟨r, hr⟩ : ∃ r, findP (nowP F) ca = r := ⟨_, rfl⟩
  obtain ⟨da, hda⟩ : ∃ r, diskP (numsOf ca) = r := ⟨_, rfl⟩
  obtain ⟨db, hdb⟩ : ∃ r, diskP (numsOf cb) = r := ⟨_, rfl⟩
  have HR := Lib.hid hr
  have HDAE := Lib.hid hda
  have HDBE := Lib.hid hdb
  clear h ho hc hr hda hdb hca hcb hnm hll hml
  by_cases h1 : ck = 1
  · subst h1
    cases da with
    | false =>
      have HE : Hid (errP diskP F ⟨1, ca, cb, ci⟩ = 12) := Lib.hid (by unfold errP; dsimp only; rw [HDAE.out, if_pos rfl, if_pos rfl])
      have HP : Hid (doP diskP F ⟨1, ca, cb, ci⟩ = F) := Lib.hid (by rw [HDO.out, HE.out]; rfl)
      go_enter Try.func7, Try.ntmps7
      go_wp2_with (first
        | (go_at_call 9; refine (HFI.out _ HFA.out).mono ?_; rintro e w2 ⟨rfl, hb2⟩; rw [HR.out]; unfold fndV; dsimp only [Option.getD_none, Option.getD_some, Option.isSome_none, Option.isSome_some]; have HB2 := Lib.hid hb2; have kk := HK.out _ hb2; have HZ2 := Lib.hid (HZ.out.later hb2); have HP2 := Lib.hid (HFA.out.later hb2); have HO2 := Lib.hid (Gw.nil encC w2 w2.heap.size); obtain ⟨z0, z1⟩ := HZ2.out.cells; have f0 := HZ2.out.frozen 0; have f1 := HZ2.out.frozen 1; clear hb2; clear hA hG0 hG1 hG2; clear i0 i1 g0 g1 g2 g3; obtain ⟨i0, i1, g0, g1, g2, g3⟩ := kk)
        | (go_at_call 24; refine (HDA.out _).mono ?_; rintro e w3 ⟨rfl, rfl⟩; rw [HDAE.out]))
      refine bodyPost_ret (Fw.results_tmp (y := ⟨p, l, cc, q, m, d, L, M⟩) (cells2_stored HZ2.out _ _) rfl _ rfl) rfl ?_
      refine ⟨⟨p, l, cc, q, m, d, L, M⟩, by rw [HE.out]; rfl, HP2.out.stored HZ2.out.sl2 (stored2_keep _ _ _ _), by rw [HP.out]; exact HFD.out.symm, ((below_step HBA.out HB2.out).setCell (p := ⟨G2, 0, none⟩) HGG.out _).setCell (p := ⟨G2, 1, none⟩) HGG.out _⟩
    | true => cases r with
      | none =>
        have HE : Hid (errP diskP F ⟨1, ca, cb, ci⟩ = 0) := Lib.hid (by unfold errP; dsimp only; rw [HDAE.out, HR.out]; rfl)
        have HP : Hid (doP diskP F ⟨1, ca, cb, ci⟩ = ⟨F.l, F.p ++ [⟨1, ca, cb, ci⟩]⟩) := Lib.hid (by rw [HDO.out, HE.out]; rfl)
        have HZL : Hid (([] : List Cg).length + m ≤ 2097152) := Lib.hid (by have := HNMm.out; simp; omega)
        go_enter Try.func7, Try.ntmps7
        go_wp2_with (first
          | (go_at_call 9; refine (HFI.out _ HFA.out).mono ?_; rintro e w2 ⟨rfl, hb2⟩; rw [HR.out]; unfold fndV; dsimp only [Option.getD_none, Option.getD_some, Option.isSome_none, Option.isSome_some]; have HB2 := Lib.hid hb2; have kk := HK.out _ hb2; have HZ2 := Lib.hid (HZ.out.later hb2); have HP2 := Lib.hid (HFA.out.later hb2); have HO2 := Lib.hid (Gw.nil encC w2 w2.heap.size); obtain ⟨z0, z1⟩ := HZ2.out.cells; have f0 := HZ2.out.frozen 0; have f1 := HZ2.out.frozen 1; clear hb2; clear hA hG0 hG1 hG2; clear i0 i1 g0 g1 g2 g3; obtain ⟨i0, i1, g0, g1, g2, g3⟩ := kk)
          | (go_at_call 24; refine (HDA.out _).mono ?_; rintro e w3 ⟨rfl, rfl⟩; rw [HDAE.out])
          | (refine wpList_append_gen encC rfl (.const (.slice none 0 0)) (.tmp 61) 23 rfl Try.underlying23 czero 48 infoC rfl (by decide) w2.heap.size _ [] rfl HO2.out q m d M rfl HP2.out.2.2.2.1 HP2.out.2.2.2.2.1 HZL.out (Nat.le_refl _) ?_; intro v4 w4 ho4 hg4; rw [List.nil_append] at ho4; have HO4 := Lib.hid ho4; have HX4 := Lib.hid (below_none hg4); obtain ⟨q4, d4, hv4, _, _, _, _⟩ := ho4.open; rw [HML.out] at hv4; subst hv4; have HB4 := Lib.hid (below_step HB2.out HX4.out); clear ho4 hg4))
        clear i0 i1 g0 g1 g2 g3 z0 z1 f0 f1
        have HD5 := Lib.hid (below_drew' HB4.out)
        have HB6 := Lib.hid (below_alloc' HD5.out (.cells #[.int .i64 1, .string ca, .string cb, .int .i64 ci] 27))
        have HO6 := Lib.hid ((HO4.out.later ((Below.refl _ _).drew)).alloc (.cells #[.int .i64 1, .string ca, .string cb, .int .i64 ci] 27))
        have HN6 : Hid (Gs encC (w4.drew.alloc (.cells #[.int .i64 1, .string ca, .string cb, .int .i64 ci] 27)) (some ⟨w4.drew.heap.size, 0, none⟩) 1 [⟨1, ca, cb, ci⟩]) := Lib.hid (Gs.one encC w4.drew ⟨1, ca, cb, ci⟩ _ rfl _ _)
        have HK6 : Hid (w2.heap.size ≤ (w4.drew.alloc (.cells #[.int .i64 1, .string ca, .string cb, .int .i64 ci] 27)).heap.size) := Lib.hid (Nat.le_trans HX4.out.size ((below_alloc' (below_drew' (Below.refl w4.heap.size w4)) _).size))
        have k0 := HK.out _ HB4.out
        have k1 := HK.out _ HD5.out
        have k2 := HK.out _ HB6.out
        go_region_held3 (fun W => W.cell? ⟨G0, 0, none⟩ = some (.slice p l cc) ∧ W.cell? ⟨G0, 1, none⟩ = some (.slice q m d) ∧ W.cell? ⟨G1, 0, none⟩ = some (.int .i64 1) ∧ W.cell? ⟨G1, 1, none⟩ = some (.string ca) ∧ W.cell? ⟨G1, 2, none⟩ = some (.string cb) ∧ W.cell? ⟨G1, 3, none⟩ = some (.int .i64 ci)) (first | exact k0 | exact k1 | exact k2 | exact k3 | exact k4) (first | (refine step_append_gen encC rfl (.tmp 65) (.tmp 67) 23 rfl Try.underlying23 czero 48 infoC rfl (by decide) w2.heap.size (.slice q4 m d4) M rfl HO6.out _ _ _ [⟨1, ca, cb, ci⟩] rfl HN6.out (fun h => by cases h) (by rw [HML.out]; have := HNMm.out; omega) HK6.out ?_; intro v7 w7 ho7 hg7; obtain ⟨q7, d7, hv7, hld7, _, hgs7, hpn7⟩ := ho7.open; have hlen7 : (M ++ [(⟨1, ca, cb, ci⟩ : Cg)]).length = m + 1 := (List.length_append.trans (by rw [HML.out, List.length_singleton])); rw [hlen7] at hv7 hld7 hgs7; subst hv7; have HB7 := Lib.hid (HB6.out.trans ((below_new_gw (Below.refl w2.heap.size _) HO6.out hg7 HK6.out).mono HB2.out.size)); have k3 := HK.out _ HB7.out; have k4 := HK2.out w7 (.slice p l cc) (.slice q7 (m + 1) d7) HB7.out; have HZ7 := Lib.hid (HZ.out.later HB7.out); have HG7 := Lib.hid hgs7; have HP7 := Lib.hid hpn7; have HD7 := Lib.hid hld7; have HF7 := Lib.hid (HFA.out.later HB7.out); obtain ⟨z0, z1⟩ := HZ7.out.cells; have f0 := HZ7.out.frozen 0; have f1 := HZ7.out.frozen 1; clear ho7 hg7 hgs7 hpn7 hld7 hlen7))
        go_wp2
        refine bodyPost_ret (Fw.results_tmp (y := ⟨p, l, cc, q7, m + 1, d7, L, M ++ [⟨1, ca, cb, ci⟩]⟩) (cells2_stored HZ7.out _ _) rfl _ rfl) rfl ?_
        refine ⟨⟨p, l, cc, q7, m + 1, d7, L, M ++ [⟨1, ca, cb, ci⟩]⟩, by rw [HE.out]; rfl, ⟨HF7.out.1.stored flatN HZ7.out.sl2 (stored2_keep _ _ _ _), HF7.out.2.1, HF7.out.2.2.1, HG7.out.stored flatC HZ7.out.sl2 (stored2_keep _ _ _ _), HP7.out, HD7.out⟩, by rw [HP.out, HFD.out]; rfl, ((below_step HBA.out HB7.out).setCell (p := ⟨G2, 0, none⟩) HGG.out _).setCell (p := ⟨G2, 1, none⟩) HGG.out _⟩
      | some i =>
        have HE : Hid (errP diskP F ⟨1, ca, cb, ci⟩ = 7) := Lib.hid (by unfold errP; dsimp only; rw [HDAE.out, HR.out]; rfl)
        have HP : Hid (doP diskP F ⟨1, ca, cb, ci⟩ = F) := Lib.hid (by rw [HDO.out, HE.out]; rfl)
        go_enter Try.func7, Try.ntmps7
        go_wp2_with (first
          | (go_at_call 9; refine (HFI.out _ HFA.out).mono ?_; rintro e w2 ⟨rfl, hb2⟩; rw [HR.out]; unfold fndV; dsimp only [Option.getD_none, Option.getD_some, Option.isSome_none, Option.isSome_some]; have HB2 := Lib.hid hb2; have kk := HK.out _ hb2; have HZ2 := Lib.hid (HZ.out.later hb2); have HP2 := Lib.hid (HFA.out.later hb2); have HO2 := Lib.hid (Gw.nil encC w2 w2.heap.size); obtain ⟨z0, z1⟩ := HZ2.out.cells; have f0 := HZ2.out.frozen 0; have f1 := HZ2.out.frozen 1; clear hb2; clear hA hG0 hG1 hG2; clear i0 i1 g0 g1 g2 g3; obtain ⟨i0, i1, g0, g1, g2, g3⟩ := kk)
          | (go_at_call 24; refine (HDA.out _).mono ?_; rintro e w3 ⟨rfl, rfl⟩; rw [HDAE.out]))
        refine bodyPost_ret (Fw.results_tmp (y := ⟨p, l, cc, q, m, d, L, M⟩) (cells2_stored HZ2.out _ _) rfl _ rfl) rfl ?_
        refine ⟨⟨p, l, cc, q, m, d, L, M⟩, by rw [HE.out]; rfl, HP2.out.stored HZ2.out.sl2 (stored2_keep _ _ _ _), by rw [HP.out]; exact HFD.out.symm, ((below_step HBA.out HB2.out).setCell (p := ⟨G2, 0, none⟩) HGG.out _).setCell (p := ⟨G2, 1, none⟩) HGG.out _⟩
  by_cases h2 : ck = 2
  · subst h2
    clear h1
    cases r with
    | none =>
      have HE : Hid (errP diskP F ⟨2, ca, cb, ci⟩ = 6) := Lib.hid (by unfold errP; dsimp only; rw [HR.out]; rfl)
      have HP : Hid (doP diskP F ⟨2, ca, cb, ci⟩ = F) := Lib.hid (by rw [HDO.out, HE.out]; rfl)
      go_enter Try.func7, Try.ntmps7
      go_wp2_with (first
        | (go_at_call 9; refine (HFI.out _ HFA.out).mono ?_; rintro e w2 ⟨rfl, hb2⟩; rw [HR.out]; unfold fndV; dsimp only [Option.getD_none, Option.getD_some, Option.isSome_none, Option.isSome_some]; have HB2 := Lib.hid hb2; have kk := HK.out _ hb2; have HZ2 := Lib.hid (HZ.out.later hb2); have HP2 := Lib.hid (HFA.out.later hb2); have HO2 := Lib.hid (Gw.nil encC w2 w2.heap.size); obtain ⟨z0, z1⟩ := HZ2.out.cells; have f0 := HZ2.out.frozen 0; have f1 := HZ2.out.frozen 1; clear hb2; clear hA hG0 hG1 hG2; clear i0 i1 g0 g1 g2 g3; obtain ⟨i0, i1, g0, g1, g2, g3⟩ := kk)
        | (go_at_call 24; refine (HDB.out _).mono ?_; rintro e w3 ⟨rfl, rfl⟩; rw [HDBE.out]))
      refine bodyPost_ret (Fw.results_tmp (y := ⟨p, l, cc, q, m, d, L, M⟩) (cells2_stored HZ2.out _ _) rfl _ rfl) rfl ?_
      refine ⟨⟨p, l, cc, q, m, d, L, M⟩, by rw [HE.out]; rfl, HP2.out.stored HZ2.out.sl2 (stored2_keep _ _ _ _), by rw [HP.out]; exact HFD.out.symm, ((below_step HBA.out HB2.out).setCell (p := ⟨G2, 0, none⟩) HGG.out _).setCell (p := ⟨G2, 1, none⟩) HGG.out _⟩
    | some i => cases db with
      | false =>
        have HE : Hid (errP diskP F ⟨2, ca, cb, ci⟩ = 12) := Lib.hid (by unfold errP; dsimp only; rw [HR.out, HDBE.out]; rfl)
        have HP : Hid (doP diskP F ⟨2, ca, cb, ci⟩ = F) := Lib.hid (by rw [HDO.out, HE.out]; rfl)
        go_enter Try.func7, Try.ntmps7
        go_wp2_with (first
          | (go_at_call 9; refine (HFI.out _ HFA.out).mono ?_; rintro e w2 ⟨rfl, hb2⟩; rw [HR.out]; unfold fndV; dsimp only [Option.getD_none, Option.getD_some, Option.isSome_none, Option.isSome_some]; have HB2 := Lib.hid hb2; have kk := HK.out _ hb2; have HZ2 := Lib.hid (HZ.out.later hb2); have HP2 := Lib.hid (HFA.out.later hb2); have HO2 := Lib.hid (Gw.nil encC w2 w2.heap.size); obtain ⟨z0, z1⟩ := HZ2.out.cells; have f0 := HZ2.out.frozen 0; have f1 := HZ2.out.frozen 1; clear hb2; clear hA hG0 hG1 hG2; clear i0 i1 g0 g1 g2 g3; obtain ⟨i0, i1, g0, g1, g2, g3⟩ := kk)
          | (go_at_call 24; refine (HDB.out _).mono ?_; rintro e w3 ⟨rfl, rfl⟩; rw [HDBE.out]))
        refine bodyPost_ret (Fw.results_tmp (y := ⟨p, l, cc, q, m, d, L, M⟩) (cells2_stored HZ2.out _ _) rfl _ rfl) rfl ?_
        refine ⟨⟨p, l, cc, q, m, d, L, M⟩, by rw [HE.out]; rfl, HP2.out.stored HZ2.out.sl2 (stored2_keep _ _ _ _), by rw [HP.out]; exact HFD.out.symm, ((below_step HBA.out HB2.out).setCell (p := ⟨G2, 0, none⟩) HGG.out _).setCell (p := ⟨G2, 1, none⟩) HGG.out _⟩
      | true =>
        have HE : Hid (errP diskP F ⟨2, ca, cb, ci⟩ = 0) := Lib.hid (by unfold errP; dsimp only; rw [HR.out, HDBE.out]; rfl)
        have HP : Hid (doP diskP F ⟨2, ca, cb, ci⟩ = ⟨F.l, F.p ++ [⟨2, ca, cb, ci⟩]⟩) := Lib.hid (by rw [HDO.out, HE.out]; rfl)
        have HZL : Hid (([] : List Cg).length + m ≤ 2097152) := Lib.hid (by have := HNMm.out; simp; omega)
        go_enter Try.func7, Try.ntmps7
        go_wp2_with (first
          | (go_at_call 9; refine (HFI.out _ HFA.out).mono ?_; rintro e w2 ⟨rfl, hb2⟩; rw [HR.out]; unfold fndV; dsimp only [Option.getD_none, Option.getD_some, Option.isSome_none, Option.isSome_some]; have HB2 := Lib.hid hb2; have kk := HK.out _ hb2; have HZ2 := Lib.hid (HZ.out.later hb2); have HP2 := Lib.hid (HFA.out.later hb2); have HO2 := Lib.hid (Gw.nil encC w2 w2.heap.size); obtain ⟨z0, z1⟩ := HZ2.out.cells; have f0 := HZ2.out.frozen 0; have f1 := HZ2.out.frozen 1; clear hb2; clear hA hG0 hG1 hG2; clear i0 i1 g0 g1 g2 g3; obtain ⟨i0, i1, g0, g1, g2, g3⟩ := kk)
          | (go_at_call 24; refine (HDB.out _).mono ?_; rintro e w3 ⟨rfl, rfl⟩; rw [HDBE.out])
          | (refine wpList_append_gen encC rfl (.const (.slice none 0 0)) (.tmp 61) 23 rfl Try.underlying23 czero 48 infoC rfl (by decide) w2.heap.size _ [] rfl HO2.out q m d M rfl HP2.out.2.2.2.1 HP2.out.2.2.2.2.1 HZL.out (Nat.le_refl _) ?_; intro v4 w4 ho4 hg4; rw [List.nil_append] at ho4; have HO4 := Lib.hid ho4; have HX4 := Lib.hid (below_none hg4); obtain ⟨q4, d4, hv4, _, _, _, _⟩ := ho4.open; rw [HML.out] at hv4; subst hv4; have HB4 := Lib.hid (below_step HB2.out HX4.out); clear ho4 hg4))
        clear i0 i1 g0 g1 g2 g3 z0 z1 f0 f1
        have HD5 := Lib.hid (below_drew' HB4.out)
        have HB6 := Lib.hid (below_alloc' HD5.out (.cells #[.int .i64 2, .string ca, .string cb, .int .i64 ci] 27))
        have HO6 := Lib.hid ((HO4.out.later ((Below.refl _ _).drew)).alloc (.cells #[.int .i64 2, .string ca, .string cb, .int .i64 ci] 27))
        have HN6 : Hid (Gs encC (w4.drew.alloc (.cells #[.int .i64 2, .string ca, .string cb, .int .i64 ci] 27)) (some ⟨w4.drew.heap.size, 0, none⟩) 1 [⟨2, ca, cb, ci⟩]) := Lib.hid (Gs.one encC w4.drew ⟨2, ca, cb, ci⟩ _ rfl _ _)
        have HK6 : Hid (w2.heap.size ≤ (w4.drew.alloc (.cells #[.int .i64 2, .string ca, .string cb, .int .i64 ci] 27)).heap.size) := Lib.hid (Nat.le_trans HX4.out.size ((below_alloc' (below_drew' (Below.refl w4.heap.size w4)) _).size))
        have k0 := HK.out _ HB4.out
        have k1 := HK.out _ HD5.out
        have k2 := HK.out _ HB6.out
        go_region_held3 (fun W => W.cell? ⟨G0, 0, none⟩ = some (.slice p l cc) ∧ W.cell? ⟨G0, 1, none⟩ = some (.slice q m d) ∧ W.cell? ⟨G1, 0, none⟩ = some (.int .i64 2) ∧ W.cell? ⟨G1, 1, none⟩ = some (.string ca) ∧ W.cell? ⟨G1, 2, none⟩ = some (.string cb) ∧ W.cell? ⟨G1, 3, none⟩ = some (.int .i64 ci)) (first | exact k0 | exact k1 | exact k2 | exact k3 | exact k4) (first | (refine step_append_gen encC rfl (.tmp 65) (.tmp 67) 23 rfl Try.underlying23 czero 48 infoC rfl (by decide) w2.heap.size (.slice q4 m d4) M rfl HO6.out _ _ _ [⟨2, ca, cb, ci⟩] rfl HN6.out (fun h => by cases h) (by rw [HML.out]; have := HNMm.out; omega) HK6.out ?_; intro v7 w7 ho7 hg7; obtain ⟨q7, d7, hv7, hld7, _, hgs7, hpn7⟩ := ho7.open; have hlen7 : (M ++ [(⟨2, ca, cb, ci⟩ : Cg)]).length = m + 1 := (List.length_append.trans (by rw [HML.out, List.length_singleton])); rw [hlen7] at hv7 hld7 hgs7; subst hv7; have HB7 := Lib.hid (HB6.out.trans ((below_new_gw (Below.refl w2.heap.size _) HO6.out hg7 HK6.out).mono HB2.out.size)); have k3 := HK.out _ HB7.out; have k4 := HK2.out w7 (.slice p l cc) (.slice q7 (m + 1) d7) HB7.out; have HZ7 := Lib.hid (HZ.out.later HB7.out); have HG7 := Lib.hid hgs7; have HP7 := Lib.hid hpn7; have HD7 := Lib.hid hld7; have HF7 := Lib.hid (HFA.out.later HB7.out); obtain ⟨z0, z1⟩ := HZ7.out.cells; have f0 := HZ7.out.frozen 0; have f1 := HZ7.out.frozen 1; clear ho7 hg7 hgs7 hpn7 hld7 hlen7))
        go_wp2
        refine bodyPost_ret (Fw.results_tmp (y := ⟨p, l, cc, q7, m + 1, d7, L, M ++ [⟨2, ca, cb, ci⟩]⟩) (cells2_stored HZ7.out _ _) rfl _ rfl) rfl ?_
        refine ⟨⟨p, l, cc, q7, m + 1, d7, L, M ++ [⟨2, ca, cb, ci⟩]⟩, by rw [HE.out]; rfl, ⟨HF7.out.1.stored flatN HZ7.out.sl2 (stored2_keep _ _ _ _), HF7.out.2.1, HF7.out.2.2.1, HG7.out.stored flatC HZ7.out.sl2 (stored2_keep _ _ _ _), HP7.out, HD7.out⟩, by rw [HP.out, HFD.out]; rfl, ((below_step HBA.out HB7.out).setCell (p := ⟨G2, 0, none⟩) HGG.out _).setCell (p := ⟨G2, 1, none⟩) HGG.out _⟩
  by_cases h3 : ck = 3
  · subst h3
    clear h1 h2
    cases r with
    | none =>
      have HE : Hid (errP diskP F ⟨3, ca, cb, ci⟩ = 6) := Lib.hid (by unfold errP; dsimp only; rw [HR.out]; rfl)
      have HP : Hid (doP diskP F ⟨3, ca, cb, ci⟩ = F) := Lib.hid (by rw [HDO.out, HE.out]; rfl)
      go_enter Try.func7, Try.ntmps7
      go_wp2_with (first
        | (go_at_call 9; refine (HFI.out _ HFA.out).mono ?_; rintro e w2 ⟨rfl, hb2⟩; rw [HR.out]; unfold fndV; dsimp only [Option.getD_none, Option.getD_some, Option.isSome_none, Option.isSome_some]; have HB2 := Lib.hid hb2; have kk := HK.out _ hb2; have HZ2 := Lib.hid (HZ.out.later hb2); have HP2 := Lib.hid (HFA.out.later hb2); have HO2 := Lib.hid (Gw.nil encC w2 w2.heap.size); obtain ⟨z0, z1⟩ := HZ2.out.cells; have f0 := HZ2.out.frozen 0; have f1 := HZ2.out.frozen 1; clear hb2; clear hA hG0 hG1 hG2; clear i0 i1 g0 g1 g2 g3; obtain ⟨i0, i1, g0, g1, g2, g3⟩ := kk)
        | (go_at_call 24; refine (HDB.out _).mono ?_; rintro e w3 ⟨rfl, rfl⟩; rw [HDBE.out]))
      refine bodyPost_ret (Fw.results_tmp (y := ⟨p, l, cc, q, m, d, L, M⟩) (cells2_stored HZ2.out _ _) rfl _ rfl) rfl ?_
      refine ⟨⟨p, l, cc, q, m, d, L, M⟩, by rw [HE.out]; rfl, HP2.out.stored HZ2.out.sl2 (stored2_keep _ _ _ _), by rw [HP.out]; exact HFD.out.symm, ((below_step HBA.out HB2.out).setCell (p := ⟨G2, 0, none⟩) HGG.out _).setCell (p := ⟨G2, 1, none⟩) HGG.out _⟩
    | some i =>
      have HE : Hid (errP diskP F ⟨3, ca, cb, ci⟩ = 0) := Lib.hid (by unfold errP; dsimp only; rw [HR.out]; rfl)
      have HP : Hid (doP diskP F ⟨3, ca, cb, ci⟩ = ⟨F.l, F.p ++ [⟨3, ca, cb, ci⟩]⟩) := Lib.hid (by rw [HDO.out, HE.out]; rfl)
      have HZL : Hid (([] : List Cg).length + m ≤ 2097152) := Lib.hid (by have := HNMm.out; simp; omega)
      go_enter Try.func7, Try.ntmps7
      go_wp2_with (first
        | (go_at_call 9; refine (HFI.out _ HFA.out).mono ?_; rintro e w2 ⟨rfl, hb2⟩; rw [HR.out]; unfold fndV; dsimp only [Option.getD_none, Option.getD_some, Option.isSome_none, Option.isSome_some]; have HB2 := Lib.hid hb2; have kk := HK.out _ hb2; have HZ2 := Lib.hid (HZ.out.later hb2); have HP2 := Lib.hid (HFA.out.later hb2); have HO2 := Lib.hid (Gw.nil encC w2 w2.heap.size); obtain ⟨z0, z1⟩ := HZ2.out.cells; have f0 := HZ2.out.frozen 0; have f1 := HZ2.out.frozen 1; clear hb2; clear hA hG0 hG1 hG2; clear i0 i1 g0 g1 g2 g3; obtain ⟨i0, i1, g0, g1, g2, g3⟩ := kk)
        | (go_at_call 24; refine (HDB.out _).mono ?_; rintro e w3 ⟨rfl, rfl⟩; rw [HDBE.out])
        | (refine wpList_append_gen encC rfl (.const (.slice none 0 0)) (.tmp 61) 23 rfl Try.underlying23 czero 48 infoC rfl (by decide) w2.heap.size _ [] rfl HO2.out q m d M rfl HP2.out.2.2.2.1 HP2.out.2.2.2.2.1 HZL.out (Nat.le_refl _) ?_; intro v4 w4 ho4 hg4; rw [List.nil_append] at ho4; have HO4 := Lib.hid ho4; have HX4 := Lib.hid (below_none hg4); obtain ⟨q4, d4, hv4, _, _, _, _⟩ := ho4.open; rw [HML.out] at hv4; subst hv4; have HB4 := Lib.hid (below_step HB2.out HX4.out); clear ho4 hg4))
      clear i0 i1 g0 g1 g2 g3 z0 z1 f0 f1
      have HD5 := Lib.hid (below_drew' HB4.out)
      have HB6 := Lib.hid (below_alloc' HD5.out (.cells #[.int .i64 3, .string ca, .string cb, .int .i64 ci] 27))
      have HO6 := Lib.hid ((HO4.out.later ((Below.refl _ _).drew)).alloc (.cells #[.int .i64 3, .string ca, .string cb, .int .i64 ci] 27))
      have HN6 : Hid (Gs encC (w4.drew.alloc (.cells #[.int .i64 3, .string ca, .string cb, .int .i64 ci] 27)) (some ⟨w4.drew.heap.size, 0, none⟩) 1 [⟨3, ca, cb, ci⟩]) := Lib.hid (Gs.one encC w4.drew ⟨3, ca, cb, ci⟩ _ rfl _ _)
      have HK6 : Hid (w2.heap.size ≤ (w4.drew.alloc (.cells #[.int .i64 3, .string ca, .string cb, .int .i64 ci] 27)).heap.size) := Lib.hid (Nat.le_trans HX4.out.size ((below_alloc' (below_drew' (Below.refl w4.heap.size w4)) _).size))
      have k0 := HK.out _ HB4.out
      have k1 := HK.out _ HD5.out
      have k2 := HK.out _ HB6.out
      go_region_held3 (fun W => W.cell? ⟨G0, 0, none⟩ = some (.slice p l cc) ∧ W.cell? ⟨G0, 1, none⟩ = some (.slice q m d) ∧ W.cell? ⟨G1, 0, none⟩ = some (.int .i64 3) ∧ W.cell? ⟨G1, 1, none⟩ = some (.string ca) ∧ W.cell? ⟨G1, 2, none⟩ = some (.string cb) ∧ W.cell? ⟨G1, 3, none⟩ = some (.int .i64 ci)) (first | exact k0 | exact k1 | exact k2 | exact k3 | exact k4) (first | (refine step_append_gen encC rfl (.tmp 65) (.tmp 67) 23 rfl Try.underlying23 czero 48 infoC rfl (by decide) w2.heap.size (.slice q4 m d4) M rfl HO6.out _ _ _ [⟨3, ca, cb, ci⟩] rfl HN6.out (fun h => by cases h) (by rw [HML.out]; have := HNMm.out; omega) HK6.out ?_; intro v7 w7 ho7 hg7; obtain ⟨q7, d7, hv7, hld7, _, hgs7, hpn7⟩ := ho7.open; have hlen7 : (M ++ [(⟨3, ca, cb, ci⟩ : Cg)]).length = m + 1 := (List.length_append.trans (by rw [HML.out, List.length_singleton])); rw [hlen7] at hv7 hld7 hgs7; subst hv7; have HB7 := Lib.hid (HB6.out.trans ((below_new_gw (Below.refl w2.heap.size _) HO6.out hg7 HK6.out).mono HB2.out.size)); have k3 := HK.out _ HB7.out; have k4 := HK2.out w7 (.slice p l cc) (.slice q7 (m + 1) d7) HB7.out; have HZ7 := Lib.hid (HZ.out.later HB7.out); have HG7 := Lib.hid hgs7; have HP7 := Lib.hid hpn7; have HD7 := Lib.hid hld7; have HF7 := Lib.hid (HFA.out.later HB7.out); obtain ⟨z0, z1⟩ := HZ7.out.cells; have f0 := HZ7.out.frozen 0; have f1 := HZ7.out.frozen 1; clear ho7 hg7 hgs7 hpn7 hld7 hlen7))
      go_wp2
      refine bodyPost_ret (Fw.results_tmp (y := ⟨p, l, cc, q7, m + 1, d7, L, M ++ [⟨3, ca, cb, ci⟩]⟩) (cells2_stored HZ7.out _ _) rfl _ rfl) rfl ?_
      refine ⟨⟨p, l, cc, q7, m + 1, d7, L, M ++ [⟨3, ca, cb, ci⟩]⟩, by rw [HE.out]; rfl, ⟨HF7.out.1.stored flatN HZ7.out.sl2 (stored2_keep _ _ _ _), HF7.out.2.1, HF7.out.2.2.1, HG7.out.stored flatC HZ7.out.sl2 (stored2_keep _ _ _ _), HP7.out, HD7.out⟩, by rw [HP.out, HFD.out]; rfl, ((below_step HBA.out HB7.out).setCell (p := ⟨G2, 0, none⟩) HGG.out _).setCell (p := ⟨G2, 1, none⟩) HGG.out _⟩
  have HE' : Hid (errP diskP F ⟨ck, ca, cb, ci⟩ = 2) := Lib.hid (by unfold errP; dsimp only; rw [if_neg h1, if_neg h2, if_neg h3])
  by_cases h4 : ck < 1
  · have k4 : decide (ck < 1) = true := decide_eq_true h4
    clear h1 h2 h3
    have HE : Hid (errP diskP F ⟨ck, ca, cb, ci⟩ = 2) := Lib.hid (by exact HE'.out)
    have HP : Hid (doP diskP F ⟨ck, ca, cb, ci⟩ = F) := Lib.hid (by rw [HDO.out, HE.out]; rfl)
    go_enter Try.func7, Try.ntmps7
    go_wp2_with (first
      | (go_at_call 9; refine (HFI.out _ HFA.out).mono ?_; rintro e w2 ⟨rfl, hb2⟩; rw [HR.out]; unfold fndV; dsimp only [Option.getD_none, Option.getD_some, Option.isSome_none, Option.isSome_some]; have HB2 := Lib.hid hb2; have kk := HK.out _ hb2; have HZ2 := Lib.hid (HZ.out.later hb2); have HP2 := Lib.hid (HFA.out.later hb2); have HO2 := Lib.hid (Gw.nil encC w2 w2.heap.size); obtain ⟨z0, z1⟩ := HZ2.out.cells; have f0 := HZ2.out.frozen 0; have f1 := HZ2.out.frozen 1; clear hb2; clear hA hG0 hG1 hG2; clear i0 i1 g0 g1 g2 g3; obtain ⟨i0, i1, g0, g1, g2, g3⟩ := kk)
      | (go_at_call 24; refine (HDB.out _).mono ?_; rintro e w3 ⟨rfl, rfl⟩; rw [HDBE.out]))
    refine bodyPost_ret (Fw.results_tmp (y := ⟨p, l, cc, q, m, d, L, M⟩) (cells2_stored HZ2.out _ _) rfl _ rfl) rfl ?_
    refine ⟨⟨p, l, cc, q, m, d, L, M⟩, by rw [HE.out]; rfl, HP2.out.stored HZ2.out.sl2 (stored2_keep _ _ _ _), by rw [HP.out]; exact HFD.out.symm, ((below_step HBA.out HB2.out).setCell (p := ⟨G2, 0, none⟩) HGG.out _).setCell (p := ⟨G2, 1, none⟩) HGG.out _⟩
  have k4 : decide (ck < 1) = false := decide_eq_false h4
  have k5 : decide (ck > 3) = true := decide_eq_true (by omega)
  clear h1 h2 h3
  have HE : Hid (errP diskP F ⟨ck, ca, cb, ci⟩ = 2) := Lib.hid (by exact HE'.out)
  have HP : Hid (doP diskP F ⟨ck, ca, cb, ci⟩ = F) := Lib.hid (by rw [HDO.out, HE.out]; rfl)
  go_enter Try.func7, Try.ntmps7
  go_wp2_with (first
    | (go_at_call 9; refine (HFI.out _ HFA.out).mono ?_; rintro e w2 ⟨rfl, hb2⟩; rw [HR.out]; unfold fndV; dsimp only [Option.getD_none, Option.getD_some, Option.isSome_none, Option.isSome_some]; have HB2 := Lib.hid hb2; have kk := HK.out _ hb2; have HZ2 := Lib.hid (HZ.out.later hb2); have HP2 := Lib.hid (HFA.out.later hb2); have HO2 := Lib.hid (Gw.nil encC w2 w2.heap.size); obtain ⟨z0, z1⟩ := HZ2.out.cells; have f0 := HZ2.out.frozen 0; have f1 := HZ2.out.frozen 1; clear hb2; clear hA hG0 hG1 hG2; clear i0 i1 g0 g1 g2 g3; obtain ⟨i0, i1, g0, g1, g2, g3⟩ := kk)
    | (go_at_call 24; refine (HDB.out _).mono ?_; rintro e w3 ⟨rfl, rfl⟩; rw [HDBE.out]))
  refine bodyPost_ret (Fw.results_tmp (y := ⟨p, l, cc, q, m, d, L, M⟩) (cells2_stored HZ2.out _ _) rfl _ rfl) rfl ?_
  refine ⟨⟨p, l, cc, q, m, d, L, M⟩, by rw [HE.out]; rfl, HP2.out.stored HZ2.out.sl2 (stored2_keep _ _ _ _), by rw [HP.out]; exact HFD.out.symm, ((below_step HBA.out HB2.out).setCell (p := ⟨G2, 0, none⟩) HGG.out _).setCell (p := ⟨G2, 1, none⟩) HGG.out _⟩
end Go.Proofs.Ytebkpjnnmlccmaa
