/- Layer 11, the program: fault. -/
import Derived.Test.YtebkpjnnmlccmaaFolI
namespace Go.Proofs.Ytebkpjnnmlccmaa
set_option linter.unusedVariables false
open Go.RowKit Go.Lib Go.Maps

set_option maxRecDepth 100000 in
set_option maxHeartbeats 4000000 in
theorem fault_any (x : Fo) (c : Cg) (w : World) (h : Fo.fit w x) (ho : x.fd.ok) (hc : c.ok) :
    Calls Try.prog 23 #[x.v, c.v] w fun e w' => e = .returned (.int .i64 (errP diskP x.fd c)) ∧ Below w.heap.size w w' := by
  obtain ⟨ck, ca, cb, ci⟩ := c
  have hca : ca.size ≤ 1048576 := hc.2.1
  have hcb : cb.size ≤ 1048576 := hc.2.2.1
  have HFI := Lib.hid fun W hW => ffind_any x ca W hW ho hca
  have HDA := Lib.hid fun W => disk_any ca W (by omega)
  have HDB := Lib.hid fun W => disk_any cb W (by omega)
  obtain ⟨p, l, cc, q, m, d, L, M⟩ := x
  generalize Fo.fd ⟨p, l, cc, q, m, d, L, M⟩ = F at *
  have HF := Lib.hid h
  unfold Fo.v at HFI ⊢
  unfold Cg.v
  dsimp only at HFI ⊢
  obtain ⟨wA, hA⟩ : ∃ A, (w.alloc (.cells #[.slice p l cc, .slice q m d] 25)).alloc (.cells #[.int .i64 ck, .string ca, .string cb, .int .i64 ci] 27) = A := ⟨_, rfl⟩
  obtain ⟨G, hG⟩ : ∃ G, w.heap.size = G := ⟨_, rfl⟩
  obtain ⟨G1, hG1⟩ : ∃ G1, G + 1 = G1 := ⟨_, rfl⟩
  have HB0 : Hid (Below w.heap.size w wA) := Lib.hid (by rw [← hA]; exact below_alloc' (below_alloc' (Below.refl _ _) _) _)
  have HI : Hid (Fw wA G ⟨p, l, cc, q, m, d, L, M⟩) := Lib.hid (by rw [← hA, ← hG]; exact Fw.later (heap_alloc_new _ _) (below_alloc' (Below.refl _ _) _))
  have HC : Hid (Cw wA G1 ⟨ck, ca, cb, ci⟩) := Lib.hid (by rw [← hA, ← hG1, ← hG]; exact two_new _ _ _)
  have HFA := Lib.hid (HF.out.later HB0.out)
  have HK : Hid (∀ W, Below wA.heap.size wA W → W.cell? ⟨G1, 0, none⟩ = some (.int .i64 ck) ∧ W.cell? ⟨G1, 1, none⟩ = some (.string ca) ∧ W.cell? ⟨G1, 2, none⟩ = some (.string cb) ∧ W.cell? ⟨G1, 3, none⟩ = some (.int .i64 ci)) := Lib.hid fun W hW => (HC.out.later hW).cells
  obtain ⟨i0, i1⟩ := HI.out.cells
  obtain ⟨g0, g1, g2, g3⟩ := HK.out _ (Below.refl _ _)
  obtain ⟨r, hr⟩ : ∃ r, findP (nowP F) ca = r := ⟨_, rfl⟩
  obtain ⟨da, hda⟩ : ∃ r, diskP (numsOf ca) = r := ⟨_, rfl⟩
  obtain ⟨db, hdb⟩ : ∃ r, diskP (numsOf cb) = r := ⟨_, rfl⟩
  have HR := Lib.hid hr
  have HDAE := Lib.hid hda
  have HDBE := Lib.hid hdb
  clear h ho hc hr hda hdb hca hcb
  by_cases h1 : ck = 1
  · subst h1
    cases da with
    | false =>
      have HE : Hid (errP diskP F ⟨1, ca, cb, ci⟩ = 12) := Lib.hid (by unfold errP; dsimp only; rw [HDAE.out, if_pos rfl, if_pos rfl])
      go_enter Try.func23, Try.ntmps23
      go_wp2_with (first
        | (go_at_call 8; refine (HFI.out _ HFA.out).mono ?_; rintro e w2 ⟨rfl, hb2⟩; rw [HR.out]; unfold fndV; dsimp only [Option.getD_none, Option.getD_some, Option.isSome_none, Option.isSome_some]; have HB2 := Lib.hid (below_step HB0.out hb2); have kk := HK.out _ hb2; have HX2 := Lib.hid hb2; clear hb2; clear g0 g1 g2 g3; obtain ⟨g0, g1, g2, g3⟩ := kk)
        | (go_at_call 33; refine (HDA.out _).mono ?_; rintro e w3 ⟨rfl, hb3⟩; rw [HDAE.out]; have HB3 := Lib.hid (below_step HB2.out hb3); have kk := HK.out _ (below_step HX2.out hb3); clear hb3; clear g0 g1 g2 g3; obtain ⟨g0, g1, g2, g3⟩ := kk))
      go_ret
      exact ⟨by rw [HE.out]; rfl, HB3.out⟩
    | true => cases r with
      | none =>
        have HE : Hid (errP diskP F ⟨1, ca, cb, ci⟩ = 0) := Lib.hid (by unfold errP; dsimp only; rw [HDAE.out, HR.out]; rfl)
        go_enter Try.func23, Try.ntmps23
        go_wp2_with (first
          | (go_at_call 8; refine (HFI.out _ HFA.out).mono ?_; rintro e w2 ⟨rfl, hb2⟩; rw [HR.out]; unfold fndV; dsimp only [Option.getD_none, Option.getD_some, Option.isSome_none, Option.isSome_some]; have HB2 := Lib.hid (below_step HB0.out hb2); have kk := HK.out _ hb2; have HX2 := Lib.hid hb2; clear hb2; clear g0 g1 g2 g3; obtain ⟨g0, g1, g2, g3⟩ := kk)
          | (go_at_call 33; refine (HDA.out _).mono ?_; rintro e w3 ⟨rfl, hb3⟩; rw [HDAE.out]; have HB3 := Lib.hid (below_step HB2.out hb3); have kk := HK.out _ (below_step HX2.out hb3); clear hb3; clear g0 g1 g2 g3; obtain ⟨g0, g1, g2, g3⟩ := kk))
        go_ret
        exact ⟨by rw [HE.out]; rfl, HB3.out⟩
      | some i =>
        have HE : Hid (errP diskP F ⟨1, ca, cb, ci⟩ = 7) := Lib.hid (by unfold errP; dsimp only; rw [HDAE.out, HR.out]; rfl)
        go_enter Try.func23, Try.ntmps23
        go_wp2_with (first
          | (go_at_call 8; refine (HFI.out _ HFA.out).mono ?_; rintro e w2 ⟨rfl, hb2⟩; rw [HR.out]; unfold fndV; dsimp only [Option.getD_none, Option.getD_some, Option.isSome_none, Option.isSome_some]; have HB2 := Lib.hid (below_step HB0.out hb2); have kk := HK.out _ hb2; have HX2 := Lib.hid hb2; clear hb2; clear g0 g1 g2 g3; obtain ⟨g0, g1, g2, g3⟩ := kk)
          | (go_at_call 33; refine (HDA.out _).mono ?_; rintro e w3 ⟨rfl, hb3⟩; rw [HDAE.out]; have HB3 := Lib.hid (below_step HB2.out hb3); have kk := HK.out _ (below_step HX2.out hb3); clear hb3; clear g0 g1 g2 g3; obtain ⟨g0, g1, g2, g3⟩ := kk))
        go_ret
        exact ⟨by rw [HE.out]; rfl, HB3.out⟩
  have k1 : (ck == 1) = false := by simpa using h1
  by_cases h2 : ck = 2
  · subst h2
    cases r with
    | none =>
      have HE : Hid (errP diskP F ⟨2, ca, cb, ci⟩ = 6) := Lib.hid (by unfold errP; dsimp only; rw [HR.out]; rfl)
      clear k1 h1
      go_enter Try.func23, Try.ntmps23
      go_wp2_with (first
        | (go_at_call 8; refine (HFI.out _ HFA.out).mono ?_; rintro e w2 ⟨rfl, hb2⟩; rw [HR.out]; unfold fndV; dsimp only [Option.getD_none, Option.getD_some, Option.isSome_none, Option.isSome_some]; have HB2 := Lib.hid (below_step HB0.out hb2); have kk := HK.out _ hb2; have HX2 := Lib.hid hb2; clear hb2; clear g0 g1 g2 g3; obtain ⟨g0, g1, g2, g3⟩ := kk)
        | (go_at_call 33; refine (HDB.out _).mono ?_; rintro e w3 ⟨rfl, hb3⟩; rw [HDBE.out]; have HB3 := Lib.hid (below_step HB2.out hb3); have kk := HK.out _ (below_step HX2.out hb3); clear hb3; clear g0 g1 g2 g3; obtain ⟨g0, g1, g2, g3⟩ := kk))
      go_ret
      exact ⟨by rw [HE.out]; rfl, HB2.out⟩
    | some i => cases db with
      | false =>
        have HE : Hid (errP diskP F ⟨2, ca, cb, ci⟩ = 12) := Lib.hid (by unfold errP; dsimp only; rw [HR.out, HDBE.out]; rfl)
        clear k1 h1
        go_enter Try.func23, Try.ntmps23
        go_wp2_with (first
          | (go_at_call 8; refine (HFI.out _ HFA.out).mono ?_; rintro e w2 ⟨rfl, hb2⟩; rw [HR.out]; unfold fndV; dsimp only [Option.getD_none, Option.getD_some, Option.isSome_none, Option.isSome_some]; have HB2 := Lib.hid (below_step HB0.out hb2); have kk := HK.out _ hb2; have HX2 := Lib.hid hb2; clear hb2; clear g0 g1 g2 g3; obtain ⟨g0, g1, g2, g3⟩ := kk)
          | (go_at_call 33; refine (HDB.out _).mono ?_; rintro e w3 ⟨rfl, hb3⟩; rw [HDBE.out]; have HB3 := Lib.hid (below_step HB2.out hb3); have kk := HK.out _ (below_step HX2.out hb3); clear hb3; clear g0 g1 g2 g3; obtain ⟨g0, g1, g2, g3⟩ := kk))
        go_ret
        exact ⟨by rw [HE.out]; rfl, HB3.out⟩
      | true =>
        have HE : Hid (errP diskP F ⟨2, ca, cb, ci⟩ = 0) := Lib.hid (by unfold errP; dsimp only; rw [HR.out, HDBE.out]; rfl)
        clear k1 h1
        go_enter Try.func23, Try.ntmps23
        go_wp2_with (first
          | (go_at_call 8; refine (HFI.out _ HFA.out).mono ?_; rintro e w2 ⟨rfl, hb2⟩; rw [HR.out]; unfold fndV; dsimp only [Option.getD_none, Option.getD_some, Option.isSome_none, Option.isSome_some]; have HB2 := Lib.hid (below_step HB0.out hb2); have kk := HK.out _ hb2; have HX2 := Lib.hid hb2; clear hb2; clear g0 g1 g2 g3; obtain ⟨g0, g1, g2, g3⟩ := kk)
          | (go_at_call 33; refine (HDB.out _).mono ?_; rintro e w3 ⟨rfl, hb3⟩; rw [HDBE.out]; have HB3 := Lib.hid (below_step HB2.out hb3); have kk := HK.out _ (below_step HX2.out hb3); clear hb3; clear g0 g1 g2 g3; obtain ⟨g0, g1, g2, g3⟩ := kk))
        go_ret
        exact ⟨by rw [HE.out]; rfl, HB3.out⟩
  have k2 : (ck == 2) = false := by simpa using h2
  by_cases h3 : ck = 3
  · subst h3
    cases r with
    | none =>
      have HE : Hid (errP diskP F ⟨3, ca, cb, ci⟩ = 6) := Lib.hid (by unfold errP; dsimp only; rw [HR.out]; rfl)
      clear k1 h1 k2 h2
      go_enter Try.func23, Try.ntmps23
      go_wp2_with (first
        | (go_at_call 8; refine (HFI.out _ HFA.out).mono ?_; rintro e w2 ⟨rfl, hb2⟩; rw [HR.out]; unfold fndV; dsimp only [Option.getD_none, Option.getD_some, Option.isSome_none, Option.isSome_some]; have HB2 := Lib.hid (below_step HB0.out hb2); have kk := HK.out _ hb2; have HX2 := Lib.hid hb2; clear hb2; clear g0 g1 g2 g3; obtain ⟨g0, g1, g2, g3⟩ := kk)
        | (go_at_call 33; refine (HDB.out _).mono ?_; rintro e w3 ⟨rfl, hb3⟩; rw [HDBE.out]; have HB3 := Lib.hid (below_step HB2.out hb3); have kk := HK.out _ (below_step HX2.out hb3); clear hb3; clear g0 g1 g2 g3; obtain ⟨g0, g1, g2, g3⟩ := kk))
      go_ret
      exact ⟨by rw [HE.out]; rfl, HB2.out⟩
    | some i =>
      have HE : Hid (errP diskP F ⟨3, ca, cb, ci⟩ = 0) := Lib.hid (by unfold errP; dsimp only; rw [HR.out]; rfl)
      clear k1 h1 k2 h2
      go_enter Try.func23, Try.ntmps23
      go_wp2_with (first
        | (go_at_call 8; refine (HFI.out _ HFA.out).mono ?_; rintro e w2 ⟨rfl, hb2⟩; rw [HR.out]; unfold fndV; dsimp only [Option.getD_none, Option.getD_some, Option.isSome_none, Option.isSome_some]; have HB2 := Lib.hid (below_step HB0.out hb2); have kk := HK.out _ hb2; have HX2 := Lib.hid hb2; clear hb2; clear g0 g1 g2 g3; obtain ⟨g0, g1, g2, g3⟩ := kk)
        | (go_at_call 33; refine (HDB.out _).mono ?_; rintro e w3 ⟨rfl, hb3⟩; rw [HDBE.out]; have HB3 := Lib.hid (below_step HB2.out hb3); have kk := HK.out _ (below_step HX2.out hb3); clear hb3; clear g0 g1 g2 g3; obtain ⟨g0, g1, g2, g3⟩ := kk))
      go_ret
      exact ⟨by rw [HE.out]; rfl, HB2.out⟩
  have k3 : (ck == 3) = false := by simpa using h3
  have HE : Hid (errP diskP F ⟨ck, ca, cb, ci⟩ = 2) := Lib.hid (by unfold errP; dsimp only; rw [if_neg h1, if_neg h2, if_neg h3])
  go_enter Try.func23, Try.ntmps23
  go_wp2_with (first
    | (go_at_call 8; refine (HFI.out _ HFA.out).mono ?_; rintro e w2 ⟨rfl, hb2⟩; rw [HR.out]; unfold fndV; dsimp only [Option.getD_none, Option.getD_some, Option.isSome_none, Option.isSome_some]; have HB2 := Lib.hid (below_step HB0.out hb2); have kk := HK.out _ hb2; have HX2 := Lib.hid hb2; clear hb2; clear g0 g1 g2 g3; obtain ⟨g0, g1, g2, g3⟩ := kk)
    | (go_at_call 33; refine (HDB.out _).mono ?_; rintro e w3 ⟨rfl, hb3⟩; rw [HDBE.out]; have HB3 := Lib.hid (below_step HB2.out hb3); have kk := HK.out _ (below_step HX2.out hb3); clear hb3; clear g0 g1 g2 g3; obtain ⟨g0, g1, g2, g3⟩ := kk))
  go_ret
  exact ⟨by rw [HE.out]; rfl, HB2.out⟩
end Go.Proofs.Ytebkpjnnmlccmaa
