/- Layer 11, the program: Now, Sync, Crash -/
import Derived.Test.YtncbgddgkpaoeaaGreatDd22
import Derived.Test.YtncbgddgkpaoeaaGreatDd27
set_option linter.unusedSimpArgs false
set_option linter.unusedVariables false
namespace Go.Proofs.YtncbgddgkpaoeaaGreat
set_option linter.unusedVariables false
open Go.RowKit Go.Lib Go.Maps

theorem asc_is {F : Fd} {n : Nat} {L : List Nd} (hr : rises L) (hf : ∀ s i, findP L s = some i ↔ aftF F n s = some i) : L = behP F n := by
  obtain ⟨h1, h2⟩ := beh_both F n
  exact rises_ext hr h1 fun s i => by rw [h2]; exact hf s i
theorem crashQ_ok {F : Fd} (h : F.ok) (n : Nat) : (crashQ F n).ok := by
  refine ⟨behP_ok h n, fun c hc => (by cases hc), ?_⟩
  have := behP_length F n
  have := h.2.2
  simp only [crashQ, List.length_nil]; omega
theorem syncQ_ok {F : Fd} (h : F.ok) : (syncQ F).ok := crashQ_ok h _
theorem aft_to {F : Fd} {m : Nat} (hm : F.p.length = m) : behP F ((m : Int)).toNat = nowQ F := by rw [Int.toNat_natCast]; exact behP_all (by omega)

set_option maxRecDepth 100000 in
set_option maxHeartbeats 2000000 in
theorem fnow_any (x : Fo) (w : World) (h : Fo.fit w x) (ho : x.fd.ok) :
    Calls Tryz.prog 62 #[x.v] w fun e w' => ∃ p l c, e = .returned (.slice p l c) ∧ Gw encN w' w.heap.size (.slice p l c) (nowQ x.fd) ∧ Below w.heap.size w w' := by
  obtain ⟨hnm, hll, hml⟩ := Fo.len h ho
  have HAFT := Lib.hid fun W hW => after_any x (x.m : Int) W hW ho (by unfold InI; omega)
  have HNOW : Hid (behP x.fd ((x.m : Int)).toNat = nowQ x.fd) := Lib.hid (aft_to hml)
  obtain ⟨p, l, c, q, m, d, L, M⟩ := x
  dsimp only at hnm hll hml
  generalize Fo.fd ⟨p, l, c, q, m, d, L, M⟩ = F at *
  have HF := Lib.hid h
  unfold Fo.v at HAFT ⊢
  dsimp only at HAFT HNOW ⊢
  have HB0 : Hid (Below w.heap.size w (w.alloc (.cells #[.slice p l c, .slice q m d] 64))) := Lib.hid (below_allocF (Below.refl _ _) _)
  clear h ho hll hml hnm
  go_enter Tryz.func62, Tryz.ntmps62
  go_wp2_with (first
    | (go_at_call 80; refine (HAFT.out _ (HF.out.later HB0.out)).mono ?_; rintro e w2 ⟨b, rfl, hb, hm2, hb2⟩; have HM2 := Lib.hid hm2; have HB2 := Lib.hid (below_step HB0.out hb2); clear hb hm2 hb2)
    | (go_at_call 84; refine (ascending_any b 1048576 _ _ HM2.out (Nat.le_refl _)).mono ?_; rintro e w3 ⟨p3, l3, c3, L3, rfl, hg3, hr3, hf3, hl3, hb3⟩; have HG3 := Lib.hid (hg3.mono HB2.out.size); have HB3 := Lib.hid (below_step HB2.out hb3); have HE3 := Lib.hid ((asc_is hr3 hf3).trans HNOW.out); clear hg3 hr3 hf3 hl3 hb3))
  go_ret
  exact ⟨p3, l3, c3, rfl, by rw [← HE3.out]; exact HG3.out, HB3.out⟩

set_option maxRecDepth 100000 in
set_option maxHeartbeats 2000000 in
theorem fsync_any (x : Fo) (w : World) (h : Fo.fit w x) (ho : x.fd.ok) :
    Calls Tryz.prog 30 #[x.v] w fun e w' => ∃ y : Fo, e = .returned y.v ∧ Fo.fit w' y ∧ y.fd = syncQ x.fd ∧ Below w.heap.size w w' := by
  have HN := Lib.hid fun W hW => fnow_any x W hW ho
  obtain ⟨p, l, c, q, m, d, L, M⟩ := x
  obtain ⟨wA, hA⟩ : ∃ A, (w.alloc (.cells #[.slice p l c, .slice q m d] 64)).alloc (.cells #[.slice none 0 0, .slice none 0 0] 64) = A := ⟨_, rfl⟩
  obtain ⟨G, hG⟩ : ∃ G, w.heap.size = G := ⟨_, rfl⟩
  have HBA : Hid (Below w.heap.size w wA) := Lib.hid (by rw [← hA]; exact below_allocF (below_allocF (Below.refl _ _) _) _)
  have HGE : Hid (w.heap.size ≤ G + 1) := Lib.hid (by omega)
  have HZ1 : Hid (Fw wA (G + 1) fo0) := Lib.hid (by rw [← hA, ← hG]; exact two_newF _ _ _)
  have HI : Hid (Fw wA G ⟨p, l, c, q, m, d, L, M⟩) := Lib.hid (by rw [← hA, ← hG]; exact Fw.later (heap_alloc_new _ _) (below_allocF (Below.refl _ _) _))
  have HF := Lib.hid (h.later HBA.out)
  generalize hFF : Fo.fd ⟨p, l, c, q, m, d, L, M⟩ = F at *
  unfold Fo.v at HN ⊢
  dsimp only at HN ⊢
  obtain ⟨i0, i1⟩ := HI.out.cells
  clear h ho hFF
  go_enter Tryz.func30, Tryz.ntmps30
  go_wp2_with (go_at_call 62; refine (HN.out _ HF.out).mono ?_; rintro e w2 ⟨p2, l2, c2, rfl, hg2, hb2⟩; have HG2 := Lib.hid hg2.gs; have HB2 := Lib.hid (below_step HBA.out hb2); have HZ2 := Lib.hid (HZ1.out.later hb2); obtain ⟨z0, z1⟩ := HZ2.out.cells; have f0 := HZ2.out.frozen 0; have f1 := HZ2.out.frozen 1; obtain ⟨_, _, hv2, hlc2, _, _, hpn2⟩ := hg2.open; obtain ⟨rfl, rfl, rfl⟩ := Value.slice.inj hv2; have HLC := Lib.hid hlc2; have HPN := Lib.hid hpn2; clear hg2 hb2 hv2 hlc2 hpn2)
  refine bodyPost_ret (results_cell_row rfl _ _ (G + 1) 64 _ (0, 0) _ rfl (cells2_storedF HZ2.out _ _) Tryz.underlying64 rfl sizeFo) rfl ?_
  refine ⟨⟨p2, (nowQ F).length, c2, none, 0, 0, nowQ F, []⟩, rfl, ⟨HG2.out.stored flatN HZ2.out.sl2 (stored2_keepF _ _ _ _), HPN.out, HLC.out, Gs.empty _ _ _, fun _ => rfl, Nat.le_refl _⟩, rfl, ?_⟩
  exact (HB2.out.setCell (p := ⟨G + 1, 0, none⟩) HGE.out _).setCell (p := ⟨G + 1, 1, none⟩) HGE.out _

set_option maxRecDepth 100000 in
set_option maxHeartbeats 2000000 in
theorem fcrash_any (x : Fo) (n : Int) (w : World) (h : Fo.fit w x) (ho : x.fd.ok) (hn : InI n) :
    Calls Tryz.prog 47 #[x.v, .int .i64 n] w fun e w' => ∃ y : Fo, e = .returned y.v ∧ Fo.fit w' y ∧ y.fd = crashQ x.fd n.toNat ∧ Below w.heap.size w w' := by
  have HN := Lib.hid fun W hW => after_any x n W hW ho hn
  obtain ⟨p, l, c, q, m, d, L, M⟩ := x
  obtain ⟨T, hT⟩ : ∃ T, n.toNat = T := ⟨_, rfl⟩
  rw [hT] at HN ⊢
  clear hT hn
  obtain ⟨wA, hA⟩ : ∃ A, (w.alloc (.cells #[.slice p l c, .slice q m d] 64)).alloc (.cells #[.slice none 0 0, .slice none 0 0] 64) = A := ⟨_, rfl⟩
  obtain ⟨G, hG⟩ : ∃ G, w.heap.size = G := ⟨_, rfl⟩
  have HBA : Hid (Below w.heap.size w wA) := Lib.hid (by rw [← hA]; exact below_allocF (below_allocF (Below.refl _ _) _) _)
  have HGE : Hid (w.heap.size ≤ G + 1) := Lib.hid (by omega)
  have HZ1 : Hid (Fw wA (G + 1) fo0) := Lib.hid (by rw [← hA, ← hG]; exact two_newF _ _ _)
  have HI : Hid (Fw wA G ⟨p, l, c, q, m, d, L, M⟩) := Lib.hid (by rw [← hA, ← hG]; exact Fw.later (heap_alloc_new _ _) (below_allocF (Below.refl _ _) _))
  have HF := Lib.hid (h.later HBA.out)
  generalize hFF : Fo.fd ⟨p, l, c, q, m, d, L, M⟩ = F at *
  unfold Fo.v at HN ⊢
  dsimp only at HN ⊢
  obtain ⟨i0, i1⟩ := HI.out.cells
  clear h ho hFF
  go_enter Tryz.func47, Tryz.ntmps47
  go_wp2_with (first
    | (go_at_call 80; refine (HN.out _ HF.out).mono ?_; rintro e w1 ⟨b, rfl, hb, hm1, hb1⟩; have HM1 := Lib.hid hm1; have HX1 := Lib.hid hb1; have HB1 := Lib.hid (below_step HBA.out hb1); clear hb hm1 hb1)
    | (go_at_call 84; refine (ascending_any b 1048576 _ _ HM1.out (Nat.le_refl _)).mono ?_; rintro e w2 ⟨p2, l2, c2, L2, rfl, hg2, hr2, hf2, hl2, hb2⟩; have HE2 := Lib.hid (asc_is hr2 hf2); have HG2 := Lib.hid hg2.gs; have HB2 := Lib.hid (below_step HB1.out hb2); have HZ2 := Lib.hid ((HZ1.out.later HX1.out).later hb2); obtain ⟨z0, z1⟩ := HZ2.out.cells; have f0 := HZ2.out.frozen 0; have f1 := HZ2.out.frozen 1; obtain ⟨_, _, hv2, hlc2, _, _, hpn2⟩ := hg2.open; obtain ⟨rfl, rfl, rfl⟩ := Value.slice.inj hv2; have HLC := Lib.hid hlc2; have HPN := Lib.hid hpn2; clear hg2 hr2 hf2 hl2 hb2 hv2 hlc2 hpn2))
  refine bodyPost_ret (results_cell_row rfl _ _ (G + 1) 64 _ (0, 0) _ rfl (cells2_storedF HZ2.out _ _) Tryz.underlying64 rfl sizeFo) rfl ?_
  refine ⟨⟨p2, L2.length, c2, none, 0, 0, L2, []⟩, rfl, ⟨HG2.out.stored flatN HZ2.out.sl2 (stored2_keepF _ _ _ _), HPN.out, HLC.out, Gs.empty _ _ _, fun _ => rfl, Nat.le_refl _⟩, ?_, ?_⟩
  · show Fd.mk L2 [] = _
    rw [HE2.out]; rfl
  · exact (HB2.out.setCell (p := ⟨G + 1, 0, none⟩) HGE.out _).setCell (p := ⟨G + 1, 1, none⟩) HGE.out _
end Go.Proofs.YtncbgddgkpaoeaaGreat
