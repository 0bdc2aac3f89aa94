/- Layer 10: the program's clone. -/
import Derived.Test.YtapobakolnlpmaaInoE
namespace Go.Proofs.Ytapobakolnlpmaa
set_option linter.unusedVariables false
open Go.RowKit Go.Lib

theorem chs_set (L : List Wd) (j : Nat) (p : Option Addr) (n c : Nat) : chs (L.set j ((L.getD j wd0).at p n c)) = chs L := by
  by_cases hj : j < L.length
  · have e : ((L.getD j wd0).at p n c).c = L[j].c := by
      rw [List.getD_eq_getElem?_getD, List.getElem?_eq_getElem hj]; rfl
    unfold chs
    rw [List.map_set, e]
    apply List.ext_getElem?
    intro i
    rw [List.getElem?_set]
    by_cases hij : j = i
    · subst hij
      simp [hj]
    · rw [if_neg hij]
  · rw [List.set_eq_of_length_le (by omega)]
/-- clone's row, with another place for the bytes of one change, in the world that has it -/
theorem clone_step {w1 w2 : World} {B g m cap : Nat} {L : List Wd} (h : Ow w1 B (.slice (some ⟨g, 0, none⟩) m cap) L) (ha : Apart (.slice (some ⟨g, 0, none⟩) m cap) L) (k : Nat) (hk : k < m) (hb : Below w1.heap.size w1 w2)
    {p : Option Addr} {c : Nat} (ho : Ob w2 w1.heap.size 5 (.slice p (L.getD k wd0).n c) (L.getD k wd0).c.dat) :
    ∃ L', Ow (w2.setCell ⟨g, k * 3 + 2, none⟩ (.slice p (L.getD k wd0).n c)) B (.slice (some ⟨g, 0, none⟩) m cap) L' ∧ Apart (.slice (some ⟨g, 0, none⟩) m cap) L' ∧ chs L' = chs L := by
  have h2 := h.later hb
  obtain ⟨p', c', hv, hlc, hcm, hbs, hpn⟩ := ho.open
  simp only [Value.slice.injEq] at hv
  obtain ⟨rfl, hn, rfl⟩ := hv
  rw [← hn] at hbs hlc
  have hf : Wd.fit w2 ((L.getD k wd0).at p (L.getD k wd0).n c) := ⟨hbs, hpn, hlc, hcm, (h.ws.fit k).2.2.2.2⟩
  have hne : 0 < (L.getD k wd0).n → ∀ a, p = some a → g ≠ a.block := by
    intro _ a hpa
    have h3 := ho.2.lt a.block (by rw [hpa]; rfl)
    have h4 := h.block_own.2
    omega
  have := h2.set ha k hk p (L.getD k wd0).n c hf hne
  exact ⟨_, this.1, this.2, chs_set _ _ _ _ _⟩

set_option maxRecDepth 100000 in
set_option maxHeartbeats 1000000 in
theorem iclone_any (x : Ni) (w : World) (h : Ni.fit w x) (ho : x.fi.ok) :
    Calls Try.prog 20 #[x.v] w fun e w' => ∃ y : Ni, e = .returned y.v ∧ Ni.fit w' y ∧ y.fi = x.fi ∧ Ow w' w.heap.size (.slice y.q y.m y.d) y.L ∧ Apart (.slice y.q y.m y.d) y.L ∧ ApB (.slice y.q y.m y.d) y.p y.n ∧ Below w.heap.size w w' := by
  obtain ⟨hn, hm, hzl, hll⟩ := Ni.len h ho
  have hdat := ho.2.2
  obtain ⟨p, n, c, q, m, d, zs, L⟩ := x
  have HB0 : Hid (Below w.heap.size w (w.alloc (.cells #[.slice p n c, .slice q m d] 25))) := Lib.hid ((Below.refl _ _).alloc (Nat.le_refl _) _)
  have HB1 : Hid (Below w.heap.size w ((w.alloc (.cells #[.slice p n c, .slice q m d] 25)).alloc (.cells #[.slice none 0 0, .slice none 0 0] 25))) := Lib.hid (HB0.out.alloc HB0.out.size _)
  have HZ1 : Hid (Iw ((w.alloc (.cells #[.slice p n c, .slice q m d] 25)).alloc (.cells #[.slice none 0 0, .slice none 0 0] 25)) (w.heap.size + 1) ni0) := Lib.hid (two_new _ _ _)
  have HI0 : Hid (Iw (w.alloc (.cells #[.slice p n c, .slice q m d] 25)) w.heap.size ⟨p, n, c, q, m, d, zs, L⟩) := Lib.hid (heap_alloc_new _ _)
  have HI1 : Hid (Iw ((w.alloc (.cells #[.slice p n c, .slice q m d] 25)).alloc (.cells #[.slice none 0 0, .slice none 0 0] 25)) w.heap.size ⟨p, n, c, q, m, d, zs, L⟩) := Lib.hid (HI0.out.later ((Below.refl _ _).alloc (Nat.le_refl _) _))
  have HF := Lib.hid h
  have HN := Lib.hid hn
  have HM : Hid (m ≤ 1048576) := Lib.hid (Nat.le_succ_of_le hm)
  have HLL := Lib.hid hll
  have HD : Hid (∀ c ∈ chs L, c.dat.length ≤ 2097152) := Lib.hid hdat
  generalize hF : Ni.fi ⟨p, n, c, q, m, d, zs, L⟩ = F at *
  have HFI := Lib.hid hF
  clear h ho hF hn hdat hzl hll
  unfold Ni.v
  go_enter Try.func20, Try.ntmps20
  go_wp2_with fail
  refine (sclone_any q m d L _ (HF.out.2.2.2.1.later HB1.out) HF.out.2.2.2.2.1 HF.out.2.2.2.2.2 HM.out).mono ?_
  rintro e w2 ⟨q2, d2, rfl, ho2, ha2, hpn2, hmd2, hb2⟩
  have HO2 := Lib.hid ho2
  have HA2 := Lib.hid ha2
  have HPN2 := Lib.hid hpn2
  have HMD2 := Lib.hid hmd2
  have HB2 := Lib.hid (below_step HB1.out hb2)
  have HZ2 := Lib.hid (HZ1.out.later hb2)
  have HI2 := Lib.hid (HI1.out.later hb2)
  have HO2' := Lib.hid (HO2.out.mono HB1.out.size)
  have HS2 : Hid (w.heap.size + 2 ≤ w2.heap.size) := Lib.hid (by have := hb2.size; simp at this; omega)
  have HG : Hid (∀ g, q2 = some ⟨g, 0, none⟩ → w.heap.size + 2 ≤ g) := Lib.hid fun g hg => by
    subst hg
    have := ho2.block_own.1
    simp at this
    omega
  clear ho2 ha2 hpn2 hmd2 hb2 HZ1 HI1 HI0 HB0 HB1 HO2
  go_wp2
  go_loopw [11] (fun i wr => ∃ (k : Nat) (L' : List Wd), k ≤ m ∧ i = .int .i64 (k : Int) ∧ Hid (Ow wr w.heap.size (.slice q2 m d2) L') ∧ Hid (Apart (.slice q2 m d2) L') ∧ Hid (chs L' = chs L) ∧ Hid (Below (w.heap.size + 2) w2 wr)) (fun i _ => m - (intOf i).toNat)
  case atStart => exact ⟨0, L, by omega, rfl, HO2', HA2, Lib.hid rfl, Lib.hid (Below.refl _ _)⟩
  case round =>
    obtain ⟨k, L', hk, rfl, HO, HA, HC, HX⟩ := hrel
    have HZ := Lib.hid (HZ2.out.keep (HX.out.mono (by omega)))
    have HI := Lib.hid (HI2.out.keep (HX.out.mono (by omega)))
    have HBW : Hid (Below w.heap.size w wr) := Lib.hid (HB2.out.trans (HX.out.mono (by omega)))
    clear HO2' HA2
    by_cases hlt : k < m
    · obtain ⟨g, rfl⟩ := HO.out.ptr (by omega)
      obtain ⟨h0, h1, h2, _⟩ := HO.out.cells k hlt
      have HW := Lib.hid (HO.out.ws.fit k)
      have hdl : (L'.getD k wd0).n ≤ 2097152 := by
        have e := chs_getD L' k (by rw [HO.out.len]; exact hlt)
        rw [HC.out] at e
        rw [← HW.out.1.1]
        exact HD.out _ (List.mem_of_getElem? e)
      have HDL := Lib.hid hdl
      have HSTEP := Lib.hid (fun w1 (hw1 : Below wr.heap.size wr w1) w2 (hb : Below w1.heap.size w1 w2) p c => clone_step (p := p) (c := c) (HO.out.later hw1) HA.out k hlt hb)
      have HFZ : Hid (∀ W, Below wr.heap.size wr W → W.cell? ⟨g, k * 3 + 2, none⟩ = some (.slice (L'.getD k wd0).p (L'.getD k wd0).n (L'.getD k wd0).cap) ∧ W.frozen? ⟨g, k * 3 + 2, none⟩ = false) := Lib.hid fun W hW => by
        obtain ⟨_, _, c2, f2⟩ := (HO.out.later hW).cells k hlt
        exact ⟨c2, f2⟩
      have HGG := Lib.hid (HG.out g rfl)
      generalize L'.getD k wd0 = xx at *
      obtain ⟨xc, xp, xn, xcap⟩ := xx
      have HBA : Hid (Below wr.heap.size wr (wr.alloc (.cells #[.bool xc.cut, .int .i64 xc.off, .slice xp xn xcap] 48))) := Lib.hid ((Below.refl _ _).alloc (Nat.le_refl _) _)
      clear hdl
      dsimp only at h0 h1 h2
      have HWA := Lib.hid (HW.out.later HBA.out)
      go_wp2_with fail
      refine (wclone_any xp xn xcap xc.dat _ HWA.out.1 HWA.out.2.1 HDL.out).mono ?_
      rintro e w3 ⟨v3, rfl, ho3, hb3⟩
      have HWL := Lib.hid HW.out.1.1
      obtain ⟨p3, c3, hv3, _⟩ := ho3.open
      rw [HWL.out] at hv3
      subst hv3
      have HB3 := Lib.hid (below_step HBA.out hb3)
      have HNEW := Lib.hid (HSTEP.out wr (Below.refl _ _) w3 HB3.out p3 c3 (ho3.mono HBA.out.size))
      obtain ⟨cA, fA⟩ := HFZ.out w3 HB3.out
      have HX3 := Lib.hid ((HX.out.trans (HB3.out.mono (Nat.le_trans HS2.out HX.out.size))).setCell (p := ⟨g, k * 3 + 2, none⟩) HGG.out (.slice p3 xn c3))
      have hkn : (k : Int) < (m : Int) := by omega
      have hk0 : (0 : Int) ≤ (k : Int) := by omega
      clear ho3 hb3 h0 h1 h2 HSTEP HFZ
      go_wp2
      obtain ⟨L2, hl1, hl2, hl3⟩ := HNEW.out
      have HL1 := Lib.hid hl1
      have HL2 := Lib.hid hl2
      have HL3 := Lib.hid (hl3.trans HC.out)
      clear hl1 hl2 hl3
      refine ⟨?_, by simp [intOf]; omega⟩
      first
        | exact ⟨k + 1, L2, by omega, by go_num, HL1, HL2, HL3, HX3⟩
        | ((repeat apply Exists.intro); refine ⟨?_, rfl⟩; exact ⟨k + 1, L2, by omega, by go_num, HL1, HL2, HL3, HX3⟩)
    · obtain rfl : k = m := by omega
      obtain ⟨i0, i1⟩ := HI.out.cells
      go_wp2_with fail
      refine (wclone_any p n c zs _ (HF.out.1.later HBW.out) HF.out.2.1 HN.out).mono ?_
      rintro e w3 ⟨v3, rfl, ho3, hb3⟩
      obtain ⟨p3, c3, hv3, hlc3, _, hbs3, hpn3⟩ := ho3.open
      have hzl := HF.out.1.1
      rw [show zs.length = n from hzl] at hv3 hlc3 hbs3
      subst hv3
      have HAB := Lib.hid (apB_of ho3 HO.out (Nat.le_refl _))
      have HZ3 := Lib.hid (HZ.out.later hb3)
      have HB3 := Lib.hid (below_step HBW.out hb3)
      have HO3 := Lib.hid (HO.out.later hb3)
      have HBS := Lib.hid hbs3
      have HLC := Lib.hid hlc3
      have HPN := Lib.hid hpn3
      obtain ⟨z0, z1⟩ := HZ3.out.cells
      have f0 := HZ3.out.frozen 0
      have f1 := HZ3.out.frozen 1
      clear ho3 hb3 hlc3 hbs3 hpn3 i0 i1 hzl
      go_wp2
      refine bodyPost_ret (results_cell_row rfl _ _ (w.heap.size + 1) 25 _ (0, 0) _ rfl (cells2_stored HZ3.out _ _) Try.underlying25 rfl size25) rfl ?_
      refine ⟨⟨p3, n, c3, q2, k, d2, zs, L'⟩, rfl, ⟨HBS.out.stored HZ3.out.sl2 (stored2_keep _ _ _ _), HPN.out, HLC.out, HO3.out.ws.stored HZ3.out.sl2 (stored2_keep _ _ _ _), HPN2.out, HMD2.out⟩, ?_, ?_, HA.out, HAB.out, ?_⟩
      · rw [← HFI.out]; unfold Ni.fi; rw [HC.out]
      · exact HO3.out.stored HZ3.out (stored2_keep _ _ _ _)
      · exact (HB3.out.setCell (p := ⟨w.heap.size + 1, 0, none⟩) (Nat.le_succ _) _).setCell (p := ⟨w.heap.size + 1, 1, none⟩) (Nat.le_succ _) _
end Go.Proofs.Ytapobakolnlpmaa
