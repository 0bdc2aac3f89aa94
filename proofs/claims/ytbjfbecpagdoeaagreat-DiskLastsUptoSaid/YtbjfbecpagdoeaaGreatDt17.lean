/- Layer 10: the program's Now, Room, Sync; slices.Clone at changes; Layer 10: the program's clone; Layer 10: the program's Crash -/
import Derived.Test.YtbjfbecpagdoeaaGreatDt13
import Derived.Lib.SliceRun
import Derived.Laws.ResultCell
import Derived.Deep.RegionHeld3
import Derived.Lib.MinMax
namespace Go.Proofs.YtbjfbecpagdoeaaGreat
set_option linter.unusedVariables false
open Go.RowKit Go.Lib

set_option maxRecDepth 100000 in
theorem sclone_any (p : Option Addr) (n c : Nat) (L : List Wd) (w : World) (h : Ws w p n L) (hpc : p = none → c = 0) (hnc : n ≤ c) (hn : n ≤ 1048576) :
    Calls Tryz.prog 114 #[.slice p n c] w fun e w' => ∃ p' c', e = .returned (.slice p' n c') ∧ Ow w' w.heap.size (.slice p' n c') L ∧ Apart (.slice p' n c') L ∧ (p' = none → c' = 0) ∧ n ≤ c' ∧ Below w.heap.size w w' := by
  have H := Lib.hid h
  have HB0 : Hid (Below w.heap.size w (w.alloc (.cells #[] 137))) := Lib.hid ((Below.refl _ _).alloc (Nat.le_refl _) _)
  have HO0 := Lib.hid (Ow.empty w w.heap.size (Nat.le_refl _))
  have hq : ∀ (w : World) (a : Option Addr) (n c n' c' : Nat), (binOp .eql 71 (.slice a n c) (.slice none n' c')).run Tryz.prog w = .ok (.bool a.isNone) w := fun w a n c n' c' => Lib.run_eql_slice_nil w _ _ a n c n' c' Tryz.underlying71
  cases p with
  | none =>
    obtain rfl := hpc rfl
    obtain rfl : n = 0 := by omega
    obtain rfl : L = [] := List.length_eq_zero_iff.1 h.1
    clear h hpc
    go_enter Tryz.func114, Tryz.ntmps114
    go_wp2
    go_ret
    exact ⟨none, 0, rfl, Ow.nil _ _, Apart.nil _, fun _ => rfl, Nat.le_refl _, Below.refl _ _⟩
  | some ad =>
    have HD := Lib.hid (h.later HB0.out)
    have HA := Lib.hid (apart_of_below HO0.out (Nat.le_refl _) h.2.1)
    have HZ : Hid (([] : List Wd).length + n ≤ 2097152) := Lib.hid (by simp; omega)
    clear h hpc hnc hn
    go_enter Tryz.func114, Tryz.ntmps114
    go_wp2_with (refine wpList_append_wds rfl (.tmp 5) (.tmp 6) 71 rfl Tryz.underlying71 info48 w.heap.size _ [] rfl HO0.out (fun _ hx => by cases hx) _ n c L rfl HD.out HA.out (fun h => by cases h) HZ.out HB0.out.size ?_; intro v5 w5 ho5 hg5; have HO5 := Lib.hid ho5; have HB5 : Hid (Below w.heap.size w w5) := Lib.hid (below_new_ow HB0.out HO0.out hg5 HB0.out.size); clear ho5 hg5)
    go_ret
    have ho := HO5.out
    rw [List.nil_append] at ho
    obtain ⟨p', c', hv, hlc, _, _, hpn⟩ := ho.open
    have hl := H.out.1
    rw [hl] at hv hlc
    subst hv
    exact ⟨p', c', rfl, ho, apart_of_below ho (Nat.le_refl _) H.out.2.1, hpn, hlc, HB5.out⟩

set_option maxRecDepth 100000 in
theorem inow_any (x : Ni) (w : World) (h : Ni.fit w x) (ho : x.fi.ok) :
    Calls Tryz.prog 89 #[x.v] w fun e w' => ∃ v, e = .returned v ∧ Ob w' w.heap.size 5 v (nowP x.fi) ∧ Below w.heap.size w w' := by
  obtain ⟨hn, hm, hzl, hll⟩ := Ni.len h ho
  obtain ⟨p, n, c, q, m, d, zs, L⟩ := x
  have HB0 : Hid (Below w.heap.size w (w.alloc (.cells #[.slice p n c, .slice q m d] 73))) := Lib.hid ((Below.refl _ _).alloc (Nat.le_refl _) _)
  have HZ := Lib.hid h.1
  have HQ := Lib.hid h.2.1
  have H := Lib.hid h.2.2.2.1
  have HN := Lib.hid hn
  have HM : Hid (m ≤ 1048576) := Lib.hid (Nat.le_succ_of_le hm)
  unfold Ni.v nowP Ni.fi
  dsimp only at HZ HQ H HN HM ⊢
  clear h ho hn hm hzl hll
  go_enter Tryz.func89, Tryz.ntmps89
  go_wp2_with (go_at_call 115; refine (wall_any p n c zs q m d L _ (HZ.out.later HB0.out) HQ.out HN.out (H.out.later HB0.out) HM.out).mono ?_; rintro e w2 ⟨v2, rfl, ho2, hb2⟩; have HO2 := Lib.hid (ho2.mono HB0.out.size); have HB2 := Lib.hid (below_step HB0.out hb2); clear ho2 hb2)
  go_ret
  exact ⟨_, rfl, HO2.out, HB2.out⟩

set_option maxRecDepth 100000 in
theorem iroom_any (x : Ni) (w : World) (h : Ni.fit w x) (ho : x.fi.ok) :
    Calls Tryz.prog 54 #[x.v] w fun e w' => e = .returned (.int .i64 (roomP x.fi)) ∧ Below w.heap.size w w' := by
  obtain ⟨hn, hm, hzl, hll⟩ := Ni.len h ho
  obtain ⟨p, n, c, q, m, d, zs, L⟩ := x
  have HB0 : Hid (Below w.heap.size w (w.alloc (.cells #[.slice p n c, .slice q m d] 73))) := Lib.hid ((Below.refl _ _).alloc (Nat.le_refl _) _)
  have H := Lib.hid h.2.2.2.1
  have HM : Hid (m ≤ 1048576) := Lib.hid (Nat.le_succ_of_le hm)
  have HL := Lib.hid hzl
  unfold Ni.v roomP Ni.fi
  dsimp only at H HM HL ⊢
  rw [HL.out]
  clear h ho hn hm hzl hll HL
  go_enter Tryz.func54, Tryz.ntmps54
  go_wp2_with (go_at_call 90; refine (wpeak_any n q m d L _ (H.out.later HB0.out) HM.out).mono ?_; rintro e w2 ⟨rfl, hb2⟩; have HB2 := Lib.hid (below_step HB0.out hb2); clear hb2)
  go_ret
  exact ⟨rfl, HB2.out⟩

theorem size25 : (Tryz.prog.info? 73).map (·.size) = some 2 := by kernel_rfl

theorem Iw.results_tmp {fn : Func} {p u : Tmp} {w : World} {g : Nat} {y : Ni} (hg : Iw w g y) (h : fn.results = #[.cell p 73, .tmp u]) (tmps : Array Value)
    (hp : tmps.getD p undef = .pointer (some ⟨g, 0, none⟩)) : (Go.results fn tmps).run Tryz.prog w = .ok (.tuple #[y.v, tmps.getD u undef]) w := by
  rw [results_cell_tmp h, hp]
  simp only [asAddr, Sem.run_pure, Result.andThen]
  have hr := run_loadVar_row (P := Tryz.prog) w g _ 73 _ _ _ hg Tryz.underlying73 rfl size25
  rw [hr]
  rfl

set_option maxRecDepth 100000 in
theorem isync_any (x : Ni) (w : World) (h : Ni.fit w x) (ho : x.fi.ok) :
    Calls Tryz.prog 57 #[x.v] w fun e w' => ∃ y : Ni, e = .returned y.v ∧ Ni.fit w' y ∧ y.fi = syncP x.fi ∧ Below w.heap.size w w' := by
  have HN := Lib.hid fun W hW => inow_any x W hW ho
  obtain ⟨p, n, c, q, m, d, zs, L⟩ := x
  have HB0 : Hid (Below w.heap.size w (w.alloc (.cells #[.slice p n c, .slice q m d] 73))) := Lib.hid ((Below.refl _ _).alloc (Nat.le_refl _) _)
  have HB1 : Hid (Below w.heap.size w ((w.alloc (.cells #[.slice p n c, .slice q m d] 73)).alloc (.cells #[.slice none 0 0, .slice none 0 0] 73))) := Lib.hid (HB0.out.alloc HB0.out.size _)
  have HZ1 : Hid (Iw ((w.alloc (.cells #[.slice p n c, .slice q m d] 73)).alloc (.cells #[.slice none 0 0, .slice none 0 0] 73)) (w.heap.size + 1) ni0) := Lib.hid (two_new _ _ _)
  have HF := Lib.hid h
  generalize hF : Ni.fi ⟨p, n, c, q, m, d, zs, L⟩ = F at *
  clear h ho hF
  unfold Ni.v at HN ⊢
  go_enter Tryz.func57, Tryz.ntmps57
  go_wp2_with fail
  refine (HN.out _ (HF.out.later HB1.out)).mono ?_
  rintro e w2 ⟨v2, rfl, ho2, hb2⟩
  have HB2 := Lib.hid (below_step HB1.out hb2)
  have HZ2 := Lib.hid (HZ1.out.later hb2)
  obtain ⟨p2, c2, hv2, hlc2, _, hbs2, hpn2⟩ := ho2.open
  subst hv2
  obtain ⟨z0, z1⟩ := HZ2.out.cells
  have f0 := HZ2.out.frozen 0
  have f1 := HZ2.out.frozen 1
  have HBS : Hid (Bs w2 p2 (nowP F).length (nowP F)) := Lib.hid hbs2
  have HLC := Lib.hid hlc2
  have HPN := Lib.hid hpn2
  clear ho2 hb2 hbs2 hlc2 hpn2 HZ1 HB1 HB0
  go_wp2
  refine bodyPost_ret (results_cell_row rfl _ _ (w.heap.size + 1) 73 _ (0, 0) _ rfl (cells2_stored HZ2.out _ _) Tryz.underlying73 rfl size25) rfl ?_
  refine ⟨⟨p2, (nowP F).length, c2, none, 0, 0, nowP F, []⟩, rfl, ⟨HBS.out.stored HZ2.out.sl2 (stored2_keep _ _ _ _), HPN.out, HLC.out, ⟨rfl, by simp, Or.inl rfl⟩, fun _ => rfl, Nat.le_refl _⟩, rfl, ?_⟩
  exact (HB2.out.setCell (p := ⟨w.heap.size + 1, 0, none⟩) (Nat.le_succ _) _).setCell (p := ⟨w.heap.size + 1, 1, none⟩) (Nat.le_succ _) _
end Go.Proofs.YtbjfbecpagdoeaaGreat

namespace Go.Proofs.YtbjfbecpagdoeaaGreat
set_option linter.unusedVariables false
open Go.RowKit Go.Lib

theorem chs_set (L : List Wd) (j : Nat) (p : Option Addr) (n c : Nat) : chs (L.set j ((L.getD j wd0).at p n c)) = chs L := by
  by_cases hj : j < L.length
  · have e : ((L.getD j wd0).at p n c).c = L[j].c := by
      rw [List.getD_eq_getElem?_getD, List.getElem?_eq_getElem hj]; rfl
    unfold chs
    rw [List.map_set, e]
    apply List.ext_getElem?
    intro i
    rw [List.getElem?_set]
    by_cases hij : j = i
    · subst hij
      simp [hj]
    · rw [if_neg hij]
  · rw [List.set_eq_of_length_le (by omega)]
/-- clone's row, with another place for the bytes of one change, in the world that has it -/
theorem clone_step {w1 w2 : World} {B g m cap : Nat} {L : List Wd} (h : Ow w1 B (.slice (some ⟨g, 0, none⟩) m cap) L) (ha : Apart (.slice (some ⟨g, 0, none⟩) m cap) L) (k : Nat) (hk : k < m) (hb : Below w1.heap.size w1 w2)
    {p : Option Addr} {c : Nat} (ho : Ob w2 w1.heap.size 5 (.slice p (L.getD k wd0).n c) (L.getD k wd0).c.dat) :
    ∃ L', Ow (w2.setCell ⟨g, k * 3 + 2, none⟩ (.slice p (L.getD k wd0).n c)) B (.slice (some ⟨g, 0, none⟩) m cap) L' ∧ Apart (.slice (some ⟨g, 0, none⟩) m cap) L' ∧ chs L' = chs L := by
  have h2 := h.later hb
  obtain ⟨p', c', hv, hlc, hcm, hbs, hpn⟩ := ho.open
  simp only [Value.slice.injEq] at hv
  obtain ⟨rfl, hn, rfl⟩ := hv
  rw [← hn] at hbs hlc
  have hf : Wd.fit w2 ((L.getD k wd0).at p (L.getD k wd0).n c) := ⟨hbs, hpn, hlc, hcm, (h.ws.fit k).2.2.2.2⟩
  have hne : 0 < (L.getD k wd0).n → ∀ a, p = some a → g ≠ a.block := by
    intro _ a hpa
    have h3 := ho.2.lt a.block (by rw [hpa]; rfl)
    have h4 := h.block_own.2
    omega
  have := h2.set ha k hk p (L.getD k wd0).n c hf hne
  exact ⟨_, this.1, this.2, chs_set _ _ _ _ _⟩

set_option maxRecDepth 100000 in
set_option maxHeartbeats 1000000 in
theorem iclone_any (x : Ni) (w : World) (h : Ni.fit w x) (ho : x.fi.ok) :
    Calls Tryz.prog 88 #[x.v] w fun e w' => ∃ y : Ni, e = .returned y.v ∧ Ni.fit w' y ∧ y.fi = x.fi ∧ Ow w' w.heap.size (.slice y.q y.m y.d) y.L ∧ Apart (.slice y.q y.m y.d) y.L ∧ ApB (.slice y.q y.m y.d) y.p y.n ∧ Below w.heap.size w w' := by
  obtain ⟨hn, hm, hzl, hll⟩ := Ni.len h ho
  have hdat := ho.2.2
  obtain ⟨p, n, c, q, m, d, zs, L⟩ := x
  have HB0 : Hid (Below w.heap.size w (w.alloc (.cells #[.slice p n c, .slice q m d] 73))) := Lib.hid ((Below.refl _ _).alloc (Nat.le_refl _) _)
  have HB1 : Hid (Below w.heap.size w ((w.alloc (.cells #[.slice p n c, .slice q m d] 73)).alloc (.cells #[.slice none 0 0, .slice none 0 0] 73))) := Lib.hid (HB0.out.alloc HB0.out.size _)
  have HZ1 : Hid (Iw ((w.alloc (.cells #[.slice p n c, .slice q m d] 73)).alloc (.cells #[.slice none 0 0, .slice none 0 0] 73)) (w.heap.size + 1) ni0) := Lib.hid (two_new _ _ _)
  have HI0 : Hid (Iw (w.alloc (.cells #[.slice p n c, .slice q m d] 73)) w.heap.size ⟨p, n, c, q, m, d, zs, L⟩) := Lib.hid (heap_alloc_new _ _)
  have HI1 : Hid (Iw ((w.alloc (.cells #[.slice p n c, .slice q m d] 73)).alloc (.cells #[.slice none 0 0, .slice none 0 0] 73)) w.heap.size ⟨p, n, c, q, m, d, zs, L⟩) := Lib.hid (HI0.out.later ((Below.refl _ _).alloc (Nat.le_refl _) _))
  have HF := Lib.hid h
  have HN := Lib.hid hn
  have HM : Hid (m ≤ 1048576) := Lib.hid (Nat.le_succ_of_le hm)
  have HLL := Lib.hid hll
  have HD : Hid (∀ c ∈ chs L, c.dat.length ≤ 2097152) := Lib.hid hdat
  generalize hF : Ni.fi ⟨p, n, c, q, m, d, zs, L⟩ = F at *
  have HFI := Lib.hid hF
  clear h ho hF hn hdat hzl hll
  unfold Ni.v
  go_enter Tryz.func88, Tryz.ntmps88
  go_wp2_with fail
  refine (sclone_any q m d L _ (HF.out.2.2.2.1.later HB1.out) HF.out.2.2.2.2.1 HF.out.2.2.2.2.2 HM.out).mono ?_
  rintro e w2 ⟨q2, d2, rfl, ho2, ha2, hpn2, hmd2, hb2⟩
  have HO2 := Lib.hid ho2
  have HA2 := Lib.hid ha2
  have HPN2 := Lib.hid hpn2
  have HMD2 := Lib.hid hmd2
  have HB2 := Lib.hid (below_step HB1.out hb2)
  have HZ2 := Lib.hid (HZ1.out.later hb2)
  have HI2 := Lib.hid (HI1.out.later hb2)
  have HO2' := Lib.hid (HO2.out.mono HB1.out.size)
  have HS2 : Hid (w.heap.size + 2 ≤ w2.heap.size) := Lib.hid (by have := hb2.size; simp at this; omega)
  have HG : Hid (∀ g, q2 = some ⟨g, 0, none⟩ → w.heap.size + 2 ≤ g) := Lib.hid fun g hg => by
    subst hg
    have := ho2.block_own.1
    simp at this
    omega
  clear ho2 ha2 hpn2 hmd2 hb2 HZ1 HI1 HI0 HB0 HB1 HO2
  go_wp2
  go_loopw [11] (fun i wr => ∃ (k : Nat) (L' : List Wd), k ≤ m ∧ i = .int .i64 (k : Int) ∧ Hid (Ow wr w.heap.size (.slice q2 m d2) L') ∧ Hid (Apart (.slice q2 m d2) L') ∧ Hid (chs L' = chs L) ∧ Hid (Below (w.heap.size + 2) w2 wr)) (fun i _ => m - (intOf i).toNat)
  case atStart => exact ⟨0, L, by omega, rfl, HO2', HA2, Lib.hid rfl, Lib.hid (Below.refl _ _)⟩
  case round =>
    obtain ⟨k, L', hk, rfl, HO, HA, HC, HX⟩ := hrel
    have HZ := Lib.hid (HZ2.out.keep (HX.out.mono (by omega)))
    have HI := Lib.hid (HI2.out.keep (HX.out.mono (by omega)))
    have HBW : Hid (Below w.heap.size w wr) := Lib.hid (HB2.out.trans (HX.out.mono (by omega)))
    clear HO2' HA2
    by_cases hlt : k < m
    · obtain ⟨g, rfl⟩ := HO.out.ptr (by omega)
      obtain ⟨h0, h1, h2, _⟩ := HO.out.cells k hlt
      have HW := Lib.hid (HO.out.ws.fit k)
      have hdl : (L'.getD k wd0).n ≤ 2097152 := by
        have e := chs_getD L' k (by rw [HO.out.len]; exact hlt)
        rw [HC.out] at e
        rw [← HW.out.1.1]
        exact HD.out _ (List.mem_of_getElem? e)
      have HDL := Lib.hid hdl
      have HSTEP := Lib.hid (fun w1 (hw1 : Below wr.heap.size wr w1) w2 (hb : Below w1.heap.size w1 w2) p c => clone_step (p := p) (c := c) (HO.out.later hw1) HA.out k hlt hb)
      have HFZ : Hid (∀ W, Below wr.heap.size wr W → W.cell? ⟨g, k * 3 + 2, none⟩ = some (.slice (L'.getD k wd0).p (L'.getD k wd0).n (L'.getD k wd0).cap) ∧ W.frozen? ⟨g, k * 3 + 2, none⟩ = false) := Lib.hid fun W hW => by
        obtain ⟨_, _, c2, f2⟩ := (HO.out.later hW).cells k hlt
        exact ⟨c2, f2⟩
      have HGG := Lib.hid (HG.out g rfl)
      generalize L'.getD k wd0 = xx at *
      obtain ⟨xc, xp, xn, xcap⟩ := xx
      have HBA : Hid (Below wr.heap.size wr (wr.alloc (.cells #[.bool xc.cut, .int .i64 xc.off, .slice xp xn xcap] 137))) := Lib.hid ((Below.refl _ _).alloc (Nat.le_refl _) _)
      clear hdl
      dsimp only at h0 h1 h2
      have HWA := Lib.hid (HW.out.later HBA.out)
      go_wp2_with fail
      refine (wclone_any xp xn xcap xc.dat _ HWA.out.1 HWA.out.2.1 HDL.out).mono ?_
      rintro e w3 ⟨v3, rfl, ho3, hb3⟩
      have HWL := Lib.hid HW.out.1.1
      obtain ⟨p3, c3, hv3, _⟩ := ho3.open
      rw [HWL.out] at hv3
      subst hv3
      have HB3 := Lib.hid (below_step HBA.out hb3)
      have HNEW := Lib.hid (HSTEP.out wr (Below.refl _ _) w3 HB3.out p3 c3 (ho3.mono HBA.out.size))
      obtain ⟨cA, fA⟩ := HFZ.out w3 HB3.out
      have HX3 := Lib.hid ((HX.out.trans (HB3.out.mono (Nat.le_trans HS2.out HX.out.size))).setCell (p := ⟨g, k * 3 + 2, none⟩) HGG.out (.slice p3 xn c3))
      have hkn : (k : Int) < (m : Int) := by omega
      have hk0 : (0 : Int) ≤ (k : Int) := by omega
      clear ho3 hb3 h0 h1 h2 HSTEP HFZ
      go_wp2
      obtain ⟨L2, hl1, hl2, hl3⟩ := HNEW.out
      have HL1 := Lib.hid hl1
      have HL2 := Lib.hid hl2
      have HL3 := Lib.hid (hl3.trans HC.out)
      clear hl1 hl2 hl3
      refine ⟨?_, by simp [intOf]; omega⟩
      first
        | exact ⟨k + 1, L2, by omega, by go_num, HL1, HL2, HL3, HX3⟩
        | ((repeat apply Exists.intro); refine ⟨?_, rfl⟩; exact ⟨k + 1, L2, by omega, by go_num, HL1, HL2, HL3, HX3⟩)
    · obtain rfl : k = m := by omega
      obtain ⟨i0, i1⟩ := HI.out.cells
      go_wp2_with fail
      refine (wclone_any p n c zs _ (HF.out.1.later HBW.out) HF.out.2.1 HN.out).mono ?_
      rintro e w3 ⟨v3, rfl, ho3, hb3⟩
      obtain ⟨p3, c3, hv3, hlc3, _, hbs3, hpn3⟩ := ho3.open
      have hzl := HF.out.1.1
      rw [show zs.length = n from hzl] at hv3 hlc3 hbs3
      subst hv3
      have HAB := Lib.hid (apB_of ho3 HO.out (Nat.le_refl _))
      have HZ3 := Lib.hid (HZ.out.later hb3)
      have HB3 := Lib.hid (below_step HBW.out hb3)
      have HO3 := Lib.hid (HO.out.later hb3)
      have HBS := Lib.hid hbs3
      have HLC := Lib.hid hlc3
      have HPN := Lib.hid hpn3
      obtain ⟨z0, z1⟩ := HZ3.out.cells
      have f0 := HZ3.out.frozen 0
      have f1 := HZ3.out.frozen 1
      clear ho3 hb3 hlc3 hbs3 hpn3 i0 i1 hzl
      go_wp2
      refine bodyPost_ret (results_cell_row rfl _ _ (w.heap.size + 1) 73 _ (0, 0) _ rfl (cells2_stored HZ3.out _ _) Tryz.underlying73 rfl size25) rfl ?_
      refine ⟨⟨p3, n, c3, q2, k, d2, zs, L'⟩, rfl, ⟨HBS.out.stored HZ3.out.sl2 (stored2_keep _ _ _ _), HPN.out, HLC.out, HO3.out.ws.stored HZ3.out.sl2 (stored2_keep _ _ _ _), HPN2.out, HMD2.out⟩, ?_, ?_, HA.out, HAB.out, ?_⟩
      · rw [← HFI.out]; unfold Ni.fi; rw [HC.out]
      · exact HO3.out.stored HZ3.out (stored2_keep _ _ _ _)
      · exact (HB3.out.setCell (p := ⟨w.heap.size + 1, 0, none⟩) (Nat.le_succ _) _).setCell (p := ⟨w.heap.size + 1, 1, none⟩) (Nat.le_succ _) _
end Go.Proofs.YtbjfbecpagdoeaaGreat

namespace Go.Proofs.YtbjfbecpagdoeaaGreat
set_option linter.unusedVariables false
open Go.RowKit Go.Lib

theorem Ob.setBelow {w : World} {B : Nat} {e : TypeId} {v : Value} {zs : List Int} (h : Ob w B e v zs) {a : Addr} (ha : a.block < B) (u : Value) : Ob (w.setCell a u) B e v zs := ⟨h.1, ownsRow_setCell_below h.2 ha u⟩

set_option maxRecDepth 100000 in
set_option maxHeartbeats 2000000 in
theorem icrash_any (x : Ni) (r : Option Addr) (l e : Nat) (ch : List Int) (w : World) (h : Ni.fit w x) (ho : x.fi.ok) (hb : Bs w r l ch) (hr : r = none → e = 0) (hle : l ≤ e) (hl : l ≤ 2097152) :
    Calls Tryz.prog 46 #[x.v, .slice r l e] w fun e w' => ∃ (y : Ni) (v : Value), e = .returned (.tuple #[y.v, v]) ∧ Ni.fit w' y ∧ y.fi = crashP x.fi ch ∧ Ob w' w.heap.size 5 v (restP x.fi ch) ∧ Below w.heap.size w w' := by
  obtain ⟨hn, hm, hzl, hll⟩ := Ni.len h ho
  obtain ⟨p, n, c, q, m, d, zs, L⟩ := x
  have HB0 : Hid (Below w.heap.size w (w.alloc (.cells #[.slice p n c, .slice q m d] 73))) := Lib.hid ((Below.refl _ _).alloc (Nat.le_refl _) _)
  have HB1 : Hid (Below w.heap.size w ((w.alloc (.cells #[.slice p n c, .slice q m d] 73)).alloc (.cells #[.slice none 0 0, .slice none 0 0] 73))) := Lib.hid (HB0.out.alloc HB0.out.size _)
  have HZ1 : Hid (Iw ((w.alloc (.cells #[.slice p n c, .slice q m d] 73)).alloc (.cells #[.slice none 0 0, .slice none 0 0] 73)) (w.heap.size + 1) ni0) := Lib.hid (two_new _ _ _)
  have HI0 : Hid (Iw (w.alloc (.cells #[.slice p n c, .slice q m d] 73)) w.heap.size ⟨p, n, c, q, m, d, zs, L⟩) := Lib.hid (heap_alloc_new _ _)
  have HI1 : Hid (Iw ((w.alloc (.cells #[.slice p n c, .slice q m d] 73)).alloc (.cells #[.slice none 0 0, .slice none 0 0] 73)) w.heap.size ⟨p, n, c, q, m, d, zs, L⟩) := Lib.hid (HI0.out.later ((Below.refl _ _).alloc (Nat.le_refl _) _))
  obtain ⟨wA, hA⟩ : ∃ A, (w.alloc (.cells #[.slice p n c, .slice q m d] 73)).alloc (.cells #[.slice none 0 0, .slice none 0 0] 73) = A := ⟨_, rfl⟩
  have HF := Lib.hid h
  rw [hA] at HB1 HZ1 HI1
  have HSA : Hid (wA.heap.size = w.heap.size + 2) := Lib.hid (by rw [← hA]; simp)
  have HD0 : Hid (Below wA.heap.size wA wA.drew) := Lib.hid ((Below.refl _ _).drew)
  have HK : Hid (∀ W, Below wA.heap.size wA W → W.cell? ⟨w.heap.size, 0, none⟩ = some (.slice p n c) ∧ W.cell? ⟨w.heap.size, 1, none⟩ = some (.slice q m d)) := Lib.hid fun W hW => (HI1.out.later hW).cells
  have HK2 : Hid (∀ W v0 v1, Below wA.heap.size wA W → ((W.setCell ⟨w.heap.size + 1, 0, none⟩ v0).setCell ⟨w.heap.size + 1, 1, none⟩ v1).cell? ⟨w.heap.size, 0, none⟩ = some (.slice p n c) ∧ ((W.setCell ⟨w.heap.size + 1, 0, none⟩ v0).setCell ⟨w.heap.size + 1, 1, none⟩ v1).cell? ⟨w.heap.size, 1, none⟩ = some (.slice q m d)) := Lib.hid fun W v0 v1 hW => by
    have h1 := HK.out W hW
    have hk := stored2_keep W (w.heap.size + 1) v0 v1 w.heap.size (by omega)
    rw [World.cell?_of_block (a := ⟨w.heap.size, 0, none⟩) hk, World.cell?_of_block (a := ⟨w.heap.size, 1, none⟩) hk]
    exact h1
  obtain ⟨i0, i1⟩ := HI1.out.cells
  have k1 := HK.out _ (Below.refl _ _)
  have k0 := HK.out _ HD0.out
  have HBS := Lib.hid hb
  have HNL := Lib.hid hn
  have HM : Hid (m ≤ 1048576) := Lib.hid (Nat.le_succ_of_le hm)
  obtain ⟨K, hK⟩ : ∃ K, min l m = K := ⟨_, rfl⟩
  have hKl : K ≤ l := by omega
  have hmin : min (l : Int) (m : Int) = (K : Int) := by omega
  obtain ⟨p', hsl, hbs', hpn'⟩ := hb.slice_from (P := Tryz.prog) 32 5 Tryz.underlying32 (fun _ => by kernel_rfl) e K hle hKl
  have HBS' := Lib.hid hbs'
  have HPN' := Lib.hid (hpn' hr)
  have HRE : Hid (ch.drop K = restP (Ni.fi ⟨p, n, c, q, m, d, zs, L⟩) ch) := Lib.hid (by
    unfold restP Ni.fi
    rw [chs_length, hll, ← hK]
    rcases Nat.le_total l m with h1 | h1
    · rw [Nat.min_eq_left h1, List.drop_of_length_le (by rw [hb.1]; exact Nat.le_refl _), List.drop_of_length_le (by rw [hb.1]; exact h1)]
    · rw [Nat.min_eq_right h1])
  have hLK : l - K ≤ 2097152 := by omega
  have HCP : Hid (crashP (Ni.fi ⟨p, n, c, q, m, d, zs, L⟩) ch = ⟨surP zs (chs L) ch, []⟩) := Lib.hid rfl
  generalize hF : Ni.fi ⟨p, n, c, q, m, d, zs, L⟩ = F at *
  clear h ho hF HB0 HI0 hb hbs' hpn' hK
  unfold Ni.v
  go_enter Tryz.func46, Tryz.ntmps46
  go_wp2_with fail
  clear hA
  go_region_held3 (fun W => W.cell? ⟨w.heap.size, 0, none⟩ = some (.slice p n c) ∧ W.cell? ⟨w.heap.size, 1, none⟩ = some (.slice q m d)) (first | exact k0 | exact k1 | exact k2 | exact k3 | exact k4) (first
      | (go_at_call 83; refine (wsurvive_any p n c zs q m d L r l e ch _ (HF.out.1.later (below_step HB1.out HD0.out)) HF.out.2.1 HNL.out (HF.out.2.2.2.1.later (below_step HB1.out HD0.out)) HM.out (HBS.out.later (below_step HB1.out HD0.out)) hl).mono ?_; rintro e2 w2 ⟨v2, rfl, ho2, hb2⟩; obtain ⟨p2, c2, hv2, hlc2, _, hbs2, hpn2⟩ := ho2.open; subst hv2; have HS2 := Lib.hid hbs2; have HP2 := Lib.hid hpn2; have HC2 := Lib.hid hlc2; have HB2 := Lib.hid (below_step HD0.out hb2); have k2 := HK.out _ HB2.out; clear ho2 hb2 hlc2 hbs2 hpn2)
      | (go_at_call 28; refine (wclone_any p' (l - K) (e - K) (ch.drop K) _ (HBS'.out.later (below_step HB1.out HB2.out)) HPN'.out hLK).mono ?_; rintro e3 w3 ⟨v3, rfl, ho3, hb3⟩; have HO3 := Lib.hid ho3; have HB3 := Lib.hid (below_step HB2.out hb3); have HX3 := Lib.hid hb3; have k3 := HK.out _ HB3.out; have k4 := HK2.out w3 (.slice p2 (surP zs (chs L) ch).length c2) (.slice none 0 0) HB3.out; have HZ3 := Lib.hid (HZ1.out.later HB3.out); obtain ⟨z0, z1⟩ := HZ3.out.cells; have f0 := HZ3.out.frozen 0; have f1 := HZ3.out.frozen 1; clear ho3 hb3))
  have HSZ : Hid (w.heap.size + 2 ≤ w2.heap.size) := Lib.hid (by have := HB2.out.size; have := HSA.out; omega)
  have HO4 := Lib.hid ((HO3.out.setBelow (a := ⟨w.heap.size + 1, 0, none⟩) (by have := HSZ.out; show w.heap.size + 1 < _; omega) (.slice p2 (surP zs (chs L) ch).length c2)).setBelow (a := ⟨w.heap.size + 1, 1, none⟩) (by have := HSZ.out; show w.heap.size + 1 < _; omega) (.slice none 0 0))
  go_wp2
  refine bodyPost_ret (Iw.results_tmp (y := ⟨p2, (surP zs (chs L) ch).length, c2, none, 0, 0, surP zs (chs L) ch, []⟩) (cells2_stored HZ3.out _ _) rfl _ rfl) rfl ?_
  refine ⟨_, v3, rfl, ⟨(HS2.out.later HX3.out).stored HZ3.out.sl2 (stored2_keep _ _ _ _), HP2.out, HC2.out, ⟨rfl, by simp, Or.inl rfl⟩, fun _ => rfl, Nat.le_refl _⟩, HCP.out.symm, ?_, ((below_step HB1.out HB3.out).setCell (p := ⟨w.heap.size + 1, 0, none⟩) (Nat.le_succ _) _).setCell (p := ⟨w.heap.size + 1, 1, none⟩) (Nat.le_succ _) _⟩
  rw [← HRE.out]
  exact HO4.out.mono (by have := HSZ.out; omega)
end Go.Proofs.YtbjfbecpagdoeaaGreat
