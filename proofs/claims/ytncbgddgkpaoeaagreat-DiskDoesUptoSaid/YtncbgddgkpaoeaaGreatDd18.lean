/- Layer 10: the program's Now, Room, Sync; slices.Clone at changes; Layer 10: the program's clone; Layer 10: the program's Crash; Layer 10: the reference's More, Append, Cut, Crash; Layer 10: the reference's Append, Cut, Crash; Layer 12, the reference: a crash of a file whose bytes are the call's own -/
import Derived.Test.YtncbgddgkpaoeaaGreatDd11
import Derived.Test.YtncbgddgkpaoeaaGreatDd12
import Derived.Test.YtncbgddgkpaoeaaGreatDd14
import Derived.Lib.SliceRun
import Derived.Laws.ResultCell
import Derived.Deep.RegionHeld3
import Derived.Lib.MinMax
set_option linter.unusedSimpArgs false
set_option linter.unusedVariables false
namespace Go.Proofs.YtncbgddgkpaoeaaGreat
set_option linter.unusedVariables false
open Go.RowKit Go.Lib

set_option maxRecDepth 100000 in
theorem sclone_any (p : Option Addr) (n c : Nat) (L : List Wd) (w : World) (h : Ws w p n L) (hpc : p = none → c = 0) (hnc : n ≤ c) (hn : n ≤ 1048576) :
    Calls Tryz.prog 114 #[.slice p n c] w fun e w' => ∃ p' c', e = .returned (.slice p' n c') ∧ Ow w' w.heap.size (.slice p' n c') L ∧ Apart (.slice p' n c') L ∧ (p' = none → c' = 0) ∧ n ≤ c' ∧ Below w.heap.size w w' := by
  have H := Lib.hid h
  have HB0 : Hid (Below w.heap.size w (w.alloc (.cells #[] 137))) := Lib.hid ((Below.refl _ _).alloc (Nat.le_refl _) _)
  have HO0 := Lib.hid (Ow.empty w w.heap.size (Nat.le_refl _))
  have hq : ∀ (w : World) (a : Option Addr) (n c n' c' : Nat), (binOp .eql 71 (.slice a n c) (.slice none n' c')).run Tryz.prog w = .ok (.bool a.isNone) w := fun w a n c n' c' => Lib.run_eql_slice_nil w _ _ a n c n' c' Tryz.underlying71
  cases p with
  | none =>
    obtain rfl := hpc rfl
    obtain rfl : n = 0 := by omega
    obtain rfl : L = [] := List.length_eq_zero_iff.1 h.1
    clear h hpc
    go_enter Tryz.func114, Tryz.ntmps114
    go_wp2
    go_ret
    exact ⟨none, 0, rfl, Ow.nil _ _, Apart.nil _, fun _ => rfl, Nat.le_refl _, Below.refl _ _⟩
  | some ad =>
    have HD := Lib.hid (h.later HB0.out)
    have HA := Lib.hid (apart_of_below HO0.out (Nat.le_refl _) h.2.1)
    have HZ : Hid (([] : List Wd).length + n ≤ 2097152) := Lib.hid (by simp; omega)
    clear h hpc hnc hn
    go_enter Tryz.func114, Tryz.ntmps114
    go_wp2_with (refine wpList_append_wds rfl (.tmp 5) (.tmp 6) 71 rfl Tryz.underlying71 info48 w.heap.size _ [] rfl HO0.out (fun _ hx => by cases hx) _ n c L rfl HD.out HA.out (fun h => by cases h) HZ.out HB0.out.size ?_; intro v5 w5 ho5 hg5; have HO5 := Lib.hid ho5; have HB5 : Hid (Below w.heap.size w w5) := Lib.hid (below_new_ow HB0.out HO0.out hg5 HB0.out.size); clear ho5 hg5)
    go_ret
    have ho := HO5.out
    rw [List.nil_append] at ho
    obtain ⟨p', c', hv, hlc, _, _, hpn⟩ := ho.open
    have hl := H.out.1
    rw [hl] at hv hlc
    subst hv
    exact ⟨p', c', rfl, ho, apart_of_below ho (Nat.le_refl _) H.out.2.1, hpn, hlc, HB5.out⟩

set_option maxRecDepth 100000 in
theorem inow_any (x : Ni) (w : World) (h : Ni.fit w x) (ho : x.fi.ok) :
    Calls Tryz.prog 89 #[x.v] w fun e w' => ∃ v, e = .returned v ∧ Ob w' w.heap.size 5 v (nowP x.fi) ∧ Below w.heap.size w w' := by
  obtain ⟨hn, hm, hzl, hll⟩ := Ni.len h ho
  obtain ⟨p, n, c, q, m, d, zs, L⟩ := x
  have HB0 : Hid (Below w.heap.size w (w.alloc (.cells #[.slice p n c, .slice q m d] 73))) := Lib.hid ((Below.refl _ _).alloc (Nat.le_refl _) _)
  have HZ := Lib.hid h.1
  have HQ := Lib.hid h.2.1
  have H := Lib.hid h.2.2.2.1
  have HN := Lib.hid hn
  have HM : Hid (m ≤ 1048576) := Lib.hid (Nat.le_succ_of_le hm)
  unfold Ni.v nowP Ni.fi
  dsimp only at HZ HQ H HN HM ⊢
  clear h ho hn hm hzl hll
  go_enter Tryz.func89, Tryz.ntmps89
  go_wp2_with (go_at_call 115; refine (wall_any p n c zs q m d L _ (HZ.out.later HB0.out) HQ.out HN.out (H.out.later HB0.out) HM.out).mono ?_; rintro e w2 ⟨v2, rfl, ho2, hb2⟩; have HO2 := Lib.hid (ho2.mono HB0.out.size); have HB2 := Lib.hid (below_step HB0.out hb2); clear ho2 hb2)
  go_ret
  exact ⟨_, rfl, HO2.out, HB2.out⟩

set_option maxRecDepth 100000 in
theorem iroom_any (x : Ni) (w : World) (h : Ni.fit w x) (ho : x.fi.ok) :
    Calls Tryz.prog 54 #[x.v] w fun e w' => e = .returned (.int .i64 (roomP x.fi)) ∧ Below w.heap.size w w' := by
  obtain ⟨hn, hm, hzl, hll⟩ := Ni.len h ho
  obtain ⟨p, n, c, q, m, d, zs, L⟩ := x
  have HB0 : Hid (Below w.heap.size w (w.alloc (.cells #[.slice p n c, .slice q m d] 73))) := Lib.hid ((Below.refl _ _).alloc (Nat.le_refl _) _)
  have H := Lib.hid h.2.2.2.1
  have HM : Hid (m ≤ 1048576) := Lib.hid (Nat.le_succ_of_le hm)
  have HL := Lib.hid hzl
  unfold Ni.v roomP Ni.fi
  dsimp only at H HM HL ⊢
  rw [HL.out]
  clear h ho hn hm hzl hll HL
  go_enter Tryz.func54, Tryz.ntmps54
  go_wp2_with (go_at_call 90; refine (wpeak_any n q m d L _ (H.out.later HB0.out) HM.out).mono ?_; rintro e w2 ⟨rfl, hb2⟩; have HB2 := Lib.hid (below_step HB0.out hb2); clear hb2)
  go_ret
  exact ⟨rfl, HB2.out⟩

theorem size25 : (Tryz.prog.info? 73).map (·.size) = some 2 := by kernel_rfl

theorem Iw.results_tmp {fn : Func} {p u : Tmp} {w : World} {g : Nat} {y : Ni} (hg : Iw w g y) (h : fn.results = #[.cell p 73, .tmp u]) (tmps : Array Value)
    (hp : tmps.getD p undef = .pointer (some ⟨g, 0, none⟩)) : (Go.results fn tmps).run Tryz.prog w = .ok (.tuple #[y.v, tmps.getD u undef]) w := by
  rw [results_cell_tmp h, hp]
  simp only [asAddr, Sem.run_pure, Result.andThen]
  have hr := run_loadVar_row (P := Tryz.prog) w g _ 73 _ _ _ hg Tryz.underlying73 rfl size25
  rw [hr]
  rfl

set_option maxRecDepth 100000 in
theorem isync_any (x : Ni) (w : World) (h : Ni.fit w x) (ho : x.fi.ok) :
    Calls Tryz.prog 57 #[x.v] w fun e w' => ∃ y : Ni, e = .returned y.v ∧ Ni.fit w' y ∧ y.fi = syncP x.fi ∧ Below w.heap.size w w' := by
  have HN := Lib.hid fun W hW => inow_any x W hW ho
  obtain ⟨p, n, c, q, m, d, zs, L⟩ := x
  have HB0 : Hid (Below w.heap.size w (w.alloc (.cells #[.slice p n c, .slice q m d] 73))) := Lib.hid ((Below.refl _ _).alloc (Nat.le_refl _) _)
  have HB1 : Hid (Below w.heap.size w ((w.alloc (.cells #[.slice p n c, .slice q m d] 73)).alloc (.cells #[.slice none 0 0, .slice none 0 0] 73))) := Lib.hid (HB0.out.alloc HB0.out.size _)
  have HZ1 : Hid (Iw ((w.alloc (.cells #[.slice p n c, .slice q m d] 73)).alloc (.cells #[.slice none 0 0, .slice none 0 0] 73)) (w.heap.size + 1) ni0) := Lib.hid (two_new _ _ _)
  have HF := Lib.hid h
  generalize hF : Ni.fi ⟨p, n, c, q, m, d, zs, L⟩ = F at *
  clear h ho hF
  unfold Ni.v at HN ⊢
  go_enter Tryz.func57, Tryz.ntmps57
  go_wp2_with fail
  refine (HN.out _ (HF.out.later HB1.out)).mono ?_
  rintro e w2 ⟨v2, rfl, ho2, hb2⟩
  have HB2 := Lib.hid (below_step HB1.out hb2)
  have HZ2 := Lib.hid (HZ1.out.later hb2)
  obtain ⟨p2, c2, hv2, hlc2, _, hbs2, hpn2⟩ := ho2.open
  subst hv2
  obtain ⟨z0, z1⟩ := HZ2.out.cells
  have f0 := HZ2.out.frozen 0
  have f1 := HZ2.out.frozen 1
  have HBS : Hid (Bs w2 p2 (nowP F).length (nowP F)) := Lib.hid hbs2
  have HLC := Lib.hid hlc2
  have HPN := Lib.hid hpn2
  clear ho2 hb2 hbs2 hlc2 hpn2 HZ1 HB1 HB0
  go_wp2
  refine bodyPost_ret (results_cell_row rfl _ _ (w.heap.size + 1) 73 _ (0, 0) _ rfl (cells2_stored HZ2.out _ _) Tryz.underlying73 rfl size25) rfl ?_
  refine ⟨⟨p2, (nowP F).length, c2, none, 0, 0, nowP F, []⟩, rfl, ⟨HBS.out.stored HZ2.out.sl2 (stored2_keep _ _ _ _), HPN.out, HLC.out, ⟨rfl, by simp, Or.inl rfl⟩, fun _ => rfl, Nat.le_refl _⟩, rfl, ?_⟩
  exact (HB2.out.setCell (p := ⟨w.heap.size + 1, 0, none⟩) (Nat.le_succ _) _).setCell (p := ⟨w.heap.size + 1, 1, none⟩) (Nat.le_succ _) _
end Go.Proofs.YtncbgddgkpaoeaaGreat

namespace Go.Proofs.YtncbgddgkpaoeaaGreat
set_option linter.unusedVariables false
open Go.RowKit Go.Lib

theorem chs_set (L : List Wd) (j : Nat) (p : Option Addr) (n c : Nat) : chs (L.set j ((L.getD j wd0).at p n c)) = chs L := by
  by_cases hj : j < L.length
  · have e : ((L.getD j wd0).at p n c).c = L[j].c := by
      rw [List.getD_eq_getElem?_getD, List.getElem?_eq_getElem hj]; rfl
    unfold chs
    rw [List.map_set, e]
    apply List.ext_getElem?
    intro i
    rw [List.getElem?_set]
    by_cases hij : j = i
    · subst hij
      simp [hj]
    · rw [if_neg hij]
  · rw [List.set_eq_of_length_le (by omega)]
/-- clone's row, with another place for the bytes of one change, in the world that has it -/
theorem clone_step {w1 w2 : World} {B g m cap : Nat} {L : List Wd} (h : Ow w1 B (.slice (some ⟨g, 0, none⟩) m cap) L) (ha : Apart (.slice (some ⟨g, 0, none⟩) m cap) L) (k : Nat) (hk : k < m) (hb : Below w1.heap.size w1 w2)
    {p : Option Addr} {c : Nat} (ho : Ob w2 w1.heap.size 5 (.slice p (L.getD k wd0).n c) (L.getD k wd0).c.dat) :
    ∃ L', Ow (w2.setCell ⟨g, k * 3 + 2, none⟩ (.slice p (L.getD k wd0).n c)) B (.slice (some ⟨g, 0, none⟩) m cap) L' ∧ Apart (.slice (some ⟨g, 0, none⟩) m cap) L' ∧ chs L' = chs L := by
  have h2 := h.later hb
  obtain ⟨p', c', hv, hlc, hcm, hbs, hpn⟩ := ho.open
  simp only [Value.slice.injEq] at hv
  obtain ⟨rfl, hn, rfl⟩ := hv
  rw [← hn] at hbs hlc
  have hf : Wd.fit w2 ((L.getD k wd0).at p (L.getD k wd0).n c) := ⟨hbs, hpn, hlc, hcm, (h.ws.fit k).2.2.2.2⟩
  have hne : 0 < (L.getD k wd0).n → ∀ a, p = some a → g ≠ a.block := by
    intro _ a hpa
    have h3 := ho.2.lt a.block (by rw [hpa]; rfl)
    have h4 := h.block_own.2
    omega
  have := h2.set ha k hk p (L.getD k wd0).n c hf hne
  exact ⟨_, this.1, this.2, chs_set _ _ _ _ _⟩

set_option maxRecDepth 100000 in
set_option maxHeartbeats 1000000 in
theorem iclone_any (x : Ni) (w : World) (h : Ni.fit w x) (ho : x.fi.ok) :
    Calls Tryz.prog 88 #[x.v] w fun e w' => ∃ y : Ni, e = .returned y.v ∧ Ni.fit w' y ∧ y.fi = x.fi ∧ Ow w' w.heap.size (.slice y.q y.m y.d) y.L ∧ Apart (.slice y.q y.m y.d) y.L ∧ ApB (.slice y.q y.m y.d) y.p y.n ∧ Below w.heap.size w w' := by
  obtain ⟨hn, hm, hzl, hll⟩ := Ni.len h ho
  have hdat := ho.2.2
  obtain ⟨p, n, c, q, m, d, zs, L⟩ := x
  have HB0 : Hid (Below w.heap.size w (w.alloc (.cells #[.slice p n c, .slice q m d] 73))) := Lib.hid ((Below.refl _ _).alloc (Nat.le_refl _) _)
  have HB1 : Hid (Below w.heap.size w ((w.alloc (.cells #[.slice p n c, .slice q m d] 73)).alloc (.cells #[.slice none 0 0, .slice none 0 0] 73))) := Lib.hid (HB0.out.alloc HB0.out.size _)
  have HZ1 : Hid (Iw ((w.alloc (.cells #[.slice p n c, .slice q m d] 73)).alloc (.cells #[.slice none 0 0, .slice none 0 0] 73)) (w.heap.size + 1) ni0) := Lib.hid (two_new _ _ _)
  have HI0 : Hid (Iw (w.alloc (.cells #[.slice p n c, .slice q m d] 73)) w.heap.size ⟨p, n, c, q, m, d, zs, L⟩) := Lib.hid (heap_alloc_new _ _)
  have HI1 : Hid (Iw ((w.alloc (.cells #[.slice p n c, .slice q m d] 73)).alloc (.cells #[.slice none 0 0, .slice none 0 0] 73)) w.heap.size ⟨p, n, c, q, m, d, zs, L⟩) := Lib.hid (HI0.out.later ((Below.refl _ _).alloc (Nat.le_refl _) _))
  have HF := Lib.hid h
  have HN := Lib.hid hn
  have HM : Hid (m ≤ 1048576) := Lib.hid (Nat.le_succ_of_le hm)
  have HLL := Lib.hid hll
  have HD : Hid (∀ c ∈ chs L, c.dat.length ≤ 2097152) := Lib.hid hdat
  generalize hF : Ni.fi ⟨p, n, c, q, m, d, zs, L⟩ = F at *
  have HFI := Lib.hid hF
  clear h ho hF hn hdat hzl hll
  unfold Ni.v
  go_enter Tryz.func88, Tryz.ntmps88
  go_wp2_with fail
  refine (sclone_any q m d L _ (HF.out.2.2.2.1.later HB1.out) HF.out.2.2.2.2.1 HF.out.2.2.2.2.2 HM.out).mono ?_
  rintro e w2 ⟨q2, d2, rfl, ho2, ha2, hpn2, hmd2, hb2⟩
  have HO2 := Lib.hid ho2
  have HA2 := Lib.hid ha2
  have HPN2 := Lib.hid hpn2
  have HMD2 := Lib.hid hmd2
  have HB2 := Lib.hid (below_step HB1.out hb2)
  have HZ2 := Lib.hid (HZ1.out.later hb2)
  have HI2 := Lib.hid (HI1.out.later hb2)
  have HO2' := Lib.hid (HO2.out.mono HB1.out.size)
  have HS2 : Hid (w.heap.size + 2 ≤ w2.heap.size) := Lib.hid (by have := hb2.size; simp at this; omega)
  have HG : Hid (∀ g, q2 = some ⟨g, 0, none⟩ → w.heap.size + 2 ≤ g) := Lib.hid fun g hg => by
    subst hg
    have := ho2.block_own.1
    simp at this
    omega
  clear ho2 ha2 hpn2 hmd2 hb2 HZ1 HI1 HI0 HB0 HB1 HO2
  go_wp2
  go_loopw [11] (fun i wr => ∃ (k : Nat) (L' : List Wd), k ≤ m ∧ i = .int .i64 (k : Int) ∧ Hid (Ow wr w.heap.size (.slice q2 m d2) L') ∧ Hid (Apart (.slice q2 m d2) L') ∧ Hid (chs L' = chs L) ∧ Hid (Below (w.heap.size + 2) w2 wr)) (fun i _ => m - (intOf i).toNat)
  case atStart => exact ⟨0, L, by omega, rfl, HO2', HA2, Lib.hid rfl, Lib.hid (Below.refl _ _)⟩
  case round =>
    obtain ⟨k, L', hk, rfl, HO, HA, HC, HX⟩ := hrel
    have HZ := Lib.hid (HZ2.out.keep (HX.out.mono (by omega)))
    have HI := Lib.hid (HI2.out.keep (HX.out.mono (by omega)))
    have HBW : Hid (Below w.heap.size w wr) := Lib.hid (HB2.out.trans (HX.out.mono (by omega)))
    clear HO2' HA2
    by_cases hlt : k < m
    · obtain ⟨g, rfl⟩ := HO.out.ptr (by omega)
      obtain ⟨h0, h1, h2, _⟩ := HO.out.cells k hlt
      have HW := Lib.hid (HO.out.ws.fit k)
      have hdl : (L'.getD k wd0).n ≤ 2097152 := by
        have e := chs_getD L' k (by rw [HO.out.len]; exact hlt)
        rw [HC.out] at e
        rw [← HW.out.1.1]
        exact HD.out _ (List.mem_of_getElem? e)
      have HDL := Lib.hid hdl
      have HSTEP := Lib.hid (fun w1 (hw1 : Below wr.heap.size wr w1) w2 (hb : Below w1.heap.size w1 w2) p c => clone_step (p := p) (c := c) (HO.out.later hw1) HA.out k hlt hb)
      have HFZ : Hid (∀ W, Below wr.heap.size wr W → W.cell? ⟨g, k * 3 + 2, none⟩ = some (.slice (L'.getD k wd0).p (L'.getD k wd0).n (L'.getD k wd0).cap) ∧ W.frozen? ⟨g, k * 3 + 2, none⟩ = false) := Lib.hid fun W hW => by
        obtain ⟨_, _, c2, f2⟩ := (HO.out.later hW).cells k hlt
        exact ⟨c2, f2⟩
      have HGG := Lib.hid (HG.out g rfl)
      generalize L'.getD k wd0 = xx at *
      obtain ⟨xc, xp, xn, xcap⟩ := xx
      have HBA : Hid (Below wr.heap.size wr (wr.alloc (.cells #[.bool xc.cut, .int .i64 xc.off, .slice xp xn xcap] 137))) := Lib.hid ((Below.refl _ _).alloc (Nat.le_refl _) _)
      clear hdl
      dsimp only at h0 h1 h2
      have HWA := Lib.hid (HW.out.later HBA.out)
      go_wp2_with fail
      refine (wclone_any xp xn xcap xc.dat _ HWA.out.1 HWA.out.2.1 HDL.out).mono ?_
      rintro e w3 ⟨v3, rfl, ho3, hb3⟩
      have HWL := Lib.hid HW.out.1.1
      obtain ⟨p3, c3, hv3, _⟩ := ho3.open
      rw [HWL.out] at hv3
      subst hv3
      have HB3 := Lib.hid (below_step HBA.out hb3)
      have HNEW := Lib.hid (HSTEP.out wr (Below.refl _ _) w3 HB3.out p3 c3 (ho3.mono HBA.out.size))
      obtain ⟨cA, fA⟩ := HFZ.out w3 HB3.out
      have HX3 := Lib.hid ((HX.out.trans (HB3.out.mono (Nat.le_trans HS2.out HX.out.size))).setCell (p := ⟨g, k * 3 + 2, none⟩) HGG.out (.slice p3 xn c3))
      have hkn : (k : Int) < (m : Int) := by omega
      have hk0 : (0 : Int) ≤ (k : Int) := by omega
      clear ho3 hb3 h0 h1 h2 HSTEP HFZ
      go_wp2
      obtain ⟨L2, hl1, hl2, hl3⟩ := HNEW.out
      have HL1 := Lib.hid hl1
      have HL2 := Lib.hid hl2
      have HL3 := Lib.hid (hl3.trans HC.out)
      clear hl1 hl2 hl3
      refine ⟨?_, by simp [intOf]; omega⟩
      first
        | exact ⟨k + 1, L2, by omega, by go_num, HL1, HL2, HL3, HX3⟩
        | ((repeat apply Exists.intro); refine ⟨?_, rfl⟩; exact ⟨k + 1, L2, by omega, by go_num, HL1, HL2, HL3, HX3⟩)
    · obtain rfl : k = m := by omega
      obtain ⟨i0, i1⟩ := HI.out.cells
      go_wp2_with fail
      refine (wclone_any p n c zs _ (HF.out.1.later HBW.out) HF.out.2.1 HN.out).mono ?_
      rintro e w3 ⟨v3, rfl, ho3, hb3⟩
      obtain ⟨p3, c3, hv3, hlc3, _, hbs3, hpn3⟩ := ho3.open
      have hzl := HF.out.1.1
      rw [show zs.length = n from hzl] at hv3 hlc3 hbs3
      subst hv3
      have HAB := Lib.hid (apB_of ho3 HO.out (Nat.le_refl _))
      have HZ3 := Lib.hid (HZ.out.later hb3)
      have HB3 := Lib.hid (below_step HBW.out hb3)
      have HO3 := Lib.hid (HO.out.later hb3)
      have HBS := Lib.hid hbs3
      have HLC := Lib.hid hlc3
      have HPN := Lib.hid hpn3
      obtain ⟨z0, z1⟩ := HZ3.out.cells
      have f0 := HZ3.out.frozen 0
      have f1 := HZ3.out.frozen 1
      clear ho3 hb3 hlc3 hbs3 hpn3 i0 i1 hzl
      go_wp2
      refine bodyPost_ret (results_cell_row rfl _ _ (w.heap.size + 1) 73 _ (0, 0) _ rfl (cells2_stored HZ3.out _ _) Tryz.underlying73 rfl size25) rfl ?_
      refine ⟨⟨p3, n, c3, q2, k, d2, zs, L'⟩, rfl, ⟨HBS.out.stored HZ3.out.sl2 (stored2_keep _ _ _ _), HPN.out, HLC.out, HO3.out.ws.stored HZ3.out.sl2 (stored2_keep _ _ _ _), HPN2.out, HMD2.out⟩, ?_, ?_, HA.out, HAB.out, ?_⟩
      · rw [← HFI.out]; unfold Ni.fi; rw [HC.out]
      · exact HO3.out.stored HZ3.out (stored2_keep _ _ _ _)
      · exact (HB3.out.setCell (p := ⟨w.heap.size + 1, 0, none⟩) (Nat.le_succ _) _).setCell (p := ⟨w.heap.size + 1, 1, none⟩) (Nat.le_succ _) _
end Go.Proofs.YtncbgddgkpaoeaaGreat

namespace Go.Proofs.YtncbgddgkpaoeaaGreat
set_option linter.unusedVariables false
open Go.RowKit Go.Lib

theorem Ob.setBelow {w : World} {B : Nat} {e : TypeId} {v : Value} {zs : List Int} (h : Ob w B e v zs) {a : Addr} (ha : a.block < B) (u : Value) : Ob (w.setCell a u) B e v zs := ⟨h.1, ownsRow_setCell_below h.2 ha u⟩

set_option maxRecDepth 100000 in
set_option maxHeartbeats 2000000 in
theorem icrash_any (x : Ni) (r : Option Addr) (l e : Nat) (ch : List Int) (w : World) (h : Ni.fit w x) (ho : x.fi.ok) (hb : Bs w r l ch) (hr : r = none → e = 0) (hle : l ≤ e) (hl : l ≤ 2097152) :
    Calls Tryz.prog 46 #[x.v, .slice r l e] w fun e w' => ∃ (y : Ni) (v : Value), e = .returned (.tuple #[y.v, v]) ∧ Ni.fit w' y ∧ y.fi = crashP x.fi ch ∧ Ob w' w.heap.size 5 v (restP x.fi ch) ∧ Below w.heap.size w w' := by
  obtain ⟨hn, hm, hzl, hll⟩ := Ni.len h ho
  obtain ⟨p, n, c, q, m, d, zs, L⟩ := x
  have HB0 : Hid (Below w.heap.size w (w.alloc (.cells #[.slice p n c, .slice q m d] 73))) := Lib.hid ((Below.refl _ _).alloc (Nat.le_refl _) _)
  have HB1 : Hid (Below w.heap.size w ((w.alloc (.cells #[.slice p n c, .slice q m d] 73)).alloc (.cells #[.slice none 0 0, .slice none 0 0] 73))) := Lib.hid (HB0.out.alloc HB0.out.size _)
  have HZ1 : Hid (Iw ((w.alloc (.cells #[.slice p n c, .slice q m d] 73)).alloc (.cells #[.slice none 0 0, .slice none 0 0] 73)) (w.heap.size + 1) ni0) := Lib.hid (two_new _ _ _)
  have HI0 : Hid (Iw (w.alloc (.cells #[.slice p n c, .slice q m d] 73)) w.heap.size ⟨p, n, c, q, m, d, zs, L⟩) := Lib.hid (heap_alloc_new _ _)
  have HI1 : Hid (Iw ((w.alloc (.cells #[.slice p n c, .slice q m d] 73)).alloc (.cells #[.slice none 0 0, .slice none 0 0] 73)) w.heap.size ⟨p, n, c, q, m, d, zs, L⟩) := Lib.hid (HI0.out.later ((Below.refl _ _).alloc (Nat.le_refl _) _))
  obtain ⟨wA, hA⟩ : ∃ A, (w.alloc (.cells #[.slice p n c, .slice q m d] 73)).alloc (.cells #[.slice none 0 0, .slice none 0 0] 73) = A := ⟨_, rfl⟩
  have HF := Lib.hid h
  rw [hA] at HB1 HZ1 HI1
  have HSA : Hid (wA.heap.size = w.heap.size + 2) := Lib.hid (by rw [← hA]; simp)
  have HD0 : Hid (Below wA.heap.size wA wA.drew) := Lib.hid ((Below.refl _ _).drew)
  have HK : Hid (∀ W, Below wA.heap.size wA W → W.cell? ⟨w.heap.size, 0, none⟩ = some (.slice p n c) ∧ W.cell? ⟨w.heap.size, 1, none⟩ = some (.slice q m d)) := Lib.hid fun W hW => (HI1.out.later hW).cells
  have HK2 : Hid (∀ W v0 v1, Below wA.heap.size wA W → ((W.setCell ⟨w.heap.size + 1, 0, none⟩ v0).setCell ⟨w.heap.size + 1, 1, none⟩ v1).cell? ⟨w.heap.size, 0, none⟩ = some (.slice p n c) ∧ ((W.setCell ⟨w.heap.size + 1, 0, none⟩ v0).setCell ⟨w.heap.size + 1, 1, none⟩ v1).cell? ⟨w.heap.size, 1, none⟩ = some (.slice q m d)) := Lib.hid fun W v0 v1 hW => by
    have h1 := HK.out W hW
    have hk := stored2_keep W (w.heap.size + 1) v0 v1 w.heap.size (by omega)
    rw [World.cell?_of_block (a := ⟨w.heap.size, 0, none⟩) hk, World.cell?_of_block (a := ⟨w.heap.size, 1, none⟩) hk]
    exact h1
  obtain ⟨i0, i1⟩ := HI1.out.cells
  have k1 := HK.out _ (Below.refl _ _)
  have k0 := HK.out _ HD0.out
  have HBS := Lib.hid hb
  have HNL := Lib.hid hn
  have HM : Hid (m ≤ 1048576) := Lib.hid (Nat.le_succ_of_le hm)
  obtain ⟨K, hK⟩ : ∃ K, min l m = K := ⟨_, rfl⟩
  have hKl : K ≤ l := by omega
  have hmin : min (l : Int) (m : Int) = (K : Int) := by omega
  obtain ⟨p', hsl, hbs', hpn'⟩ := hb.slice_from (P := Tryz.prog) 32 5 Tryz.underlying32 (fun _ => by kernel_rfl) e K hle hKl
  have HBS' := Lib.hid hbs'
  have HPN' := Lib.hid (hpn' hr)
  have HRE : Hid (ch.drop K = restP (Ni.fi ⟨p, n, c, q, m, d, zs, L⟩) ch) := Lib.hid (by
    unfold restP Ni.fi
    rw [chs_length, hll, ← hK]
    rcases Nat.le_total l m with h1 | h1
    · rw [Nat.min_eq_left h1, List.drop_of_length_le (by rw [hb.1]; exact Nat.le_refl _), List.drop_of_length_le (by rw [hb.1]; exact h1)]
    · rw [Nat.min_eq_right h1])
  have hLK : l - K ≤ 2097152 := by omega
  have HCP : Hid (crashP (Ni.fi ⟨p, n, c, q, m, d, zs, L⟩) ch = ⟨surP zs (chs L) ch, []⟩) := Lib.hid rfl
  generalize hF : Ni.fi ⟨p, n, c, q, m, d, zs, L⟩ = F at *
  clear h ho hF HB0 HI0 hb hbs' hpn' hK
  unfold Ni.v
  go_enter Tryz.func46, Tryz.ntmps46
  go_wp2_with fail
  clear hA
  go_region_held3 (fun W => W.cell? ⟨w.heap.size, 0, none⟩ = some (.slice p n c) ∧ W.cell? ⟨w.heap.size, 1, none⟩ = some (.slice q m d)) (first | exact k0 | exact k1 | exact k2 | exact k3 | exact k4) (first
      | (go_at_call 83; refine (wsurvive_any p n c zs q m d L r l e ch _ (HF.out.1.later (below_step HB1.out HD0.out)) HF.out.2.1 HNL.out (HF.out.2.2.2.1.later (below_step HB1.out HD0.out)) HM.out (HBS.out.later (below_step HB1.out HD0.out)) hl).mono ?_; rintro e2 w2 ⟨v2, rfl, ho2, hb2⟩; obtain ⟨p2, c2, hv2, hlc2, _, hbs2, hpn2⟩ := ho2.open; subst hv2; have HS2 := Lib.hid hbs2; have HP2 := Lib.hid hpn2; have HC2 := Lib.hid hlc2; have HB2 := Lib.hid (below_step HD0.out hb2); have k2 := HK.out _ HB2.out; clear ho2 hb2 hlc2 hbs2 hpn2)
      | (go_at_call 28; refine (wclone_any p' (l - K) (e - K) (ch.drop K) _ (HBS'.out.later (below_step HB1.out HB2.out)) HPN'.out hLK).mono ?_; rintro e3 w3 ⟨v3, rfl, ho3, hb3⟩; have HO3 := Lib.hid ho3; have HB3 := Lib.hid (below_step HB2.out hb3); have HX3 := Lib.hid hb3; have k3 := HK.out _ HB3.out; have k4 := HK2.out w3 (.slice p2 (surP zs (chs L) ch).length c2) (.slice none 0 0) HB3.out; have HZ3 := Lib.hid (HZ1.out.later HB3.out); obtain ⟨z0, z1⟩ := HZ3.out.cells; have f0 := HZ3.out.frozen 0; have f1 := HZ3.out.frozen 1; clear ho3 hb3))
  have HSZ : Hid (w.heap.size + 2 ≤ w2.heap.size) := Lib.hid (by have := HB2.out.size; have := HSA.out; omega)
  have HO4 := Lib.hid ((HO3.out.setBelow (a := ⟨w.heap.size + 1, 0, none⟩) (by have := HSZ.out; show w.heap.size + 1 < _; omega) (.slice p2 (surP zs (chs L) ch).length c2)).setBelow (a := ⟨w.heap.size + 1, 1, none⟩) (by have := HSZ.out; show w.heap.size + 1 < _; omega) (.slice none 0 0))
  go_wp2
  refine bodyPost_ret (Iw.results_tmp (y := ⟨p2, (surP zs (chs L) ch).length, c2, none, 0, 0, surP zs (chs L) ch, []⟩) (cells2_stored HZ3.out _ _) rfl _ rfl) rfl ?_
  refine ⟨_, v3, rfl, ⟨(HS2.out.later HX3.out).stored HZ3.out.sl2 (stored2_keep _ _ _ _), HP2.out, HC2.out, ⟨rfl, by simp, Or.inl rfl⟩, fun _ => rfl, Nat.le_refl _⟩, HCP.out.symm, ?_, ((below_step HB1.out HB3.out).setCell (p := ⟨w.heap.size + 1, 0, none⟩) (Nat.le_succ _) _).setCell (p := ⟨w.heap.size + 1, 1, none⟩) (Nat.le_succ _) _⟩
  rw [← HRE.out]
  exact HO4.out.mono (by have := HSZ.out; omega)
end Go.Proofs.YtncbgddgkpaoeaaGreat

namespace Go.Proofs.YtncbgddgkpaoeaaGreat
set_option linter.unusedVariables false
open Go.RowKit Go.Lib

theorem below_alloc' {w0 w : World} (h : Below w0.heap.size w0 w) (o : Obj) : Below w0.heap.size w0 (w.alloc o) := h.alloc h.size o
theorem below_drew' {w0 w : World} (h : Below w0.heap.size w0 w) : Below w0.heap.size w0 w.drew := below_step h ((Below.refl _ _).drew)

set_option maxRecDepth 100000 in
set_option maxHeartbeats 2000000 in
theorem rmore_any (x : Ni) (u : Wd) (w : World) (h : Ni.fit w x) (ho : x.fi.ok) (hu : Wd.fit w u) :
    Calls Tryz.prog 119 #[x.v, chV u.c u.p u.n u.cap] w fun e w' => ∃ y : Ni, e = .returned y.v ∧ Ni.fit w' y ∧ y.fi = ⟨x.fi.b, x.fi.l ++ [u.c]⟩ ∧ Below w.heap.size w w' := by
  obtain ⟨hn, hm, hzl, hll⟩ := Ni.len h ho
  obtain ⟨p, n, c, q, m, d, zs, L⟩ := x
  obtain ⟨uc, up, un, ucap⟩ := u
  have HF := Lib.hid h
  have HU := Lib.hid hu
  have HLL := Lib.hid hll
  have hm' : m ≤ 1048575 := hm
  have HM := Lib.hid hm'
  obtain ⟨wA, hA⟩ : ∃ A, ((w.alloc (.cells #[.slice p n c, .slice q m d] 73)).alloc (.cells #[.bool uc.cut, .int .i64 uc.off, .slice up un ucap] 137)).alloc (.cells #[.slice none 0 0, .slice none 0 0] 73) = A := ⟨_, rfl⟩
  have HSA : Hid (wA.heap.size = w.heap.size + 3) := Lib.hid (by rw [← hA]; simp)
  have HBA : Hid (Below w.heap.size w wA) := Lib.hid (by rw [← hA]; exact below_alloc' (below_alloc' (below_alloc' (Below.refl _ _) _) _) _)
  have HI : Hid (Iw wA w.heap.size ⟨p, n, c, q, m, d, zs, L⟩) := Lib.hid (by
    rw [← hA]
    exact Iw.later (Iw.later (heap_alloc_new _ _) (below_alloc' (Below.refl _ _) _)) (below_alloc' (Below.refl _ _) _))
  have HC : Hid (Cw wA (w.heap.size + 1) uc up un ucap) := Lib.hid (by
    rw [← hA]
    exact Cw.keep (two_new _ _ _) ((Below.refl _ _).alloc (by simp) _))
  have HZ : Hid (Iw wA (w.heap.size + 1 + 1) ni0) := Lib.hid (by
    rw [← hA]
    have := heap_alloc_new ((w.alloc (.cells #[.slice p n c, .slice q m d] 73)).alloc (.cells #[.bool uc.cut, .int .i64 uc.off, .slice up un ucap] 137)) (.cells #[.slice none 0 0, .slice none 0 0] 73)
    have e : ((w.alloc (.cells #[.slice p n c, .slice q m d] 73)).alloc (.cells #[.bool uc.cut, .int .i64 uc.off, .slice up un ucap] 137)).heap.size = w.heap.size + 1 + 1 := by simp
    rw [e] at this
    exact this)
  have HFA := Lib.hid (HF.out.later HBA.out)
  have HUA := Lib.hid (HU.out.later HBA.out)
  obtain ⟨i0, i1⟩ := HI.out.cells
  obtain ⟨c0, c1, c2⟩ := HC.out.cells
  unfold Ni.v chV
  have HZL : Hid (([] : List Wd).length + m ≤ 2097152) := Lib.hid (by have := HM.out; simp; omega)
  have HO0 := Lib.hid (Ow.nil wA wA.heap.size)
  clear h ho hu
  go_enter Tryz.func119, Tryz.ntmps119
  go_wp2_with (refine wpList_append_wds rfl (.const (.slice none 0 0)) (.tmp 7) 71 rfl Tryz.underlying71 info48 wA.heap.size _ [] rfl HO0.out (Apart.nil _) q m d L rfl HFA.out.2.2.2.1 (Apart.nil _) HFA.out.2.2.2.2.1 HZL.out (Nat.le_refl _) ?_; intro v2 w2 ho2 hg2; rw [List.nil_append] at ho2; have HO2 := Lib.hid ho2; have HB2 := Lib.hid (below_none hg2); obtain ⟨q2, d2, hv2, hd2, _, _, hp2⟩ := ho2.open; rw [HLL.out] at hv2 hd2; subst hv2; clear ho2 hg2)
  clear hA i0 i1 c0 c1 c2
  have HK : Hid (∀ W, Below wA.heap.size wA W → W.cell? ⟨w.heap.size, 0, none⟩ = some (.slice p n c) ∧ W.cell? ⟨w.heap.size + 1, 0, none⟩ = some (.bool uc.cut) ∧ W.cell? ⟨w.heap.size + 1, 1, none⟩ = some (.int .i64 uc.off) ∧ W.cell? ⟨w.heap.size + 1, 2, none⟩ = some (.slice up un ucap)) := Lib.hid fun W hW => ⟨(HI.out.later hW).cells.1, (HC.out.keep (hW.mono (by have := HSA.out; omega))).cells⟩
  have HK2 : Hid (∀ W v0 v1, Below wA.heap.size wA W → ((W.setCell ⟨w.heap.size + 1 + 1, 0, none⟩ v0).setCell ⟨w.heap.size + 1 + 1, 1, none⟩ v1).cell? ⟨w.heap.size, 0, none⟩ = some (.slice p n c) ∧ ((W.setCell ⟨w.heap.size + 1 + 1, 0, none⟩ v0).setCell ⟨w.heap.size + 1 + 1, 1, none⟩ v1).cell? ⟨w.heap.size + 1, 0, none⟩ = some (.bool uc.cut) ∧ ((W.setCell ⟨w.heap.size + 1 + 1, 0, none⟩ v0).setCell ⟨w.heap.size + 1 + 1, 1, none⟩ v1).cell? ⟨w.heap.size + 1, 1, none⟩ = some (.int .i64 uc.off) ∧ ((W.setCell ⟨w.heap.size + 1 + 1, 0, none⟩ v0).setCell ⟨w.heap.size + 1 + 1, 1, none⟩ v1).cell? ⟨w.heap.size + 1, 2, none⟩ = some (.slice up un ucap)) := Lib.hid fun W v0 v1 hW => by
    have h1 := HK.out W hW
    have hk := stored2_keep W (w.heap.size + 1 + 1) v0 v1 w.heap.size (by omega)
    have hl := stored2_keep W (w.heap.size + 1 + 1) v0 v1 (w.heap.size + 1) (by omega)
    rw [World.cell?_of_block (a := ⟨w.heap.size, 0, none⟩) hk, World.cell?_of_block (a := ⟨w.heap.size + 1, 0, none⟩) hl, World.cell?_of_block (a := ⟨w.heap.size + 1, 1, none⟩) hl, World.cell?_of_block (a := ⟨w.heap.size + 1, 2, none⟩) hl]
    exact h1
  have HD3 := Lib.hid (below_drew' HB2.out)
  have HB3 := Lib.hid (below_alloc' HD3.out (.cells #[.bool uc.cut, .int .i64 uc.off, .slice up un ucap] 137))
  have HO3 := Lib.hid ((HO2.out.later ((Below.refl _ _).drew)).alloc (.cells #[.bool uc.cut, .int .i64 uc.off, .slice up un ucap] 137))
  have HA3 : Hid (Apart (.slice q2 m d2) L) := Lib.hid (apart_of_below HO2.out (Nat.le_refl _) HFA.out.2.2.2.1.2.1)
  have HW3 := Lib.hid (ws_one (w := w2.drew) ⟨uc, up, un, ucap⟩ (HUA.out.later HD3.out))
  have HA4 : Hid (Apart (.slice q2 m d2) [⟨uc, up, un, ucap⟩]) := Lib.hid (apart_of_below HO2.out (Nat.le_refl _) (fun x hx => by obtain rfl := List.mem_singleton.1 hx; exact HUA.out))
  have k0 := HK.out _ HB2.out
  have k1 := HK.out _ HD3.out
  have k2 := HK.out _ HB3.out
  have HPB := Lib.hid HFA.out.1
  go_region_held3 (fun W => W.cell? ⟨w.heap.size, 0, none⟩ = some (.slice p n c) ∧ W.cell? ⟨w.heap.size + 1, 0, none⟩ = some (.bool uc.cut) ∧ W.cell? ⟨w.heap.size + 1, 1, none⟩ = some (.int .i64 uc.off) ∧ W.cell? ⟨w.heap.size + 1, 2, none⟩ = some (.slice up un ucap)) (first | exact k0 | exact k1 | exact k2 | exact k3 | exact k4) (first | (refine step_append_wds rfl (.tmp 11) (.tmp 13) 71 rfl Tryz.underlying71 info48 wA.heap.size (.slice q2 m d2) L rfl HO3.out HA3.out _ _ _ [⟨uc, up, un, ucap⟩] rfl HW3.out HA4.out (fun h => by cases h) (by rw [HLL.out]; have := HM.out; omega) HB3.out.size ?_; intro v6 w6 ho6 hg6; obtain ⟨q6, d6, hv6, hld6, _, hws6, hpn6⟩ := ho6.open; have hlen6 : (L ++ [(⟨uc, up, un, ucap⟩ : Wd)]).length = m + 1 := (List.length_append.trans (by rw [HLL.out, List.length_singleton])); rw [hlen6] at hv6 hld6 hws6; subst hv6; have HB6 := Lib.hid (below_new_ow HB3.out HO3.out hg6 HB3.out.size); have k3 := HK.out _ HB6.out; have k4 := HK2.out w6 (.slice p n c) (.slice q6 (m + 1) d6) HB6.out; have HZ6 := Lib.hid (HZ.out.later HB6.out); have HW6 := Lib.hid hws6; have HP6 := Lib.hid hpn6; have HD6 := Lib.hid hld6; obtain ⟨z0, z1⟩ := HZ6.out.cells; have f0 := HZ6.out.frozen 0; have f1 := HZ6.out.frozen 1; clear ho6 hg6 hws6 hpn6 hld6 hlen6))
  go_wp2
  refine bodyPost_ret (results_cell_row rfl _ _ (w.heap.size + 1 + 1) 73 _ (0, 0) _ rfl (cells2_stored HZ6.out _ _) Tryz.underlying73 rfl size25) rfl ?_
  refine ⟨⟨p, n, c, q6, m + 1, d6, zs, L ++ [⟨uc, up, un, ucap⟩]⟩, rfl, ⟨(HPB.out.later HB6.out).stored HZ6.out.sl2 (stored2_keep _ _ _ _), HF.out.2.1, HF.out.2.2.1, HW6.out.stored HZ6.out.sl2 (stored2_keep _ _ _ _), HP6.out, HD6.out⟩, ?_, ((below_step HBA.out HB6.out).setCell (p := ⟨w.heap.size + 1 + 1, 0, none⟩) (Nat.le_trans (Nat.le_succ _) (Nat.le_succ _)) _).setCell (p := ⟨w.heap.size + 1 + 1, 1, none⟩) (Nat.le_trans (Nat.le_succ _) (Nat.le_succ _)) _⟩
  simp [Ni.fi, chs]
end Go.Proofs.YtncbgddgkpaoeaaGreat

namespace Go.Proofs.YtncbgddgkpaoeaaGreat
set_option linter.unusedVariables false
open Go.RowKit Go.Lib

set_option maxRecDepth 100000 in
theorem rnow_any (x : Ni) (w : World) (h : Ni.fit w x) (ho : x.fi.ok) :
    Calls Tryz.prog 79 #[.slice x.p x.n x.c, .slice x.q x.m x.d] w fun e w' => ∃ v, e = .returned v ∧ Ob w' w.heap.size 5 v (nowP x.fi) ∧ Below w.heap.size w w' := by
  obtain ⟨hn, hm, _, _⟩ := Ni.len h ho
  exact rall_any x.p x.n x.c x.zs x.q x.m x.d x.L w h.1 h.2.1 hn h.2.2.2.1 (Nat.le_succ_of_le hm)

set_option maxRecDepth 100000 in
set_option maxHeartbeats 2000000 in
theorem rappend_ino (x : Ni) (r : Option Addr) (l e : Nat) (bs : List Int) (w : World) (h : Ni.fit w x) (ho : x.fi.ok) (hb : Bs w r l bs) (hr : r = none → e = 0) (hle : l ≤ e) (hem : e ≤ maxLen) (hl : l ≤ 2097152) :
    Calls Tryz.prog 97 #[x.v, .slice r l e] w fun e w' => ∃ y : Ni, e = .returned (.tuple #[y.v, .int .i64 (appendE x.fi bs)]) ∧ Ni.fit w' y ∧ y.fi = appendP x.fi bs ∧ Below w.heap.size w w' := by
  have HN := Lib.hid fun W hW => rnow_any x W hW ho
  have HMO := Lib.hid fun u W hW hU => rmore_any x u W hW ho hU
  have HNB := Lib.hid (nowP_bound ho)
  obtain ⟨p, n, c, q, m, d, zs, L⟩ := x
  have HF := Lib.hid h
  obtain ⟨wA, hA⟩ : ∃ A, (w.alloc (.cells #[.slice p n c, .slice q m d] 73)).alloc (.cells #[.slice none 0 0, .slice none 0 0] 73) = A := ⟨_, rfl⟩
  have HBA : Hid (Below w.heap.size w wA) := Lib.hid (by rw [← hA]; exact below_alloc' (below_alloc' (Below.refl _ _) _) _)
  have HI : Hid (Iw wA w.heap.size ⟨p, n, c, q, m, d, zs, L⟩) := Lib.hid (by rw [← hA]; exact Iw.later (heap_alloc_new _ _) (below_alloc' (Below.refl _ _) _))
  have HZ : Hid (Iw wA (w.heap.size + 1) ni0) := Lib.hid (by rw [← hA]; exact two_new _ _ _)
  have HFA := Lib.hid (HF.out.later HBA.out)
  have HBS := Lib.hid hb
  have hbl := hb.1
  generalize hF : Ni.fi ⟨p, n, c, q, m, d, zs, L⟩ = F at *
  have HFF := Lib.hid hF
  obtain ⟨i0, i1⟩ := HI.out.cells
  unfold Ni.v at HMO ⊢
  dsimp only at HN
  clear h ho hb hF
  go_enter Tryz.func97, Tryz.ntmps97
  go_wp2_with fail
  clear hA
  refine (HN.out _ HFA.out).mono ?_
  rintro e4 w4 ⟨v4, rfl, ho4, hb4⟩
  obtain ⟨p4, c4, hv4, _⟩ := ho4.open
  subst hv4
  have HB4 := Lib.hid (below_step HBA.out hb4)
  have HI4 := Lib.hid (HI.out.later hb4)
  have HZ4 := Lib.hid (HZ.out.later hb4)
  have HF4 := Lib.hid (HFA.out.later hb4)
  have HS4 := Lib.hid (HBS.out.later HB4.out)
  have hN1 := HNB.out
  generalize hNN : nowP F = N at *
  have HNN := Lib.hid hNN
  clear ho4 hb4 i0 i1 hNN HN HNB HI HZ HFA
  obtain ⟨i0, i1⟩ := HI4.out.cells
  obtain ⟨z0, z1⟩ := HZ4.out.cells
  have f0 := HZ4.out.frozen 0
  have f1 := HZ4.out.frozen 1
  by_cases hcase : 1048576 < N.length + l
  · have HE : Hid (appendE F bs = 18) := Lib.hid (by unfold appendE; rw [HNN.out, hbl, if_pos hcase])
    have HP : Hid (appendP F bs = F) := Lib.hid (by unfold appendP; rw [HNN.out, hbl, if_pos hcase])
    have hc1 : decide ((N.length : Int) + (l : Int) > 1048576) = true := by simp; omega
    generalize N.length = nl at *
    clear hcase hbl
    go_wp2
    refine bodyPost_ret (Iw.results_tmp (y := ⟨p, n, c, q, m, d, zs, L⟩) (cells2_stored HZ4.out _ _) rfl _ rfl) rfl ?_
    refine ⟨_, by rw [HE.out]; rfl, HF4.out.stored HZ4.out.sl2 (stored2_keep _ _ _ _), by rw [HP.out]; exact HFF.out, (HB4.out.setCell (p := ⟨w.heap.size + 1, 0, none⟩) (Nat.le_succ _) _).setCell (p := ⟨w.heap.size + 1, 1, none⟩) (Nat.le_succ _) _⟩
  · have HE : Hid (appendE F bs = 0) := Lib.hid (by unfold appendE; rw [HNN.out, hbl, if_neg hcase])
    have hc1 : decide ((N.length : Int) + (l : Int) > 1048576) = false := by simp; omega
    by_cases hl0 : l = 0
    · have HP : Hid (appendP F bs = F) := Lib.hid (by unfold appendP; rw [HNN.out, hbl, if_neg hcase, if_pos hl0])
      generalize N.length = nl at *
      clear hcase hbl
      have hl1 : ((l : Int) == 0) = true := by simp [hl0]
      clear hl0
      go_wp2
      refine bodyPost_ret (Iw.results_tmp (y := ⟨p, n, c, q, m, d, zs, L⟩) (cells2_stored HZ4.out _ _) rfl _ rfl) rfl ?_
      refine ⟨_, by rw [HE.out]; rfl, HF4.out.stored HZ4.out.sl2 (stored2_keep _ _ _ _), by rw [HP.out]; exact HFF.out, (HB4.out.setCell (p := ⟨w.heap.size + 1, 0, none⟩) (Nat.le_succ _) _).setCell (p := ⟨w.heap.size + 1, 1, none⟩) (Nat.le_succ _) _⟩
    · have HP : Hid (appendP F bs = ⟨F.b, F.l ++ [⟨(N.length : Int), false, bs⟩]⟩) := Lib.hid (by unfold appendP; rw [HNN.out, hbl, if_neg hcase, if_neg hl0])
      generalize N.length = nl at *
      clear hcase hbl
      have hl1 : ((l : Int) == 0) = false := by simp [hl0]
      have HU : Hid (Wd.fit w4 ⟨⟨(nl : Int), false, bs⟩, r, l, e⟩) := Lib.hid ⟨HS4.out, hr, hle, hem, by show InI64 (nl : Int); unfold InI64; omega⟩
      clear hl0
      have HM2 := Lib.hid (HMO.out ⟨⟨(nl : Int), false, bs⟩, r, l, e⟩ _ HF4.out HU.out)
      unfold chV at HM2
      dsimp only at HM2
      go_wp2_with fail
      refine HM2.out.mono ?_
      rintro e5 w5 ⟨⟨yp, yn, yc, yq, ym, yd, yz, yL⟩, rfl, hf5, hy5, hb5⟩
      have HF5 := Lib.hid hf5
      have HY5 := Lib.hid hy5
      have HZ5 := Lib.hid (HZ4.out.later hb5)
      have HB5 := Lib.hid (below_step HB4.out hb5)
      clear hf5 hy5 hb5 i0 i1 z0 z1 f0 f1
      obtain ⟨z0, z1⟩ := HZ5.out.cells
      have f0 := HZ5.out.frozen 0
      have f1 := HZ5.out.frozen 1
      go_wp2
      refine bodyPost_ret (Iw.results_tmp (y := ⟨yp, yn, yc, yq, ym, yd, yz, yL⟩) (cells2_stored HZ5.out _ _) rfl _ rfl) rfl ?_
      refine ⟨_, by rw [HE.out]; rfl, HF5.out.stored HZ5.out.sl2 (stored2_keep _ _ _ _), by rw [HP.out]; exact HY5.out, (HB5.out.setCell (p := ⟨w.heap.size + 1, 0, none⟩) (Nat.le_succ _) _).setCell (p := ⟨w.heap.size + 1, 1, none⟩) (Nat.le_succ _) _⟩

set_option maxRecDepth 100000 in
set_option maxHeartbeats 2000000 in
theorem rcut_ino (x : Ni) (k : Int) (w : World) (h : Ni.fit w x) (ho : x.fi.ok) (hk : InI64 k) :
    Calls Tryz.prog 98 #[x.v, .int .i64 k] w fun e w' => ∃ y : Ni, e = .returned (.tuple #[y.v, .int .i64 (cutE x.fi k)]) ∧ Ni.fit w' y ∧ y.fi = cutP x.fi k ∧ Below w.heap.size w w' := by
  have HN := Lib.hid fun W hW => rnow_any x W hW ho
  have HMO := Lib.hid fun u W hW hU => rmore_any x u W hW ho hU
  have HNB := Lib.hid (nowP_bound ho)
  have HK := Lib.hid hk
  obtain ⟨p, n, c, q, m, d, zs, L⟩ := x
  have HF := Lib.hid h
  obtain ⟨wA, hA⟩ : ∃ A, (w.alloc (.cells #[.slice p n c, .slice q m d] 73)).alloc (.cells #[.slice none 0 0, .slice none 0 0] 73) = A := ⟨_, rfl⟩
  have HBA : Hid (Below w.heap.size w wA) := Lib.hid (by rw [← hA]; exact below_alloc' (below_alloc' (Below.refl _ _) _) _)
  have HI : Hid (Iw wA w.heap.size ⟨p, n, c, q, m, d, zs, L⟩) := Lib.hid (by rw [← hA]; exact Iw.later (heap_alloc_new _ _) (below_alloc' (Below.refl _ _) _))
  have HZ : Hid (Iw wA (w.heap.size + 1) ni0) := Lib.hid (by rw [← hA]; exact two_new _ _ _)
  have HFA := Lib.hid (HF.out.later HBA.out)
  generalize hF : Ni.fi ⟨p, n, c, q, m, d, zs, L⟩ = F at *
  have HFF := Lib.hid hF
  obtain ⟨i0, i1⟩ := HI.out.cells
  obtain ⟨z0, z1⟩ := HZ.out.cells
  have f0 := HZ.out.frozen 0
  have f1 := HZ.out.frozen 1
  unfold Ni.v at HMO ⊢
  dsimp only at HN
  clear h ho hF hk
  go_enter Tryz.func98, Tryz.ntmps98
  by_cases hneg : k < 0
  · have HE : Hid (cutE F k = 20) := Lib.hid (by unfold cutE; rw [if_pos (Or.inl hneg)])
    have HP : Hid (cutP F k = F) := Lib.hid (by unfold cutP; rw [if_pos (Or.inl hneg)])
    have hb1 : decide (k < 0) = true := decide_eq_true hneg
    go_wp2
    clear hA
    refine bodyPost_ret (Iw.results_tmp (y := ⟨p, n, c, q, m, d, zs, L⟩) (cells2_stored HZ.out _ _) rfl _ rfl) rfl ?_
    refine ⟨_, by rw [HE.out]; rfl, HFA.out.stored HZ.out.sl2 (stored2_keep _ _ _ _), by rw [HP.out]; exact HFF.out, (HBA.out.setCell (p := ⟨w.heap.size + 1, 0, none⟩) (Nat.le_succ _) _).setCell (p := ⟨w.heap.size + 1, 1, none⟩) (Nat.le_succ _) _⟩
  · have hb1 : decide (k < 0) = false := decide_eq_false hneg
    go_wp2_with fail
    clear hA
    refine (HN.out _ HFA.out).mono ?_
    rintro e4 w4 ⟨v4, rfl, ho4, hb4⟩
    obtain ⟨p4, c4, hv4, _⟩ := ho4.open
    subst hv4
    have HB4 := Lib.hid (below_step HBA.out hb4)
    have HI4 := Lib.hid (HI.out.later hb4)
    have HZ4 := Lib.hid (HZ.out.later hb4)
    have HF4 := Lib.hid (HFA.out.later hb4)
    have hN1 := HNB.out
    generalize hNN : nowP F = N at *
    have HNN := Lib.hid hNN
    clear ho4 hb4 i0 i1 z0 z1 f0 f1 hNN HN HNB HI HZ HFA
    obtain ⟨i0, i1⟩ := HI4.out.cells
    obtain ⟨z0, z1⟩ := HZ4.out.cells
    have f0 := HZ4.out.frozen 0
    have f1 := HZ4.out.frozen 1
    by_cases hbig : (N.length : Int) < k
    · have HE : Hid (cutE F k = 20) := Lib.hid (by unfold cutE; rw [HNN.out, if_pos (Or.inr hbig)])
      have HP : Hid (cutP F k = F) := Lib.hid (by unfold cutP; rw [HNN.out, if_pos (Or.inr hbig)])
      generalize N.length = nl at *
      go_wp2
      refine bodyPost_ret (Iw.results_tmp (y := ⟨p, n, c, q, m, d, zs, L⟩) (cells2_stored HZ4.out _ _) rfl _ rfl) rfl ?_
      refine ⟨_, by rw [HE.out]; rfl, HF4.out.stored HZ4.out.sl2 (stored2_keep _ _ _ _), by rw [HP.out]; exact HFF.out, (HB4.out.setCell (p := ⟨w.heap.size + 1, 0, none⟩) (Nat.le_succ _) _).setCell (p := ⟨w.heap.size + 1, 1, none⟩) (Nat.le_succ _) _⟩
    · have HE : Hid (cutE F k = 0) := Lib.hid (by unfold cutE; rw [HNN.out, if_neg (by omega)])
      have HP : Hid (cutP F k = ⟨F.b, F.l ++ [⟨k, true, []⟩]⟩) := Lib.hid (by unfold cutP; rw [HNN.out, if_neg (by omega)])
      have HU : Hid (Wd.fit w4 ⟨⟨k, true, []⟩, none, 0, 0⟩) := Lib.hid ⟨Bs.empty _ _, fun _ => rfl, Nat.le_refl _, by simp, HK.out⟩
      have HM2 := Lib.hid (HMO.out ⟨⟨k, true, []⟩, none, 0, 0⟩ _ HF4.out HU.out)
      unfold chV at HM2
      dsimp only at HM2
      generalize N.length = nl at *
      go_wp2_with fail
      refine HM2.out.mono ?_
      rintro e5 w5 ⟨⟨yp, yn, yc, yq, ym, yd, yz, yL⟩, rfl, hf5, hy5, hb5⟩
      have HF5 := Lib.hid hf5
      have HY5 := Lib.hid hy5
      have HZ5 := Lib.hid (HZ4.out.later hb5)
      have HB5 := Lib.hid (below_step HB4.out hb5)
      clear hf5 hy5 hb5 i0 i1 z0 z1 f0 f1
      obtain ⟨z0, z1⟩ := HZ5.out.cells
      have f0 := HZ5.out.frozen 0
      have f1 := HZ5.out.frozen 1
      go_wp2
      refine bodyPost_ret (Iw.results_tmp (y := ⟨yp, yn, yc, yq, ym, yd, yz, yL⟩) (cells2_stored HZ5.out _ _) rfl _ rfl) rfl ?_
      refine ⟨_, by rw [HE.out]; rfl, HF5.out.stored HZ5.out.sl2 (stored2_keep _ _ _ _), by rw [HP.out]; exact HY5.out, (HB5.out.setCell (p := ⟨w.heap.size + 1, 0, none⟩) (Nat.le_succ _) _).setCell (p := ⟨w.heap.size + 1, 1, none⟩) (Nat.le_succ _) _⟩

set_option maxRecDepth 100000 in
set_option maxHeartbeats 2000000 in
theorem rcrash_ino (x : Ni) (r : Option Addr) (l e : Nat) (ch : List Int) (w : World) (h : Ni.fit w x) (ho : x.fi.ok) (hb : Bs w r l ch) (hr : r = none → e = 0) (hle : l ≤ e) (hl : l ≤ 2097152) :
    Calls Tryz.prog 76 #[x.v, .slice r l e] w fun e w' => ∃ (y : Ni) (p' : Option Addr) (n' c' : Nat), e = .returned (.tuple #[y.v, .slice p' n' c']) ∧ Ni.fit w' y ∧ y.fi = crashP x.fi ch ∧ Bs w' p' n' (restP x.fi ch) ∧ n' ≤ 2097152 ∧ Below w.heap.size w w' := by
  obtain ⟨hn, hm, hzl, hll⟩ := Ni.len h ho
  obtain ⟨p, n, c, q, m, d, zs, L⟩ := x
  have HF := Lib.hid h
  obtain ⟨wA, hA⟩ : ∃ A, (w.alloc (.cells #[.slice p n c, .slice q m d] 73)).alloc (.cells #[.slice none 0 0, .slice none 0 0] 73) = A := ⟨_, rfl⟩
  have HBA : Hid (Below w.heap.size w wA) := Lib.hid (by rw [← hA]; exact below_alloc' (below_alloc' (Below.refl _ _) _) _)
  have HI : Hid (Iw wA w.heap.size ⟨p, n, c, q, m, d, zs, L⟩) := Lib.hid (by rw [← hA]; exact Iw.later (heap_alloc_new _ _) (below_alloc' (Below.refl _ _) _))
  have HZ : Hid (Iw wA (w.heap.size + 1) ni0) := Lib.hid (by rw [← hA]; exact two_new _ _ _)
  have HFA := Lib.hid (HF.out.later HBA.out)
  have HSA := Lib.hid (hb.later HBA.out)
  have HNL : Hid (n ≤ 2097152) := Lib.hid hn
  have HM : Hid (m ≤ 1048576) := Lib.hid (Nat.le_succ_of_le hm)
  have hbl := hb.1
  have HCP : Hid (crashP (Ni.fi ⟨p, n, c, q, m, d, zs, L⟩) ch = ⟨surP zs (chs L) ch, []⟩) := Lib.hid rfl
  have HRE : Hid (restP (Ni.fi ⟨p, n, c, q, m, d, zs, L⟩) ch = ch.drop m) := Lib.hid (by unfold restP Ni.fi; rw [chs_length, hll])
  generalize hF : Ni.fi ⟨p, n, c, q, m, d, zs, L⟩ = F at *
  obtain ⟨i0, i1⟩ := HI.out.cells
  unfold Ni.v
  clear h ho hb hF hn hm hzl hll
  go_enter Tryz.func76, Tryz.ntmps76
  go_wp2_with fail
  clear hA
  refine (rsurvive_any p n c zs q m d L r l e ch _ HFA.out.1 HFA.out.2.1 HNL.out HFA.out.2.2.2.1 HM.out HSA.out hl).mono ?_
  rintro e4 w4 ⟨v4, rfl, ho4, hb4⟩
  obtain ⟨p4, c4, hv4, hlc4, _, hbs4, hpn4⟩ := ho4.open
  subst hv4
  have HB4 := Lib.hid (below_step HBA.out hb4)
  have HI4 := Lib.hid (HI.out.later hb4)
  have HZ4 := Lib.hid (HZ.out.later hb4)
  have HS4 := Lib.hid (HSA.out.later hb4)
  have HR4 := Lib.hid hbs4
  have HP4 := Lib.hid hpn4
  have HC4 := Lib.hid hlc4
  clear ho4 hb4 i0 i1 HI HZ hbs4 hpn4 hlc4
  generalize surP zs (chs L) ch = S at *
  obtain ⟨i0, i1⟩ := HI4.out.cells
  obtain ⟨z0, z1⟩ := HZ4.out.cells
  have f0 := HZ4.out.frozen 0
  have f1 := HZ4.out.frozen 1
  by_cases hlt : l < m
  · have HD : Hid (ch.drop m = []) := Lib.hid (List.drop_of_length_le (by omega))
    go_wp2
    refine bodyPost_ret (Iw.results_tmp (y := ⟨p4, S.length, c4, none, 0, 0, S, []⟩) (cells2_stored HZ4.out _ _) rfl _ rfl) rfl ?_
    exact ⟨_, _, _, _, rfl, ⟨HR4.out.stored HZ4.out.sl2 (stored2_keep _ _ _ _), HP4.out, HC4.out, ⟨rfl, by simp, Or.inl rfl⟩, fun _ => rfl, Nat.le_refl _⟩, HCP.out.symm, by rw [HRE.out, HD.out]; exact Bs.empty _ _, by omega, (HB4.out.setCell (p := ⟨w.heap.size + 1, 0, none⟩) (Nat.le_succ _) _).setCell (p := ⟨w.heap.size + 1, 1, none⟩) (Nat.le_succ _) _⟩
  · obtain ⟨p', hsl, hbs', hpn'⟩ := HS4.out.slice_from (P := Tryz.prog) 32 5 Tryz.underlying32 (fun _ => by kernel_rfl) e m hle (by omega)
    have HBS' := Lib.hid hbs'
    clear hbs' hpn'
    have hml : m ≤ l := by omega
    have hmi : (m : Int) ≤ (l : Int) := by omega
    go_wp2_with fail
    go_region
    go_wp2
    have HX := Lib.hid (below_drew' (Below.refl ((w4.setCell ⟨w.heap.size + 1, 0, none⟩ (.slice p4 S.length c4)).setCell ⟨w.heap.size + 1, 1, none⟩ (.slice none 0 0)).heap.size ((w4.setCell ⟨w.heap.size + 1, 0, none⟩ (.slice p4 S.length c4)).setCell ⟨w.heap.size + 1, 1, none⟩ (.slice none 0 0))))
    have HY : Hid (Iw ((w4.setCell ⟨w.heap.size + 1, 0, none⟩ (.slice p4 S.length c4)).setCell ⟨w.heap.size + 1, 1, none⟩ (.slice none 0 0)) (w.heap.size + 1) ⟨p4, S.length, c4, none, 0, 0, S, []⟩) := Lib.hid (cells2_stored HZ4.out _ _)
    refine bodyPost_ret (Iw.results_tmp (y := ⟨p4, S.length, c4, none, 0, 0, S, []⟩) (HY.out.later HX.out) rfl _ rfl) rfl ?_
    exact ⟨_, _, _, _, rfl, ⟨(HR4.out.stored HZ4.out.sl2 (stored2_keep _ _ _ _)).later HX.out, HP4.out, HC4.out, ⟨rfl, by simp, Or.inl rfl⟩, fun _ => rfl, Nat.le_refl _⟩, HCP.out.symm, by rw [HRE.out]; exact (HBS'.out.stored HZ4.out.sl2 (stored2_keep _ _ _ _)).later HX.out, by omega, below_step ((HB4.out.setCell (p := ⟨w.heap.size + 1, 0, none⟩) (Nat.le_succ _) _).setCell (p := ⟨w.heap.size + 1, 1, none⟩) (Nat.le_succ _) _) HX.out⟩
end Go.Proofs.YtncbgddgkpaoeaaGreat

namespace Go.Proofs.YtncbgddgkpaoeaaGreat
set_option linter.unusedVariables false
open Go.RowKit Go.Lib

theorem Ob.keepG {w w' : World} {B : Nat} {e : TypeId} {v : Value} {zs : List Int} (h : Ob w B e v zs) (hk : ∀ g, B ≤ g → g < w.heap.size → w'.heap[g]? = w.heap[g]?) : Ob w' B e v zs := by
  obtain ⟨hb, hl, h2⟩ := h
  refine ⟨hb, hl, ?_⟩
  rcases h2 with h2 | ⟨g, cap, cur, hv, hB, hg, r⟩
  · exact Or.inl h2
  · exact Or.inr ⟨g, cap, cur, hv, hB, (hk g hB (Array.getElem?_eq_some_iff.1 hg).1).trans hg, r⟩
/-- bytes of the call's own while a row of something else grows -/
theorem Ob.grownG {α : Type} {E : Ec α} (hne : E.t ≠ 5) {w w' : World} {B B' : Nat} {v u : Value} {zs : List Int} {L : List α} (h : Ob w B 5 u zs) (ho : Gw E w B' v L) (hg : w.grownBy w' v.ownBlock) : Ob w' B 5 u zs := by
  obtain ⟨h1, hl, h2⟩ := h
  refine ⟨h1, hl, ?_⟩
  rcases h2 with h2 | ⟨b, cap, cur, hv, hB, hb, r⟩
  · exact Or.inl h2
  · refine Or.inr ⟨b, cap, cur, hv, hB, ?_, r⟩
    rw [hg.block b (Array.getElem?_eq_some_iff.1 hb).1 (fun e => ?_)]
    · exact hb
    · rcases ho.2 with ⟨rfl, _⟩ | ⟨g, cap', cur', rfl, _, hg', _⟩
      · cases e
      · obtain rfl : b = g := by simpa [Value.ownBlock] using e
        rw [hb] at hg'
        simp only [Option.some.injEq, Obj.cells.injEq] at hg'
        exact hne hg'.2.1.symm

set_option maxRecDepth 100000 in
set_option maxHeartbeats 2000000 in
theorem rcrash_own (x : Ni) (r : Option Addr) (l e : Nat) (ch : List Int) (w : World) (h : Ni.fit w x) (ho : x.fi.ok) (hb : Bs w r l ch) (hr : r = none → e = 0) (hle : l ≤ e) (hl : l ≤ 2097152) :
    Calls Tryz.prog 76 #[x.v, .slice r l e] w fun e w' => ∃ (p1 : Option Addr) (c1 : Nat) (p' : Option Addr) (n' c' : Nat), e = .returned (.tuple #[.agg #[.slice p1 (crashP x.fi ch).b.length c1, .slice none 0 0], .slice p' n' c']) ∧ Ob w' w.heap.size 5 (.slice p1 (crashP x.fi ch).b.length c1) (crashP x.fi ch).b ∧ (∀ W, Bs W r l ch → Bs W p' n' (restP x.fi ch)) ∧ (p' = none → c' = 0) ∧ n' ≤ c' ∧ n' ≤ 2097152 ∧ Below w.heap.size w w' := by
  obtain ⟨hn, hm, hzl, hll⟩ := Ni.len h ho
  obtain ⟨p, n, c, q, m, d, zs, L⟩ := x
  have HF := Lib.hid h
  obtain ⟨wA, hA⟩ : ∃ A, (w.alloc (.cells #[.slice p n c, .slice q m d] 73)).alloc (.cells #[.slice none 0 0, .slice none 0 0] 73) = A := ⟨_, rfl⟩
  have HBA : Hid (Below w.heap.size w wA) := Lib.hid (by rw [← hA]; exact below_alloc' (below_alloc' (Below.refl _ _) _) _)
  have HWS : Hid (w.heap.size + 2 = wA.heap.size) := Lib.hid (by rw [← hA]; simp)
  have HI : Hid (Iw wA w.heap.size ⟨p, n, c, q, m, d, zs, L⟩) := Lib.hid (by rw [← hA]; exact Iw.later (heap_alloc_new _ _) (below_alloc' (Below.refl _ _) _))
  have HZ : Hid (Iw wA (w.heap.size + 1) ni0) := Lib.hid (by rw [← hA]; exact two_new _ _ _)
  have HFA := Lib.hid (HF.out.later HBA.out)
  have HSA := Lib.hid (hb.later HBA.out)
  have HNL : Hid (n ≤ 2097152) := Lib.hid hn
  have HM : Hid (m ≤ 1048576) := Lib.hid (Nat.le_succ_of_le hm)
  have hbl := hb.1
  have HCP : Hid (crashP (Ni.fi ⟨p, n, c, q, m, d, zs, L⟩) ch = ⟨surP zs (chs L) ch, []⟩) := Lib.hid rfl
  have HRE : Hid (restP (Ni.fi ⟨p, n, c, q, m, d, zs, L⟩) ch = ch.drop m) := Lib.hid (by unfold restP Ni.fi; rw [chs_length, hll])
  obtain ⟨S, hS⟩ : ∃ S, surP zs (chs L) ch = S := ⟨_, rfl⟩
  rw [HCP.out, HRE.out]
  dsimp only
  rw [hS]
  have HSS := Lib.hid hS
  clear hS
  generalize hF : Ni.fi ⟨p, n, c, q, m, d, zs, L⟩ = F at *
  obtain ⟨i0, i1⟩ := HI.out.cells
  unfold Ni.v
  clear h ho hb hF hn hm hzl hll
  go_enter Tryz.func76, Tryz.ntmps76
  go_wp2_with fail
  clear hA
  refine (rsurvive_any p n c zs q m d L r l e ch _ HFA.out.1 HFA.out.2.1 HNL.out HFA.out.2.2.2.1 HM.out HSA.out hl).mono ?_
  rintro e4 w4 ⟨v4, rfl, ho4, hb4⟩
  rw [HSS.out] at ho4
  obtain ⟨p4, c4, hv4, hlc4, _, hbs4, hpn4⟩ := ho4.open
  subst hv4
  have HB4 := Lib.hid (below_step HBA.out hb4)
  have HI4 := Lib.hid (HI.out.later hb4)
  have HZ4 := Lib.hid (HZ.out.later hb4)
  have HS4 := Lib.hid (HSA.out.later hb4)
  have HR4 := Lib.hid hbs4
  have HO4 : Hid (Ob w4 wA.heap.size 5 (.slice p4 S.length c4) S) := Lib.hid ho4
  have HWA : Hid (w.heap.size + 2 = wA.heap.size) := Lib.hid HWS.out
  have HP4 := Lib.hid hpn4
  have HC4 := Lib.hid hlc4
  clear ho4 hb4 i0 i1 HI HZ hbs4 hpn4 hlc4
  obtain ⟨i0, i1⟩ := HI4.out.cells
  obtain ⟨z0, z1⟩ := HZ4.out.cells
  have f0 := HZ4.out.frozen 0
  have f1 := HZ4.out.frozen 1
  by_cases hlt : l < m
  · have HD : Hid (ch.drop m = []) := Lib.hid (List.drop_of_length_le (by omega))
    go_wp2
    refine bodyPost_ret (Iw.results_tmp (y := ⟨p4, S.length, c4, none, 0, 0, S, []⟩) (cells2_stored HZ4.out _ _) rfl _ rfl) rfl ?_
    exact ⟨p4, c4, none, 0, 0, rfl, (HO4.out.keepG (w' := (w4.setCell ⟨w.heap.size + 1, 0, none⟩ (.slice p4 S.length c4)).setCell ⟨w.heap.size + 1, 1, none⟩ (.slice none 0 0)) (fun g hg _ => stored2_keep _ _ _ _ g (by have := HWA.out; omega))).mono HBA.out.size, by rw [HD.out]; exact fun W _ => Bs.empty _ _, fun _ => rfl, Nat.le_refl _, by omega, (HB4.out.setCell (p := ⟨w.heap.size + 1, 0, none⟩) (Nat.le_succ _) _).setCell (p := ⟨w.heap.size + 1, 1, none⟩) (Nat.le_succ _) _⟩
  · obtain ⟨p', hsl, hbs', hpn'⟩ := HS4.out.slice_from (P := Tryz.prog) 32 5 Tryz.underlying32 (fun _ => by kernel_rfl) e m hle (by omega)
    have HBS' := Lib.hid hbs'
    have HPN' := Lib.hid (hpn' hr)
    have HBA' : Hid (∀ W, Bs W r l ch → Bs W p' (l - m) (ch.drop m)) := Lib.hid fun W hW => by
      obtain ⟨p2, hsl2, hbs2, _⟩ := hW.slice_from (P := Tryz.prog) 32 5 Tryz.underlying32 (fun _ => by kernel_rfl) e m hle (by omega)
      have h1 := (hsl W).symm.trans (hsl2 W)
      have h2 : p' = p2 := by simpa using h1
      rw [h2]; exact hbs2
    clear hbs' hpn'
    have hml : m ≤ l := by omega
    have hmi : (m : Int) ≤ (l : Int) := by omega
    go_wp2_with fail
    go_region
    go_wp2
    have HX := Lib.hid (below_drew' (Below.refl ((w4.setCell ⟨w.heap.size + 1, 0, none⟩ (.slice p4 S.length c4)).setCell ⟨w.heap.size + 1, 1, none⟩ (.slice none 0 0)).heap.size ((w4.setCell ⟨w.heap.size + 1, 0, none⟩ (.slice p4 S.length c4)).setCell ⟨w.heap.size + 1, 1, none⟩ (.slice none 0 0))))
    have HY : Hid (Iw ((w4.setCell ⟨w.heap.size + 1, 0, none⟩ (.slice p4 S.length c4)).setCell ⟨w.heap.size + 1, 1, none⟩ (.slice none 0 0)) (w.heap.size + 1) ⟨p4, S.length, c4, none, 0, 0, S, []⟩) := Lib.hid (cells2_stored HZ4.out _ _)
    refine bodyPost_ret (Iw.results_tmp (y := ⟨p4, S.length, c4, none, 0, 0, S, []⟩) (HY.out.later HX.out) rfl _ rfl) rfl ?_
    exact ⟨p4, c4, p', l - m, e - m, rfl, ((HO4.out.keepG (w' := (w4.setCell ⟨w.heap.size + 1, 0, none⟩ (.slice p4 S.length c4)).setCell ⟨w.heap.size + 1, 1, none⟩ (.slice none 0 0)) (fun g hg _ => stored2_keep _ _ _ _ g (by have := HWA.out; omega))).mono HBA.out.size).later HX.out, HBA'.out, HPN'.out, by omega, by omega, below_step ((HB4.out.setCell (p := ⟨w.heap.size + 1, 0, none⟩) (Nat.le_succ _) _).setCell (p := ⟨w.heap.size + 1, 1, none⟩) (Nat.le_succ _) _) HX.out⟩
end Go.Proofs.YtncbgddgkpaoeaaGreat
