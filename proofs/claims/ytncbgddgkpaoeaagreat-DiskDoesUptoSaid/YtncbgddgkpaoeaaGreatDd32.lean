/- Layer 12, the program: Create's function; an entry that is new; Layer 12, the program: Create, Rename, Remove, SyncDir; Layer 12, the program: Read, Calls, Fuse, Free; Layer 12, the program: what a nil disk answers; Layer 12: rows of calls and of files, limits, calls, as a statement's arguments; Layer 12, the reference: Files: of equal rows it answers true -/
import Derived.Test.YtncbgddgkpaoeaaGreatDd29
import Derived.Test.YtncbgddgkpaoeaaGreatDd31
import Derived.WideKeyEntry
import Derived.Deep.RegionLaw
import Derived.Lib.SmallJoins
set_option linter.unusedSimpArgs false
set_option linter.unusedVariables false
namespace Go.Proofs.YtncbgddgkpaoeaaGreat
set_option linter.unusedVariables false
open Go.RowKit Go.Lib Go.Maps Go.MapKept Go.ChangeMaps Go.ChangeShapes Go.WideShapes
open Go.WideElems (Fit rd rg pl rd_key rg_of findIdx_born findIdx_arr)

set_option maxRecDepth 100000 in
theorem entry_run {w : World} {M n : Nat} {g : Int → Option Ni} (h : Mi w M n g) (hn : n ≤ 4194304) (i : Int) (hi : InI i) (hnew : g i = none) :
    ∃ w5 st, (Instr.mapEntry TD (.map (some M)) (.int .i64 i)).run Tryz.prog w = .ok (.tuple #[ni0.v, .int .i64 st]) w5 ∧ Mi w5 M (n + 1) (fun j => if j = i then some ni0 else g j) ∧ w.grownBy w5 (some M) ∧
      ∀ W, W.heap[M]? = w5.heap[M]? → (Instr.entryStore TD (.map (some M)) (.int .i64 st) ni0.v).run Tryz.prog W = .ok () W := by
  obtain ⟨w', hrun, hm', hg'⟩ := put_run h hn i hi ni0
  obtain ⟨h0, D, hown, hd⟩ := h
  have hhas := (hd i hi).1
  rw [hnew] at hhas
  obtain ⟨es, clock, hb, F, hs, rfl⟩ := hown
  obtain ⟨s1, s2, _⟩ := F.stamped
  rcases lawI.find w (keyI_of hi) es.toList F.keys with ⟨h1, h2⟩ | ⟨j, e0, h1, h2, h3⟩
  · have hup : (Instr.mapUpdate TD (.map (some M)) (.int .i64 i) ni0.v).run Tryz.prog w = .ok () (setBlock w M (.map (es.push ⟨.int .i64 i, ni0.v, clock⟩) (clock + 1))) := by
      simp [Instr.mapUpdate, run_underlying undD, MapKept.run_getObj_map hb, lawI.check w false (keyI_of hi), h1, MapKept.run_setObj_map _ hb, Result.andThen, setBlock]
    rw [hup] at hrun
    simp only [Result.ok.injEq, true_and] at hrun
    subst hrun
    refine ⟨_, clock, ?_, hm', hg', fun W hW => ?_⟩
    · simp [Instr.mapEntry, run_underlying undD, MapKept.run_getObj_map hb, lawI.check w false (keyI_of hi), h1, zeroV, MapKept.run_setObj_map _ hb, Result.andThen, setBlock, goInt]
      exact ⟨rfl, rfl⟩
    · have hWm : W.heap[M]? = some (.map (es.push ⟨.int .i64 i, ni0.v, clock⟩) (clock + 1)) := hW.trans (heap_setBlock_same hb _)
      have hst := stamped_push F.stamped (key := .int .i64 i) (val := ni0.v) h2
      have hidx : (es.push ⟨.int .i64 i, ni0.v, clock⟩).findIdx? (fun e => ((e.born : Nat) : Int) == ((clock : Nat) : Int)) = some es.size := by
        rw [findIdx_arr]
        exact findIdx_born (l := (es.push ⟨.int .i64 i, ni0.v, clock⟩).toList) (j := es.size) (e0 := ⟨.int .i64 i, ni0.v, clock⟩) hst.2.1 (by simp)
      have hmod : (es.push ⟨.int .i64 i, ni0.v, clock⟩).modify es.size (fun e => { e with val := ni0.v }) = es.push ⟨.int .i64 i, ni0.v, clock⟩ := by
        apply Array.ext_getElem?
        intro k
        rw [Array.getElem?_modify]
        by_cases e : es.size = k
        · subst e; simp
        · rw [if_neg e]
      have hheap : W.heap.setIfInBounds M (.map (es.push ⟨.int .i64 i, ni0.v, clock⟩) (clock + 1)) = W.heap := by
        apply Array.ext_getElem?
        intro k
        by_cases e : k = M
        · subst e
          exact (heap_setBlock_same hWm _).trans hWm.symm
        · exact heap_setBlock_other hWm _ e
      simp [Instr.entryStore, MapKept.run_getObj_map hWm, asInt, asIntOf, hidx, hmod, MapKept.run_setObj_map _ hWm, Result.andThen, hheap]
  · exfalso
    have hmem : e0 ∈ es.toList := List.mem_of_getElem? h2
    obtain ⟨y, hy⟩ := F.reads e0 hmem
    have hk := rd_key hy
    rw [h3, keyI_of hi] at hk
    have hyk : y.1 = keyI i := (Option.some.inj hk).symm
    have : has (DataW.map ((es.toList.map (rg Tryz.prog TE RV)).foldr DataW.insert [])) (keyI i) = true :=
      List.any_eq_true.2 ⟨rg Tryz.prog TE RV e0, mem_sorted.2 (List.mem_map.2 ⟨e0, hmem, rfl⟩), by rw [rg_of hy, hyk]; exact WideAt.sameKey_self (keyI_is hi)⟩
    rw [this] at hhas
    cases hhas

set_option maxRecDepth 100000 in
theorem len_run {w : World} {M n : Nat} {g : Int → Option Ni} (h : Mi w M n g) {K : List Kt} (hK : irises (idK K)) (hgK : ∀ i, (g i).map Ni.fi = getK K i) (ty : TypeId) : (Builtin.len_ #[TD] ty #[.map (some M)]).run Tryz.prog w = .ok (.int .i64 (K.length : Int)) w := by
  obtain ⟨h0, D, hown, hd⟩ := h
  have e := hown.len undD ty
  rw [(size_is hown hd h0 hK hgK).1] at e
  exact e

theorem cr_get {g : Int → Option Ni} {K : List Kt} (hk : ∀ i, (g i).map Ni.fi = getK K i) {n : Int} (hn : n ∉ idK K) (i : Int) : (if i = n then some ni0 else g i).map Ni.fi = getK (K ++ [⟨n, fi0⟩]) i := by
  rw [getK_append, ← hk i]
  by_cases e : i = n
  · subst e
    have h1 := hk i
    rw [getK_none hn] at h1
    rw [if_pos rfl, h1, getK, if_pos rfl]
    rfl
  · rw [if_neg e, getK, if_neg (fun h => e h.symm)]
    cases (g i).map Ni.fi <;> rfl
theorem cr_end {w w2 w' : World} {D M n : Nat} {d : Dk} {F' : Fd} {x x2 : Fo} {fu : Int} {g : Int → Option Ni} (h : Dx w D M d x fu g) (h2 : Dx w2 D M { d with F := F' } x2 fu g) (hk : Kp D M w2 w')
    (hb : w'.heap[D]? = some (.cells (dcells { d with F := F', last := d.last + 1 } x2 M fu) 66 (0, 0))) (hm : Mi w' M n (fun j => if j = d.last + 1 then some ni0 else g j)) (hK : irises (idK (d.K ++ [⟨d.last + 1, fi0⟩]))) (hn : d.last + 1 ∉ idK d.K) :
    Dw w' D M { d with F := F', K := d.K ++ [⟨d.last + 1, fi0⟩], last := d.last + 1 } := by
  refine ⟨x2, fu, fun j => if j = d.last + 1 then some ni0 else g j, hb, h2.f.kp hk h2.nix.1 h2.nix.2, h2.fd, hm.exact hK (cr_get h.k hn), fun i y hy => ?_, cr_get h.k hn, h.u, h.ui⟩
  split at hy
  · obtain rfl := Option.some.inj hy
    exact ni0_fit _
  · exact (h2.n i y hy).kp hk h2.nix.1 h2.nix.2

set_option maxRecDepth 100000 in
set_option maxHeartbeats 1000000 in
theorem dcre1_any {w : World} {D M m : Nat} {d : Dk} {x : Fo} {fu : Int} {g : Int → Option Ni} (h : Dx w D M d x fu g) (ho : d.Ok m) (hm : m ≤ 1048574) (s : ByteArray) (hs : s.size ≤ 1048576)
    (bd bs : Nat) (hbd : w.cell? ⟨bd, 0, none⟩ = some (.pointer (some ⟨D, 0, none⟩))) (hbs : w.cell? ⟨bs, 0, none⟩ = some (.string s)) (hnb : bd ≠ D ∧ bd ≠ M ∧ bs ≠ D ∧ bs ≠ M) :
    Calls Tryz.prog 49 #[.pointer (some ⟨bd, 0, none⟩), .pointer (some ⟨bs, 0, none⟩)] w fun e w' => e = .returned (.int .i64 (createP d s).2) ∧ Dw w' D M (createP d s).1 ∧ Kp D M w w' := by
  have HX := Lib.hid h
  have HLF := Lib.hid ho.lf
  have hlast : 0 ≤ d.last ∧ d.last ≤ 1048574 := by have := ho.last0; have := ho.last; omega
  have hc : (⟨1, s, ⟨#[]⟩, d.last + 1⟩ : Cg).ok := chg_ok (by omega) hs (by decide) (by unfold InI; omega)
  have HRA := Lib.hid fun W hW => drearr_any (D := D) (M := M) (m := m) (d := d) (x := x) (fu := fu) (g := g) (w := W) hW ho (by omega) ⟨1, s, ⟨#[]⟩, d.last + 1⟩ hc
  have HCP : Hid (createP d s = (if d.lf ≤ (d.K.length : Int) then (d, (8 : Int)) else if errP diskP d.F ⟨1, s, ⟨#[]⟩, d.last + 1⟩ = 0 then ({ d with F := doP diskP d.F ⟨1, s, ⟨#[]⟩, d.last + 1⟩, K := d.K ++ [⟨d.last + 1, fi0⟩], last := d.last + 1 }, 0) else (d, errP diskP d.F ⟨1, s, ⟨#[]⟩, d.last + 1⟩))) := Lib.hid rfl
  have HDE : Hid (errP diskP d.F ⟨1, s, ⟨#[]⟩, d.last + 1⟩ ≠ 0 → doP diskP d.F ⟨1, s, ⟨#[]⟩, d.last + 1⟩ = d.F) := Lib.hid fun e => by unfold doP; rw [if_neg e]
  have HKR := Lib.hid ho.rises
  have HNEW : Hid (d.last + 1 ∉ idK d.K) := Lib.hid fun hi => by
    rw [ho.ids] at hi
    have := ho.low _ hi
    omega
  have HKS : Hid (irises (idK (d.K ++ [⟨d.last + 1, fi0⟩]))) := Lib.hid (by
    rw [idK_append]
    refine List.pairwise_append.2 ⟨ho.rises, List.pairwise_singleton _ _, fun a ha b hb => ?_⟩
    obtain rfl := List.mem_singleton.1 hb
    rw [ho.ids] at ha
    have := ho.low a ha
    dsimp only
    omega)
  have hkl := ho.klen
  have HK : Hid (∀ W, Below w.heap.size w W → W.cell? ⟨bd, 0, none⟩ = some (.pointer (some ⟨D, 0, none⟩)) ∧ W.cell? ⟨bs, 0, none⟩ = some (.string s) ∧ W.cell? ⟨D, 1, none⟩ = some (.int .i64 d.lf) ∧ W.cell? ⟨D, 4, none⟩ = some (.map (some M))) := Lib.hid fun W hW => by
    obtain ⟨_, c1, c2, c3, c4, _⟩ := (h.later hW).cells
    have e : ∀ {k : Nat} {v : Value}, w.cell? ⟨k, 0, none⟩ = some v → W.cell? ⟨k, 0, none⟩ = some v := fun hv => by rw [hW.cell (World.block_lt_of_cell? w _ hv)]; exact hv
    exact ⟨e hbd, e hbs, c1, c4⟩
  have HBD := Lib.hid hbd
  have HBS := Lib.hid hbs
  have HNB := Lib.hid hnb
  obtain ⟨B, hB⟩ : ∃ B, createP d s = B := ⟨_, rfl⟩
  rw [hB] at HCP ⊢
  have HD0 : Hid (Below w.heap.size w w.drew) := Lib.hid ((Below.refl _ _).drew)
  have HXD := Lib.hid (h.later HD0.out)
  have hlen := fun ty => len_run HXD.out.m HKR.out HX.out.k ty
  have k0 := HK.out _ (Below.refl _ _)
  have k1 := HK.out _ HD0.out
  have c5 : w.drew.cell? ⟨D, 5, none⟩ = some (.int .i64 d.last) := HXD.out.cells.2.2.2.2.2.1
  generalize hkk : d.K.length = kk at *
  clear h ho hbd hbs hnb hB hc
  by_cases h1 : d.lf ≤ (kk : Int)
  · have HCP0 : Hid (B = (d, 8)) := Lib.hid (by rw [HCP.out, if_pos h1])
    have hdec : decide (d.lf ≤ (kk : Int)) = true := decide_eq_true h1
    clear HCP
    go_enter Tryz.func49, Tryz.ntmps49
    go_wp2_with fail
    go_region
    go_wp2
    go_ret
    rw [HCP0.out]
    exact ⟨rfl, ⟨_, _, _, HXD.out⟩, Kp.of_below HD0.out⟩
  · have hdec : decide (d.lf ≤ (kk : Int)) = false := decide_eq_false h1
    have HCP1 := Lib.hid (HCP.out.trans (if_neg h1))
    obtain ⟨er, her⟩ : ∃ e, errP diskP d.F ⟨1, s, ⟨#[]⟩, d.last + 1⟩ = e := ⟨_, rfl⟩
    obtain ⟨F', hF'⟩ : ∃ e, doP diskP d.F ⟨1, s, ⟨#[]⟩, d.last + 1⟩ = e := ⟨_, rfl⟩
    rw [her, hF'] at HCP1 HRA HDE
    unfold Cg.v at HRA
    dsimp only at HRA
    clear HCP her hF' h1
    by_cases he : er = 0
    · have HCP2 := Lib.hid (HCP1.out.trans (if_pos he))
      clear HCP1 HDE
      subst he
      go_enter Tryz.func49, Tryz.ntmps49
      go_wp2_with fail
      go_region
      go_wp2_with (go_at_call 50; refine (HRA.out _ HXD.out).mono ?_; rintro e w2 ⟨rfl, ⟨x2, hx2⟩, hk2, hm2⟩; have HX2 := Lib.hid hx2; have HK2 := Lib.hid ((Kp.of_below HD0.out).trans hk2); have kb : w2.cell? ⟨bd, 0, none⟩ = some (.pointer (some ⟨D, 0, none⟩)) := (by rw [World.cell?_of_block (w := w) (HK2.out.block bd (World.block_lt_of_cell? w _ HBD.out) HNB.out.1 HNB.out.2.1)]; exact HBD.out); clear hx2 hk2 hm2 k0 k1 c5 hlen)
      have HDw : Hid (Below w2.heap.size w2 w2.drew) := Lib.hid ((Below.refl _ _).drew)
      have HX3 := Lib.hid (HX2.out.later HDw.out)
      have kb3 : w2.drew.cell? ⟨bd, 0, none⟩ = some (.pointer (some ⟨D, 0, none⟩)) := kb
      have k4 : w2.drew.cell? ⟨D, 4, none⟩ = some (.map (some M)) := HX3.out.cells.2.2.2.2.1
      have hgn : g (d.last + 1) = none := by
        have := HX.out.k (d.last + 1)
        rw [getK_none HNEW.out] at this
        simpa using this
      obtain ⟨w5, st, hent, hm5, hg5, hst⟩ := entry_run HX3.out.m (by dsimp only; rw [hkk]; omega) (d.last + 1) (by unfold InI; omega) hgn
      have HM5 := Lib.hid hm5
      have HG5 := Lib.hid hg5
      have hbD : w5.heap[D]? = w2.heap[D]? := hg5.block D HX3.out.lt (fun e => HX.out.ne (by simpa using e))
      have HB5 : Hid (w5.heap[D]? = some (.cells (dcells { d with F := F' } x2 M fu) 66 (0, 0))) := Lib.hid (hbD.trans HX2.out.b)
      have c5 : w5.cell? ⟨D, 5, none⟩ = some (.int .i64 d.last) := (dc_cells HB5.out).2.2.2.2.2.1
      have f5 : w5.frozen? ⟨D, 5, none⟩ = false := frozen_of_row w5 D 5 _ _ HB5.out
      have hs5 := hst w5 rfl
      have hs6 := hst (w5.setCell ⟨D, 5, none⟩ (.int .i64 (d.last + 1))) (Below.heap_setCell _ _ _ _ (fun e => HX.out.ne e.symm))
      have HB6 : Hid ((w5.setCell ⟨D, 5, none⟩ (.int .i64 (d.last + 1))).heap[D]? = some (.cells (dcells { d with F := F', last := d.last + 1 } x2 M fu) 66 (0, 0))) := Lib.hid (setLast_heap HB5.out _)
      have HM6 : Hid (Mi (w5.setCell ⟨D, 5, none⟩ (.int .i64 (d.last + 1))) M (kk + 1) (fun j => if j = d.last + 1 then some ni0 else g j)) := Lib.hid (by
        dsimp only at hm5; rw [hkk] at hm5
        exact hm5.same (Below.heap_setCell _ _ _ _ (fun e => HX.out.ne e.symm)))
      have HK6 : Hid (Kp D M w2 (w5.setCell ⟨D, 5, none⟩ (.int .i64 (d.last + 1)))) := Lib.hid (((Kp.of_below HDw.out).map hg5).setD _ _)
      have c5w : w2.cell? ⟨D, 5, none⟩ = some (.int .i64 d.last) := HX2.out.cells.2.2.2.2.2.1
      have f5w : w2.frozen? ⟨D, 5, none⟩ = false := HX2.out.frozen 5
      have HKb : Hid (Kp D M w2 (w2.setCell ⟨D, 5, none⟩ (.int .i64 (d.last + 1))).drew) := Lib.hid (((Kp.refl D M w2).setD _ _).drew)
      have HBb : Hid ((w2.setCell ⟨D, 5, none⟩ (.int .i64 (d.last + 1))).drew.heap[D]? = some (.cells (dcells { d with F := F', last := d.last + 1 } x2 M fu) 66 (0, 0))) := Lib.hid (setLast_heap HX2.out.b _)
      have HMb : Mi (w2.setCell ⟨D, 5, none⟩ (.int .i64 (d.last + 1))).drew M kk g := by
        have := HX2.out.m
        dsimp only at this; rw [hkk] at this
        exact this.same (Below.heap_setCell _ _ _ _ (fun e => HX.out.ne e.symm))
      obtain ⟨w7, st7, hent7, hm7, hg7, hst7⟩ := entry_run HMb (by omega) (d.last + 1) (by unfold InI; omega) hgn
      have HM7 := Lib.hid hm7
      have HK7 : Hid (Kp D M w2 w7) := Lib.hid (HKb.out.map hg7)
      have HB7 : Hid (w7.heap[D]? = some (.cells (dcells { d with F := F', last := d.last + 1 } x2 M fu) 66 (0, 0))) := Lib.hid ((hg7.block D (Array.getElem?_eq_some_iff.1 HBb.out).1 (fun e => HX.out.ne (by simpa using e))).trans HBb.out)
      have hs7 := hst7 w7 rfl
      unfold ni0 Ni.v at hent hs5 hs6 hent7 hs7
      dsimp only at hent hs5 hs6 hent7 hs7
      have hdl : -9223372036854775808 ≤ d.last + 1 ∧ d.last + 1 ≤ 9223372036854775807 := by omega
      clear hst hm5 hg5 hbD hgn hm7 hg7 hst7 HMb
      go_wp2_with fail
      go_region
      all_goals (try go_wp2)
      all_goals go_ret
      all_goals (
        rw [HCP2.out]
        first
          | exact ⟨rfl, cr_end HX.out HX2.out HK6.out HB6.out HM6.out HKS.out HNEW.out, HK2.out.trans HK6.out⟩
          | exact ⟨rfl, cr_end HX.out HX2.out HK7.out HB7.out HM7.out HKS.out HNEW.out, HK2.out.trans HK7.out⟩)
    · have HCP2 := Lib.hid (HCP1.out.trans (if_neg he))
      have HFF : Hid (F' = d.F) := Lib.hid (HDE.out he)
      have hk : (er == 0) = false := by simpa using he
      clear HCP1 HDE he
      go_enter Tryz.func49, Tryz.ntmps49
      go_wp2_with fail
      go_region
      go_wp2_with (go_at_call 50; refine (HRA.out _ HXD.out).mono ?_; rintro e w2 ⟨rfl, ⟨x2, hx2⟩, hk2, hm2⟩; have HX2 := Lib.hid hx2; have HK2 := Lib.hid ((Kp.of_below HD0.out).trans hk2); have kb : w2.cell? ⟨bd, 0, none⟩ = some (.pointer (some ⟨D, 0, none⟩)) := (by rw [World.cell?_of_block (w := w) (HK2.out.block bd (World.block_lt_of_cell? w _ HBD.out) HNB.out.1 HNB.out.2.1)]; exact HBD.out); clear hx2 hk2 hm2 k0 k1 c5 hlen)
      have HDw : Hid (Below w2.heap.size w2 w2.drew) := Lib.hid ((Below.refl _ _).drew)
      have HX3 := Lib.hid (HX2.out.later HDw.out)
      have kb3 : w2.drew.cell? ⟨bd, 0, none⟩ = some (.pointer (some ⟨D, 0, none⟩)) := kb
      have k4 : w2.drew.cell? ⟨D, 4, none⟩ = some (.map (some M)) := HX3.out.cells.2.2.2.2.1
      go_wp2
      go_ret
      rw [HCP2.out]
      have hx := HX2.out
      rw [HFF.out] at hx
      exact ⟨rfl, ⟨_, _, _, hx⟩, HK2.out⟩
end Go.Proofs.YtncbgddgkpaoeaaGreat

namespace Go.Proofs.YtncbgddgkpaoeaaGreat
set_option linter.unusedVariables false
open Go.RowKit Go.Lib Go.Maps

set_option maxRecDepth 100000 in
set_option maxHeartbeats 1000000 in
theorem dcreate_any {w : World} {D M m : Nat} {d : Dk} (h : Dw w D M d) (ho : d.Ok m) (hm : m ≤ 1048573) (s : ByteArray) (hs : s.size ≤ 1048576) :
    Calls Tryz.prog 15 #[.pointer (some ⟨D, 0, none⟩), .string s] w fun e w' => e = .returned (.int .i64 (powP d (fun d => createP d s)).2) ∧ Dw w' D M (powP d (fun d => createP d s)).1 ∧ Kp D M w w' := by
  obtain ⟨x, fu, g, h⟩ := h
  obtain ⟨wb0, hA0⟩ : ∃ A, w.alloc (.cells #[.pointer (some ⟨D, 0, none⟩)] 26) = A := ⟨_, rfl⟩
  obtain ⟨G0, hG0⟩ : ∃ G, w.heap.size = G := ⟨_, rfl⟩
  have hB0 : Below w.heap.size w wb0 := by rw [← hA0]; exact (Below.refl _ _).alloc (Nat.le_refl _) _
  have hS0 := hB0.size
  obtain ⟨wA, hA1⟩ : ∃ A, wb0.alloc (.cells #[.string s] 9) = A := ⟨_, rfl⟩
  obtain ⟨G1, hG1⟩ : ∃ G, wb0.heap.size = G := ⟨_, rfl⟩
  have hB1 : Below wb0.heap.size wb0 wA := by rw [← hA1]; exact (Below.refl _ _).alloc (Nat.le_refl _) _
  have hS1 := hB1.size
  have HBA : Hid (Below w.heap.size w wA) := Lib.hid (below_step (hB0) hB1)
  have k0 : wA.cell? ⟨G0, 0, none⟩ = some (.pointer (some ⟨D, 0, none⟩)) := by
    refine cell_below (?_) hB1
    rw [← hA0, ← hG0]; exact cell_alloc1 _ _ _ rfl
  have k1 : wA.cell? ⟨G1, 0, none⟩ = some (.string s) := by
    rw [← hA1, ← hG1]; exact cell_alloc1 _ _ _ rfl
  have HXA := Lib.hid (h.later HBA.out)
  have hDl := h.lt
  have hMl := h.m.lt
  have hn0 : G0 ≠ D ∧ G0 ≠ M ∧ G1 ≠ D ∧ G1 ≠ M := by omega
  have HTO := Lib.hid (tick_ok ho)
  cases hd : downP d with
  | true =>
    have hr : powP d (fun d => createP d s) = (offP d, 11) := by unfold powP; rw [hd, if_pos rfl]
    rw [hr]
    have HPD := Lib.hid (dperform_down HXA.out hd 49 #[.pointer (some ⟨G0, 0, none⟩), .pointer (some ⟨G1, 0, none⟩)])
    clear h hd hr hDl hMl hn0 hB0 hS0 hB1 hS1
    go_enter Tryz.func15, Tryz.ntmps15
    go_wp2_with (go_at_call 48; refine HPD.out.mono ?_; rintro e w2 ⟨rfl, hx2, hk2⟩; have HX2 := Lib.hid hx2; have HK2 := Lib.hid hk2; clear hx2 hk2)
    go_ret
    exact ⟨rfl, HX2.out, (Kp.of_below HBA.out).trans HK2.out⟩
  | false =>
    have hr : powP d (fun d => createP d s) = createP (tickP d) s := by unfold powP; rw [hd, if_neg (by simp)]
    rw [hr]
    have HPU := Lib.hid (dperform_up HXA.out ho (by omega) hd 49 (enters_of Tryz.func49 (by kernel_rfl) rfl) #[.pointer (some ⟨G0, 0, none⟩), .pointer (some ⟨G1, 0, none⟩)]
      (fun e w' => e = .returned (.int .i64 (createP (tickP d) s).2) ∧ Dw w' D M (createP (tickP d) s).1 ∧ Kp D M w w') (fun e w' he => ⟨_, he.1⟩) (fun w1 fu1 hx1 hk1 => by
        refine (dcre1_any hx1 HTO.out (by omega) s hs G0 G1 (cell_kp k0 hk1 hn0.1 hn0.2.1) (cell_kp k1 hk1 hn0.2.2.1 hn0.2.2.2) ⟨hn0.1, hn0.2.1, hn0.2.2.1, hn0.2.2.2⟩).mono ?_
        rintro e w' ⟨rfl, hw, hk⟩
        exact ⟨rfl, hw, ((Kp.of_below HBA.out).trans hk1).trans hk⟩))
    clear h hd hr hDl hMl hn0 hB0 hS0 hB1 hS1
    go_enter Tryz.func15, Tryz.ntmps15
    go_wp2_with (go_at_call 48; refine HPU.out.mono ?_; rintro e w2 ⟨rfl, hx2, hk2⟩; have HX2 := Lib.hid hx2; have HK2 := Lib.hid hk2; clear hx2 hk2)
    go_ret
    exact ⟨rfl, HX2.out, HK2.out⟩
set_option maxRecDepth 100000 in
set_option maxHeartbeats 1000000 in
theorem drename_any {w : World} {D M m : Nat} {d : Dk} (h : Dw w D M d) (ho : d.Ok m) (hm : m ≤ 1048573) (a b : ByteArray) (ha : a.size ≤ 1048576) (hb : b.size ≤ 1048576) :
    Calls Tryz.prog 36 #[.pointer (some ⟨D, 0, none⟩), .string a, .string b] w fun e w' => e = .returned (.int .i64 (powP d (fun d => renP d ⟨2, a, b, 0⟩)).2) ∧ Dw w' D M (powP d (fun d => renP d ⟨2, a, b, 0⟩)).1 ∧ Kp D M w w' := by
  obtain ⟨x, fu, g, h⟩ := h
  obtain ⟨wb0, hA0⟩ : ∃ A, w.alloc (.cells #[.pointer (some ⟨D, 0, none⟩)] 26) = A := ⟨_, rfl⟩
  obtain ⟨G0, hG0⟩ : ∃ G, w.heap.size = G := ⟨_, rfl⟩
  have hB0 : Below w.heap.size w wb0 := by rw [← hA0]; exact (Below.refl _ _).alloc (Nat.le_refl _) _
  have hS0 := hB0.size
  obtain ⟨wb1, hA1⟩ : ∃ A, wb0.alloc (.cells #[.string a] 9) = A := ⟨_, rfl⟩
  obtain ⟨G1, hG1⟩ : ∃ G, wb0.heap.size = G := ⟨_, rfl⟩
  have hB1 : Below wb0.heap.size wb0 wb1 := by rw [← hA1]; exact (Below.refl _ _).alloc (Nat.le_refl _) _
  have hS1 := hB1.size
  obtain ⟨wA, hA2⟩ : ∃ A, wb1.alloc (.cells #[.string b] 9) = A := ⟨_, rfl⟩
  obtain ⟨G2, hG2⟩ : ∃ G, wb1.heap.size = G := ⟨_, rfl⟩
  have hB2 : Below wb1.heap.size wb1 wA := by rw [← hA2]; exact (Below.refl _ _).alloc (Nat.le_refl _) _
  have hS2 := hB2.size
  have HBA : Hid (Below w.heap.size w wA) := Lib.hid (below_step (below_step (hB0) hB1) hB2)
  have k0 : wA.cell? ⟨G0, 0, none⟩ = some (.pointer (some ⟨D, 0, none⟩)) := by
    refine cell_below (cell_below (?_) hB1) hB2
    rw [← hA0, ← hG0]; exact cell_alloc1 _ _ _ rfl
  have k1 : wA.cell? ⟨G1, 0, none⟩ = some (.string a) := by
    refine cell_below (?_) hB2
    rw [← hA1, ← hG1]; exact cell_alloc1 _ _ _ rfl
  have k2 : wA.cell? ⟨G2, 0, none⟩ = some (.string b) := by
    rw [← hA2, ← hG2]; exact cell_alloc1 _ _ _ rfl
  have HXA := Lib.hid (h.later HBA.out)
  have hDl := h.lt
  have hMl := h.m.lt
  have hn0 : G0 ≠ D ∧ G0 ≠ M ∧ G1 ≠ D ∧ G1 ≠ M ∧ G2 ≠ D ∧ G2 ≠ M := by omega
  have HTO := Lib.hid (tick_ok ho)
  cases hd : downP d with
  | true =>
    have hr : powP d (fun d => renP d ⟨2, a, b, 0⟩) = (offP d, 11) := by unfold powP; rw [hd, if_pos rfl]
    rw [hr]
    have HPD := Lib.hid (dperform_down HXA.out hd 71 #[.pointer (some ⟨G0, 0, none⟩), .pointer (some ⟨G1, 0, none⟩), .pointer (some ⟨G2, 0, none⟩)])
    clear h hd hr hDl hMl hn0 hB0 hS0 hB1 hS1 hB2 hS2
    go_enter Tryz.func36, Tryz.ntmps36
    go_wp2_with (go_at_call 48; refine HPD.out.mono ?_; rintro e w2 ⟨rfl, hx2, hk2⟩; have HX2 := Lib.hid hx2; have HK2 := Lib.hid hk2; clear hx2 hk2)
    go_ret
    exact ⟨rfl, HX2.out, (Kp.of_below HBA.out).trans HK2.out⟩
  | false =>
    have hr : powP d (fun d => renP d ⟨2, a, b, 0⟩) = renP (tickP d) ⟨2, a, b, 0⟩ := by unfold powP; rw [hd, if_neg (by simp)]
    rw [hr]
    have HPU := Lib.hid (dperform_up HXA.out ho (by omega) hd 71 (enters_of Tryz.func71 (by kernel_rfl) rfl) #[.pointer (some ⟨G0, 0, none⟩), .pointer (some ⟨G1, 0, none⟩), .pointer (some ⟨G2, 0, none⟩)]
      (fun e w' => e = .returned (.int .i64 (renP (tickP d) ⟨2, a, b, 0⟩).2) ∧ Dw w' D M (renP (tickP d) ⟨2, a, b, 0⟩).1 ∧ Kp D M w w') (fun e w' he => ⟨_, he.1⟩) (fun w1 fu1 hx1 hk1 => by
        refine (dren1_any hx1 HTO.out (by omega) a b ha hb G0 G1 G2 (cell_kp k0 hk1 hn0.1 hn0.2.1) (cell_kp k1 hk1 hn0.2.2.1 hn0.2.2.2.1) (cell_kp k2 hk1 hn0.2.2.2.2.1 hn0.2.2.2.2.2)).mono ?_
        rintro e w' ⟨rfl, hw, hk⟩
        exact ⟨rfl, hw, ((Kp.of_below HBA.out).trans hk1).trans hk⟩))
    clear h hd hr hDl hMl hn0 hB0 hS0 hB1 hS1 hB2 hS2
    go_enter Tryz.func36, Tryz.ntmps36
    go_wp2_with (go_at_call 48; refine HPU.out.mono ?_; rintro e w2 ⟨rfl, hx2, hk2⟩; have HX2 := Lib.hid hx2; have HK2 := Lib.hid hk2; clear hx2 hk2)
    go_ret
    exact ⟨rfl, HX2.out, HK2.out⟩
set_option maxRecDepth 100000 in
set_option maxHeartbeats 1000000 in
theorem dremove_any {w : World} {D M m : Nat} {d : Dk} (h : Dw w D M d) (ho : d.Ok m) (hm : m ≤ 1048573) (a : ByteArray) (ha : a.size ≤ 1048576) :
    Calls Tryz.prog 37 #[.pointer (some ⟨D, 0, none⟩), .string a] w fun e w' => e = .returned (.int .i64 (powP d (fun d => renP d ⟨3, a, ⟨#[]⟩, 0⟩)).2) ∧ Dw w' D M (powP d (fun d => renP d ⟨3, a, ⟨#[]⟩, 0⟩)).1 ∧ Kp D M w w' := by
  obtain ⟨x, fu, g, h⟩ := h
  obtain ⟨wb0, hA0⟩ : ∃ A, w.alloc (.cells #[.pointer (some ⟨D, 0, none⟩)] 26) = A := ⟨_, rfl⟩
  obtain ⟨G0, hG0⟩ : ∃ G, w.heap.size = G := ⟨_, rfl⟩
  have hB0 : Below w.heap.size w wb0 := by rw [← hA0]; exact (Below.refl _ _).alloc (Nat.le_refl _) _
  have hS0 := hB0.size
  obtain ⟨wA, hA1⟩ : ∃ A, wb0.alloc (.cells #[.string a] 9) = A := ⟨_, rfl⟩
  obtain ⟨G1, hG1⟩ : ∃ G, wb0.heap.size = G := ⟨_, rfl⟩
  have hB1 : Below wb0.heap.size wb0 wA := by rw [← hA1]; exact (Below.refl _ _).alloc (Nat.le_refl _) _
  have hS1 := hB1.size
  have HBA : Hid (Below w.heap.size w wA) := Lib.hid (below_step (hB0) hB1)
  have k0 : wA.cell? ⟨G0, 0, none⟩ = some (.pointer (some ⟨D, 0, none⟩)) := by
    refine cell_below (?_) hB1
    rw [← hA0, ← hG0]; exact cell_alloc1 _ _ _ rfl
  have k1 : wA.cell? ⟨G1, 0, none⟩ = some (.string a) := by
    rw [← hA1, ← hG1]; exact cell_alloc1 _ _ _ rfl
  have HXA := Lib.hid (h.later HBA.out)
  have hDl := h.lt
  have hMl := h.m.lt
  have hn0 : G0 ≠ D ∧ G0 ≠ M ∧ G1 ≠ D ∧ G1 ≠ M := by omega
  have HTO := Lib.hid (tick_ok ho)
  cases hd : downP d with
  | true =>
    have hr : powP d (fun d => renP d ⟨3, a, ⟨#[]⟩, 0⟩) = (offP d, 11) := by unfold powP; rw [hd, if_pos rfl]
    rw [hr]
    have HPD := Lib.hid (dperform_down HXA.out hd 72 #[.pointer (some ⟨G0, 0, none⟩), .pointer (some ⟨G1, 0, none⟩)])
    clear h hd hr hDl hMl hn0 hB0 hS0 hB1 hS1
    go_enter Tryz.func37, Tryz.ntmps37
    go_wp2_with (go_at_call 48; refine HPD.out.mono ?_; rintro e w2 ⟨rfl, hx2, hk2⟩; have HX2 := Lib.hid hx2; have HK2 := Lib.hid hk2; clear hx2 hk2)
    go_ret
    exact ⟨rfl, HX2.out, (Kp.of_below HBA.out).trans HK2.out⟩
  | false =>
    have hr : powP d (fun d => renP d ⟨3, a, ⟨#[]⟩, 0⟩) = renP (tickP d) ⟨3, a, ⟨#[]⟩, 0⟩ := by unfold powP; rw [hd, if_neg (by simp)]
    rw [hr]
    have HPU := Lib.hid (dperform_up HXA.out ho (by omega) hd 72 (enters_of Tryz.func72 (by kernel_rfl) rfl) #[.pointer (some ⟨G0, 0, none⟩), .pointer (some ⟨G1, 0, none⟩)]
      (fun e w' => e = .returned (.int .i64 (renP (tickP d) ⟨3, a, ⟨#[]⟩, 0⟩).2) ∧ Dw w' D M (renP (tickP d) ⟨3, a, ⟨#[]⟩, 0⟩).1 ∧ Kp D M w w') (fun e w' he => ⟨_, he.1⟩) (fun w1 fu1 hx1 hk1 => by
        refine (drem1_any hx1 HTO.out (by omega) a ha G0 G1 (cell_kp k0 hk1 hn0.1 hn0.2.1) (cell_kp k1 hk1 hn0.2.2.1 hn0.2.2.2)).mono ?_
        rintro e w' ⟨rfl, hw, hk⟩
        exact ⟨rfl, hw, ((Kp.of_below HBA.out).trans hk1).trans hk⟩))
    clear h hd hr hDl hMl hn0 hB0 hS0 hB1 hS1
    go_enter Tryz.func37, Tryz.ntmps37
    go_wp2_with (go_at_call 48; refine HPU.out.mono ?_; rintro e w2 ⟨rfl, hx2, hk2⟩; have HX2 := Lib.hid hx2; have HK2 := Lib.hid hk2; clear hx2 hk2)
    go_ret
    exact ⟨rfl, HX2.out, HK2.out⟩
set_option maxRecDepth 100000 in
set_option maxHeartbeats 1000000 in
theorem dsyncdir_any {w : World} {D M m : Nat} {d : Dk} (h : Dw w D M d) (ho : d.Ok m) (hm : m ≤ 1048573) :
    Calls Tryz.prog 18 #[.pointer (some ⟨D, 0, none⟩)] w fun e w' => e = .returned (.int .i64 (powP d (fun d => syncDirP d)).2) ∧ Dw w' D M (powP d (fun d => syncDirP d)).1 ∧ Kp D M w w' := by
  obtain ⟨x, fu, g, h⟩ := h
  obtain ⟨wA, hA0⟩ : ∃ A, w.alloc (.cells #[.pointer (some ⟨D, 0, none⟩)] 26) = A := ⟨_, rfl⟩
  obtain ⟨G0, hG0⟩ : ∃ G, w.heap.size = G := ⟨_, rfl⟩
  have hB0 : Below w.heap.size w wA := by rw [← hA0]; exact (Below.refl _ _).alloc (Nat.le_refl _) _
  have hS0 := hB0.size
  have HBA : Hid (Below w.heap.size w wA) := Lib.hid (hB0)
  have k0 : wA.cell? ⟨G0, 0, none⟩ = some (.pointer (some ⟨D, 0, none⟩)) := by
    rw [← hA0, ← hG0]; exact cell_alloc1 _ _ _ rfl
  have HXA := Lib.hid (h.later HBA.out)
  have hDl := h.lt
  have hMl := h.m.lt
  have hn0 : G0 ≠ D ∧ G0 ≠ M := by omega
  have HTO := Lib.hid (tick_ok ho)
  cases hd : downP d with
  | true =>
    have hr : powP d (fun d => syncDirP d) = (offP d, 11) := by unfold powP; rw [hd, if_pos rfl]
    rw [hr]
    have HPD := Lib.hid (dperform_down HXA.out hd 58 #[.pointer (some ⟨G0, 0, none⟩)])
    clear h hd hr hDl hMl hn0 hB0 hS0
    go_enter Tryz.func18, Tryz.ntmps18
    go_wp2_with (go_at_call 48; refine HPD.out.mono ?_; rintro e w2 ⟨rfl, hx2, hk2⟩; have HX2 := Lib.hid hx2; have HK2 := Lib.hid hk2; clear hx2 hk2)
    go_ret
    exact ⟨rfl, HX2.out, (Kp.of_below HBA.out).trans HK2.out⟩
  | false =>
    have hr : powP d (fun d => syncDirP d) = syncDirP (tickP d) := by unfold powP; rw [hd, if_neg (by simp)]
    rw [hr]
    have HPU := Lib.hid (dperform_up HXA.out ho (by omega) hd 58 (enters_of Tryz.func58 (by kernel_rfl) rfl) #[.pointer (some ⟨G0, 0, none⟩)]
      (fun e w' => e = .returned (.int .i64 (syncDirP (tickP d)).2) ∧ Dw w' D M (syncDirP (tickP d)).1 ∧ Kp D M w w') (fun e w' he => ⟨_, he.1⟩) (fun w1 fu1 hx1 hk1 => by
        refine (dsync1_any hx1 HTO.out (by omega) G0 (cell_kp k0 hk1 hn0.1 hn0.2)).mono ?_
        rintro e w' ⟨rfl, hw, hk⟩
        exact ⟨rfl, hw, ((Kp.of_below HBA.out).trans hk1).trans hk⟩))
    clear h hd hr hDl hMl hn0 hB0 hS0
    go_enter Tryz.func18, Tryz.ntmps18
    go_wp2_with (go_at_call 48; refine HPU.out.mono ?_; rintro e w2 ⟨rfl, hx2, hk2⟩; have HX2 := Lib.hid hx2; have HK2 := Lib.hid hk2; clear hx2 hk2)
    go_ret
    exact ⟨rfl, HX2.out, HK2.out⟩
end Go.Proofs.YtncbgddgkpaoeaaGreat

namespace Go.Proofs.YtncbgddgkpaoeaaGreat
set_option linter.unusedVariables false
open Go.RowKit Go.Lib Go.Maps

theorem dread_nil (s : ByteArray) (o n : Int) (w : World) : Calls Tryz.prog 20 #[.pointer none, .string s, .int .i64 o, .int .i64 n] w fun e w' => e = .returned (.tuple #[.slice none 0 0, .int .i64 1]) ∧ w = w' := by
  go_enter Tryz.func20, Tryz.ntmps20
  go_wp2_with (go_at_call 59; refine (dcur_nil _ _).mono ?_; rintro e w2 ⟨rfl, rfl⟩)
  go_ret2
  exact ⟨rfl, rfl⟩
set_option maxRecDepth 100000 in
set_option maxHeartbeats 1000000 in
theorem dread_any {w : World} {D M m : Nat} {d : Dk} {x : Fo} {fu : Int} {g : Int → Option Ni} (h : Dx w D M d x fu g) (ho : d.Ok m) (hm : m ≤ 1048575) (s : ByteArray) (hs : s.size ≤ 1048576) (o n : Int) (hio : InI o) (hin : InI n) :
    Calls Tryz.prog 20 #[.pointer (some ⟨D, 0, none⟩), .string s, .int .i64 o, .int .i64 n] w fun e w' => ∃ p k c, e = .returned (.tuple #[.slice p k c, .int .i64 (readP d s o n).2]) ∧ Bs w' p k (readP d s o n).1 ∧ (p = none → c = 0) ∧ k ≤ c ∧ k ≤ 2097152 ∧ Below w.heap.size w w' := by
  have HC := Lib.hid (dcur_any h ho hm s hs)
  have HR : Hid (readP d s o n = (if (bytesP d s).2 ≠ 0 then (([] : List Int), (bytesP d s).2) else if o < 0 ∨ n < 0 ∨ ((bytesP d s).1.length : Int) - o < n then ([], 20) else (((bytesP d s).1.drop o.toNat).take n.toNat, 0))) := Lib.hid rfl
  generalize readP d s o n = R at *
  generalize bytesP d s = B at *
  obtain ⟨bs, er⟩ := B
  dsimp only at HC HR
  unfold InI at hio hin
  clear h ho
  by_cases he : er = 0
  · subst he
    have HR := Lib.hid (HR.out.trans (if_neg (by simp)))
    by_cases hbad : o < 0 ∨ n < 0 ∨ (bs.length : Int) - o < n
    · have HR := Lib.hid (HR.out.trans (if_pos hbad))
      have HBAD := Lib.hid hbad
      clear hbad
      by_cases h1 : o < 0
      · have k1 : decide (o < 0) = true := decide_eq_true h1
        go_enter Tryz.func20, Tryz.ntmps20
        go_wp2_with (go_at_call 59; refine HC.out.mono ?_; rintro e w2 ⟨p, k, c, rfl, hb, hpn, hkc, hkl, hb2⟩; have HB := Lib.hid hb; have HB2 := Lib.hid hb2; clear hb hb2)
        go_ret2
        rw [HR.out]
        exact ⟨none, 0, 0, rfl, Bs.empty _ _, fun _ => rfl, Nat.le_refl _, by omega, HB2.out⟩
      · have k1 : decide (o < 0) = false := decide_eq_false h1
        by_cases h2 : n < 0
        · have k2 : decide (n < 0) = true := decide_eq_true h2
          go_enter Tryz.func20, Tryz.ntmps20
          go_wp2_with (go_at_call 59; refine HC.out.mono ?_; rintro e w2 ⟨p, k, c, rfl, hb, hpn, hkc, hkl, hb2⟩; have HB := Lib.hid hb; have HB2 := Lib.hid hb2; clear hb hb2)
          go_ret2
          rw [HR.out]
          exact ⟨none, 0, 0, rfl, Bs.empty _ _, fun _ => rfl, Nat.le_refl _, by omega, HB2.out⟩
        · have k2 : decide (n < 0) = false := decide_eq_false h2
          have h3 : (bs.length : Int) - o < n := by have := HBAD.out; omega
          go_enter Tryz.func20, Tryz.ntmps20
          go_wp2_with (go_at_call 59; refine HC.out.mono ?_; rintro e w2 ⟨p, k, c, rfl, hb, hpn, hkc, hkl, hb2⟩; have hbl := hb.1; have HB := Lib.hid hb; have HB2 := Lib.hid hb2; have k3 : decide (n > (k : Int) - o) = true := (by simp; omega); have k4 : decide ((k : Int) - o < n) = true := (by simp; omega); clear hb hb2 hbl h3)
          go_ret2
          rw [HR.out]
          exact ⟨none, 0, 0, rfl, Bs.empty _ _, fun _ => rfl, Nat.le_refl _, by omega, HB2.out⟩
    · have HR := Lib.hid (HR.out.trans (if_neg hbad))
      obtain ⟨a, rfl⟩ := Int.eq_ofNat_of_zero_le (show 0 ≤ o by omega)
      obtain ⟨b, rfl⟩ := Int.eq_ofNat_of_zero_le (show 0 ≤ n by omega)
      have h3 : a + b ≤ bs.length := by omega
      simp only [Int.toNat_natCast] at HR
      clear hbad
      go_enter Tryz.func20, Tryz.ntmps20
      go_wp2_with (go_at_call 59; refine HC.out.mono ?_; rintro e w2 ⟨p, k, c, rfl, hb, hpn, hkc, hkl, hb2⟩; have hbl := hb.1; rw [hbl] at h3; obtain ⟨p', hsl, hbs, hpp⟩ := hb.slice_lh (P := Tryz.prog) 32 5 Tryz.underlying32 Tryz.sizeOf5 c a (a + b) hkc (by omega) h3; rw [Int.natCast_add, Nat.add_sub_cancel_left] at hsl; rw [Nat.add_sub_cancel_left] at hbs; have HBS := Lib.hid hbs; have HPP := Lib.hid (hpp hpn); have HB2 := Lib.hid hb2; have k3 : decide ((b : Int) > (k : Int) - (a : Int)) = false := (by simp; omega); have k4 : decide ((k : Int) - (a : Int) < (b : Int)) = false := (by simp; omega); clear hb hb2 hbl hbs hpp)
      go_ret2
      rw [HR.out]
      exact ⟨p', b, c - a, rfl, HBS.out, HPP.out, by omega, by omega, HB2.out⟩
  · have HR := Lib.hid (HR.out.trans (if_pos he))
    have k1 : (er == 0) = false := by simpa using he
    have k2 : (er != 0) = true := by simpa using he
    clear he
    go_enter Tryz.func20, Tryz.ntmps20
    go_wp2_with (go_at_call 59; refine HC.out.mono ?_; rintro e w2 ⟨p, k, c, rfl, hb, hpn, hkc, hkl, hb2⟩; have HB := Lib.hid hb; have HB2 := Lib.hid hb2; clear hb hb2)
    go_ret2
    rw [HR.out]
    exact ⟨none, 0, 0, rfl, Bs.empty _ _, fun _ => rfl, Nat.le_refl _, by omega, HB2.out⟩
theorem dcalls_nil (w : World) : Calls Tryz.prog 26 #[.pointer none] w fun e w' => e = .returned (.int .i64 0) ∧ w = w' := by
  go_enter Tryz.func26, Tryz.ntmps26
  go_wp2
  go_ret
  exact ⟨rfl, rfl⟩
theorem dcalls_any {w : World} {D M : Nat} {d : Dk} {x : Fo} {fu : Int} {g : Int → Option Ni} (h : Dx w D M d x fu g) : Calls Tryz.prog 26 #[.pointer (some ⟨D, 0, none⟩)] w fun e w' => e = .returned (.int .i64 d.calls) ∧ w = w' := by
  obtain ⟨_, _, _, _, _, _, _, _, c8⟩ := h.cells
  clear h
  go_enter Tryz.func26, Tryz.ntmps26
  go_wp2
  go_ret
  exact ⟨rfl, rfl⟩
theorem dfuse_nil (n : Int) (w : World) : Calls Tryz.prog 38 #[.pointer none, .int .i64 n] w fun e w' => e = .returned (.tuple #[]) ∧ w = w' := by
  go_enter Tryz.func38, Tryz.ntmps38
  go_wp2
  go_end0
  exact ⟨rfl, rfl⟩
theorem dfuse_any {w : World} {D M : Nat} {d : Dk} {x : Fo} {fu : Int} {g : Int → Option Ni} (h : Dx w D M d x fu g) (n : Int) (hn : InI n) : Calls Tryz.prog 38 #[.pointer (some ⟨D, 0, none⟩), .int .i64 n] w fun e w' => e = .returned (.tuple #[]) ∧ Dw w' D M { d with fuse := normF n } ∧ Kp D M w w' := by
  obtain ⟨_, _, _, _, _, _, c6, _, _⟩ := h.cells
  have f6 := h.frozen 6
  have HX := Lib.hid h
  have HN := Lib.hid hn
  clear h
  go_enter Tryz.func38, Tryz.ntmps38
  go_wp2
  go_end0
  have hk : Kp D M w (w.setCell ⟨D, 6, none⟩ (.int .i64 n)) := (Kp.refl _ _ _).setD _ _
  exact ⟨rfl, ⟨x, n, g, HX.out.renum (d' := { d with fuse := normF n }) hk (setFuse_heap HX.out.b n) (Below.heap_setCell _ _ _ _ (fun e => HX.out.ne e.symm)) rfl rfl rfl HN.out⟩, hk⟩
theorem dfree_nil (w : World) : Calls Tryz.prog 22 #[.pointer none] w fun e w' => e = .returned (.tuple #[.int .i64 0, .int .i64 0]) ∧ w = w' := by
  go_enter Tryz.func22, Tryz.ntmps22
  go_wp2
  go_ret2
  exact ⟨rfl, rfl⟩
set_option maxRecDepth 100000 in
set_option maxHeartbeats 1000000 in
theorem dfree_any {w : World} {D M m : Nat} {d : Dk} {x : Fo} {fu : Int} {g : Int → Option Ni} (h : Dx w D M d x fu g) (ho : d.Ok m) (hm : m ≤ 1048575) : Calls Tryz.prog 22 #[.pointer (some ⟨D, 0, none⟩)] w fun e w' => e = .returned (.tuple #[.int .i64 (leftP d.lb (usedK d.K)), .int .i64 (leftP d.lf (d.K.length : Int))]) ∧ Below w.heap.size w w' := by
  have HX := Lib.hid h
  have HU := Lib.hid fun W hW => dused_any (w := W) (D := D) (M := M) (d := d) (x := x) (fu := fu) (g := g) hW ho hm
  have HL1 := Lib.hid fun W => dleft_any d.lb (usedK d.K) W ho.lb (ho.used hm)
  have HL2 := Lib.hid fun W => dleft_any d.lf (d.K.length : Int) W ho.lf (by have := ho.klen; omega)
  have HKR := Lib.hid ho.rises
  have HK : Hid (∀ W, Below w.heap.size w W → W.cell? ⟨D, 0, none⟩ = some (.int .i64 d.lb) ∧ W.cell? ⟨D, 1, none⟩ = some (.int .i64 d.lf) ∧ W.cell? ⟨D, 4, none⟩ = some (.map (some M)) ∧ ∀ ty, (Builtin.len_ #[TD] ty #[.map (some M)]).run Tryz.prog W = .ok (.int .i64 (d.K.length : Int)) W) := Lib.hid fun W hW => by
    have hx := h.later hW
    obtain ⟨c0, c1, _, _, c4, _⟩ := hx.cells
    exact ⟨c0, c1, c4, fun ty => len_run hx.m ho.rises h.k ty⟩
  have HD0 : Hid (Below w.heap.size w w.drew) := Lib.hid ((Below.refl _ _).drew)
  have k0 := HK.out _ HD0.out
  clear h ho
  go_enter Tryz.func22, Tryz.ntmps22
  go_wp2_with fail
  go_region_held3 (fun W => W.cell? ⟨D, 0, none⟩ = some (.int .i64 d.lb) ∧ W.cell? ⟨D, 1, none⟩ = some (.int .i64 d.lf) ∧ W.cell? ⟨D, 4, none⟩ = some (.map (some M)) ∧ ∀ ty, (Builtin.len_ #[TD] ty #[.map (some M)]).run Tryz.prog W = .ok (.int .i64 (d.K.length : Int)) W) (first | exact k0 | exact k2) (first
    | (go_at_call 55; refine (HU.out _ (HX.out.later HD0.out)).mono ?_; rintro e w2 ⟨rfl, hb2⟩; have HB2 := Lib.hid (below_step HD0.out hb2); have k2 := HK.out _ HB2.out; clear hb2)
    | (go_at_call 60; first
        | (refine (HL1.out _).mono ?_; rintro e w3 ⟨rfl, rfl⟩)
        | (refine (HL2.out _).mono ?_; rintro e w3 ⟨rfl, rfl⟩)))
  go_wp2
  go_ret2
  exact ⟨rfl, HB2.out⟩
end Go.Proofs.YtncbgddgkpaoeaaGreat

namespace Go.Proofs.YtncbgddgkpaoeaaGreat
set_option linter.unusedVariables false
open Go.RowKit Go.Lib Go.Maps

theorem cell_below' {w w' : World} {k : Nat} {v : Value} (h : w.cell? ⟨k, 0, none⟩ = some v) (hb : Below w.heap.size w w') : w'.cell? ⟨k, 0, none⟩ = some v := by
  rw [hb.cell (World.block_lt_of_cell? w _ h)]; exact h
set_option maxRecDepth 100000 in
theorem ncreate (s : ByteArray) (w : World) : Calls Tryz.prog 15 #[.pointer none, .string s] w fun e w' => e = .returned (.int .i64 1) ∧ Below w.heap.size w w' := by
  obtain ⟨wb0, hA0⟩ : ∃ A, w.alloc (.cells #[.pointer none] 26) = A := ⟨_, rfl⟩
  have hB0 : Below w.heap.size w wb0 := by rw [← hA0]; exact (Below.refl _ _).alloc (Nat.le_refl _) _
  obtain ⟨wA, hA1⟩ : ∃ A, wb0.alloc (.cells #[.string s] 9) = A := ⟨_, rfl⟩
  have hB1 : Below wb0.heap.size wb0 wA := by rw [← hA1]; exact (Below.refl _ _).alloc (Nat.le_refl _) _
  have HBA : Hid (Below w.heap.size w wA) := Lib.hid (below_step (hB0) hB1)
  have k0 : wA.cell? ⟨w.heap.size, 0, none⟩ = some (.pointer none) := by
    refine cell_below' (?_) hB1
    rw [← hA0, cell_of_row _ _ _ _ _ _ (heap_alloc_new _ _)]; rfl
  clear hB0 hB1
  go_enter Tryz.func15, Tryz.ntmps15
  go_wp2_with (go_at_call 48; refine (dperform_nil _ _ _).mono ?_; rintro e w2 ⟨rfl, rfl⟩)
  go_ret
  exact ⟨rfl, HBA.out⟩
set_option maxRecDepth 100000 in
theorem nrename (a b : ByteArray) (w : World) : Calls Tryz.prog 36 #[.pointer none, .string a, .string b] w fun e w' => e = .returned (.int .i64 1) ∧ Below w.heap.size w w' := by
  obtain ⟨wb0, hA0⟩ : ∃ A, w.alloc (.cells #[.pointer none] 26) = A := ⟨_, rfl⟩
  have hB0 : Below w.heap.size w wb0 := by rw [← hA0]; exact (Below.refl _ _).alloc (Nat.le_refl _) _
  obtain ⟨wb1, hA1⟩ : ∃ A, wb0.alloc (.cells #[.string a] 9) = A := ⟨_, rfl⟩
  have hB1 : Below wb0.heap.size wb0 wb1 := by rw [← hA1]; exact (Below.refl _ _).alloc (Nat.le_refl _) _
  obtain ⟨wA, hA2⟩ : ∃ A, wb1.alloc (.cells #[.string b] 9) = A := ⟨_, rfl⟩
  have hB2 : Below wb1.heap.size wb1 wA := by rw [← hA2]; exact (Below.refl _ _).alloc (Nat.le_refl _) _
  have HBA : Hid (Below w.heap.size w wA) := Lib.hid (below_step (below_step (hB0) hB1) hB2)
  have k0 : wA.cell? ⟨w.heap.size, 0, none⟩ = some (.pointer none) := by
    refine cell_below' (cell_below' (?_) hB1) hB2
    rw [← hA0, cell_of_row _ _ _ _ _ _ (heap_alloc_new _ _)]; rfl
  clear hB0 hB1 hB2
  go_enter Tryz.func36, Tryz.ntmps36
  go_wp2_with (go_at_call 48; refine (dperform_nil _ _ _).mono ?_; rintro e w2 ⟨rfl, rfl⟩)
  go_ret
  exact ⟨rfl, HBA.out⟩
set_option maxRecDepth 100000 in
theorem nremove (a : ByteArray) (w : World) : Calls Tryz.prog 37 #[.pointer none, .string a] w fun e w' => e = .returned (.int .i64 1) ∧ Below w.heap.size w w' := by
  obtain ⟨wb0, hA0⟩ : ∃ A, w.alloc (.cells #[.pointer none] 26) = A := ⟨_, rfl⟩
  have hB0 : Below w.heap.size w wb0 := by rw [← hA0]; exact (Below.refl _ _).alloc (Nat.le_refl _) _
  obtain ⟨wA, hA1⟩ : ∃ A, wb0.alloc (.cells #[.string a] 9) = A := ⟨_, rfl⟩
  have hB1 : Below wb0.heap.size wb0 wA := by rw [← hA1]; exact (Below.refl _ _).alloc (Nat.le_refl _) _
  have HBA : Hid (Below w.heap.size w wA) := Lib.hid (below_step (hB0) hB1)
  have k0 : wA.cell? ⟨w.heap.size, 0, none⟩ = some (.pointer none) := by
    refine cell_below' (?_) hB1
    rw [← hA0, cell_of_row _ _ _ _ _ _ (heap_alloc_new _ _)]; rfl
  clear hB0 hB1
  go_enter Tryz.func37, Tryz.ntmps37
  go_wp2_with (go_at_call 48; refine (dperform_nil _ _ _).mono ?_; rintro e w2 ⟨rfl, rfl⟩)
  go_ret
  exact ⟨rfl, HBA.out⟩
set_option maxRecDepth 100000 in
theorem nsyncdir (w : World) : Calls Tryz.prog 18 #[.pointer none] w fun e w' => e = .returned (.int .i64 1) ∧ Below w.heap.size w w' := by
  obtain ⟨wA, hA0⟩ : ∃ A, w.alloc (.cells #[.pointer none] 26) = A := ⟨_, rfl⟩
  have hB0 : Below w.heap.size w wA := by rw [← hA0]; exact (Below.refl _ _).alloc (Nat.le_refl _) _
  have HBA : Hid (Below w.heap.size w wA) := Lib.hid (hB0)
  have k0 : wA.cell? ⟨w.heap.size, 0, none⟩ = some (.pointer none) := by
    rw [← hA0, cell_of_row _ _ _ _ _ _ (heap_alloc_new _ _)]; rfl
  clear hB0
  go_enter Tryz.func18, Tryz.ntmps18
  go_wp2_with (go_at_call 48; refine (dperform_nil _ _ _).mono ?_; rintro e w2 ⟨rfl, rfl⟩)
  go_ret
  exact ⟨rfl, HBA.out⟩
set_option maxRecDepth 100000 in
theorem nedit (s : ByteArray) (F : FuncId) (caps : Array Value) (w : World) : Calls Tryz.prog 51 #[.pointer none, .string s, .func (.func F) #[] caps] w fun e w' => e = .returned (.int .i64 1) ∧ Below w.heap.size w w' := by
  obtain ⟨wb0, hA0⟩ : ∃ A, w.alloc (.cells #[.pointer none] 26) = A := ⟨_, rfl⟩
  have hB0 : Below w.heap.size w wb0 := by rw [← hA0]; exact (Below.refl _ _).alloc (Nat.le_refl _) _
  obtain ⟨wb1, hA1⟩ : ∃ A, wb0.alloc (.cells #[.string s] 9) = A := ⟨_, rfl⟩
  have hB1 : Below wb0.heap.size wb0 wb1 := by rw [← hA1]; exact (Below.refl _ _).alloc (Nat.le_refl _) _
  obtain ⟨wA, hA2⟩ : ∃ A, wb1.alloc (.cells #[.func (.func F) #[] caps] 111) = A := ⟨_, rfl⟩
  have hB2 : Below wb1.heap.size wb1 wA := by rw [← hA2]; exact (Below.refl _ _).alloc (Nat.le_refl _) _
  have HBA : Hid (Below w.heap.size w wA) := Lib.hid (below_step (below_step (hB0) hB1) hB2)
  have k0 : wA.cell? ⟨w.heap.size, 0, none⟩ = some (.pointer none) := by
    refine cell_below' (cell_below' (?_) hB1) hB2
    rw [← hA0, cell_of_row _ _ _ _ _ _ (heap_alloc_new _ _)]; rfl
  clear hB0 hB1 hB2
  go_enter Tryz.func51, Tryz.ntmps51
  go_wp2_with (go_at_call 48; refine (dperform_nil _ _ _).mono ?_; rintro e w2 ⟨rfl, rfl⟩)
  go_ret
  exact ⟨rfl, HBA.out⟩
set_option maxRecDepth 100000 in
theorem nappend (s : ByteArray) (p : Option Addr) (l e : Nat) (w : World) : Calls Tryz.prog 16 #[.pointer none, .string s, .slice p l e] w fun e w' => e = .returned (.int .i64 1) ∧ Below w.heap.size w w' := by
  obtain ⟨wb0, hA0⟩ : ∃ A, w.alloc (.cells #[.pointer none] 26) = A := ⟨_, rfl⟩
  have hB0 : Below w.heap.size w wb0 := by rw [← hA0]; exact (Below.refl _ _).alloc (Nat.le_refl _) _
  obtain ⟨wA, hA1⟩ : ∃ A, wb0.alloc (.cells #[.slice p l e] 32) = A := ⟨_, rfl⟩
  have hB1 : Below wb0.heap.size wb0 wA := by rw [← hA1]; exact (Below.refl _ _).alloc (Nat.le_refl _) _
  have HBA : Hid (Below w.heap.size w wA) := Lib.hid (below_step (hB0) hB1)
  have k0 : wA.cell? ⟨w.heap.size, 0, none⟩ = some (.pointer none) := by
    refine cell_below' (?_) hB1
    rw [← hA0, cell_of_row _ _ _ _ _ _ (heap_alloc_new _ _)]; rfl
  clear hB0 hB1
  go_enter Tryz.func16, Tryz.ntmps16
  go_wp2_with (go_at_call 51; refine (nedit _ _ _ _).mono ?_; rintro e w2 ⟨rfl, hb2⟩; have HB2 := Lib.hid hb2; clear hb2)
  go_ret
  exact ⟨rfl, below_step HBA.out HB2.out⟩
set_option maxRecDepth 100000 in
theorem ncut (s : ByteArray) (n : Int) (w : World) : Calls Tryz.prog 35 #[.pointer none, .string s, .int .i64 n] w fun e w' => e = .returned (.int .i64 1) ∧ Below w.heap.size w w' := by
  obtain ⟨wA, hA0⟩ : ∃ A, w.alloc (.cells #[.int .i64 n] 3) = A := ⟨_, rfl⟩
  have hB0 : Below w.heap.size w wA := by rw [← hA0]; exact (Below.refl _ _).alloc (Nat.le_refl _) _
  have HBA : Hid (Below w.heap.size w wA) := Lib.hid (hB0)
  clear hB0
  go_enter Tryz.func35, Tryz.ntmps35
  go_wp2_with (go_at_call 51; refine (nedit _ _ _ _).mono ?_; rintro e w2 ⟨rfl, hb2⟩; have HB2 := Lib.hid hb2; clear hb2)
  go_ret
  exact ⟨rfl, below_step HBA.out HB2.out⟩
set_option maxRecDepth 100000 in
theorem nsync (s : ByteArray) (w : World) : Calls Tryz.prog 17 #[.pointer none, .string s] w fun e w' => e = .returned (.int .i64 1) ∧ Below w.heap.size w w' := by
  have HBA : Hid (Below w.heap.size w w) := Lib.hid (Below.refl _ _)
  go_enter Tryz.func17, Tryz.ntmps17
  go_wp2_with (go_at_call 51; refine (nedit _ _ _ _).mono ?_; rintro e w2 ⟨rfl, hb2⟩; have HB2 := Lib.hid hb2; clear hb2)
  go_ret
  exact ⟨rfl, below_step HBA.out HB2.out⟩

/-! ### a call as a value -/
structure Cx where
  k : Int
  s : ByteArray
  t : ByteArray
  p : Option Addr
  l : Nat
  e : Nat
  zs : List Int
  n : Int
def Cx.v (c : Cx) : Value := .agg #[.int .i64 c.k, .string c.s, .string c.t, .slice c.p c.l c.e, .int .i64 c.n]
def Cx.cl (c : Cx) : Cl := ⟨c.k, c.s, c.t, c.zs, c.n⟩
structure Cx.Fit (w : World) (c : Cx) : Prop where
  b : Bs w c.p c.l c.zs
  pn : c.p = none → c.e = 0
  le : c.l ≤ c.e
  ok : c.cl.Ok
theorem Cx.Fit.later {w w' : World} {c : Cx} (h : c.Fit w) (hb : Below w.heap.size w w') : c.Fit w' := { h with b := h.b.later hb }
theorem Cx.Fit.kp {D M : Nat} {w w' : World} {c : Cx} (h : c.Fit w) (hk : Kp D M w w') (hD : Nix w D) (hM : Nix w M) : c.Fit w' := { h with b := h.b.kp hk hD hM }
theorem Cx.Fit.len {w : World} {c : Cx} (h : c.Fit w) : c.l ≤ 1048576 := by
  have h1 := h.b.1
  have h2 := h.ok.dat
  unfold Cx.cl at h2
  dsimp only at h2
  omega
/-- a call in a block of its own -/
def Cxw (w : World) (g : Nat) (c : Cx) : Prop := w.heap[g]? = some (.cells #[.int .i64 c.k, .string c.s, .string c.t, .slice c.p c.l c.e, .int .i64 c.n] 34 (0, 0))
theorem Cxw.cells {w : World} {g : Nat} {c : Cx} (h : Cxw w g c) : w.cell? ⟨g, 0, none⟩ = some (.int .i64 c.k) ∧ w.cell? ⟨g, 1, none⟩ = some (.string c.s) ∧ w.cell? ⟨g, 2, none⟩ = some (.string c.t) ∧ w.cell? ⟨g, 3, none⟩ = some (.slice c.p c.l c.e) ∧ w.cell? ⟨g, 4, none⟩ = some (.int .i64 c.n) := by
  refine ⟨?_, ?_, ?_, ?_, ?_⟩ <;> (rw [cell_of_row _ _ _ _ _ _ h]; rfl)
theorem Cxw.lt {w : World} {g : Nat} {c : Cx} (h : Cxw w g c) : g < w.heap.size := (Array.getElem?_eq_some_iff.1 h).1
theorem Cxw.later {w w' : World} {g : Nat} {c : Cx} (h : Cxw w g c) (hb : Below w.heap.size w w') : Cxw w' g c := by
  have := h.lt
  unfold Cxw; rw [hb.block g this]; exact h
/-- what a nil disk answers -/
def nilE (k : Int) : Int := if 1 ≤ k ∧ k ≤ 7 then 1 else 0
set_option maxRecDepth 100000 in
set_option maxHeartbeats 2000000 in
theorem ndo_any (c : Cx) (w : World) : Calls Tryz.prog 9 #[.pointer none, c.v] w fun e w' => e = .returned (.int .i64 (nilE c.k)) ∧ Below w.heap.size w w' := by
  obtain ⟨k, s, t, p, l, e, zs, n⟩ := c
  obtain ⟨wA, hA⟩ : ∃ A, w.alloc (.cells #[.int .i64 k, .string s, .string t, .slice p l e, .int .i64 n] 34) = A := ⟨_, rfl⟩
  have HBA : Hid (Below w.heap.size w wA) := Lib.hid (by rw [← hA]; exact (Below.refl _ _).alloc (Nat.le_refl _) _)
  have hc : Cxw wA w.heap.size ⟨k, s, t, p, l, e, zs, n⟩ := by unfold Cxw; rw [← hA]; exact heap_alloc_new _ _
  obtain ⟨c0, c1, c2, c3, c4⟩ := hc.cells
  dsimp only at c0 c1 c2 c3 c4
  unfold Cx.v
  dsimp only
  clear hc
  by_cases h1 : k = 1
  · subst h1
    have HE : Hid (nilE 1 = 1) := Lib.hid (by unfold nilE; rw [if_pos (by omega)])
    go_enter Tryz.func9, Tryz.ntmps9
    go_wp2_with (go_at_call 15; refine (ncreate s _).mono ?_; rintro e w2 ⟨rfl, hb2⟩; have HB2 := Lib.hid hb2; clear hb2)
    first | go_ret | (refine bodyPost_ret (results_tmp rfl _ _ _) rfl ?_)
    exact ⟨by rw [HE.out]; rfl, below_step HBA.out HB2.out⟩
  have k1 : (k == 1) = false := by simpa using h1
  by_cases h2 : k = 2
  · subst h2
    have HE : Hid (nilE 2 = 1) := Lib.hid (by unfold nilE; rw [if_pos (by omega)])
    go_enter Tryz.func9, Tryz.ntmps9
    go_wp2_with (go_at_call 16; refine (nappend s p l e _).mono ?_; rintro e w2 ⟨rfl, hb2⟩; have HB2 := Lib.hid hb2; clear hb2)
    first | go_ret | (refine bodyPost_ret (results_tmp rfl _ _ _) rfl ?_)
    exact ⟨by rw [HE.out]; rfl, below_step HBA.out HB2.out⟩
  have k2 : (k == 2) = false := by simpa using h2
  by_cases h3 : k = 3
  · subst h3
    have HE : Hid (nilE 3 = 1) := Lib.hid (by unfold nilE; rw [if_pos (by omega)])
    go_enter Tryz.func9, Tryz.ntmps9
    go_wp2_with (go_at_call 35; refine (ncut s n _).mono ?_; rintro e w2 ⟨rfl, hb2⟩; have HB2 := Lib.hid hb2; clear hb2)
    first | go_ret | (refine bodyPost_ret (results_tmp rfl _ _ _) rfl ?_)
    exact ⟨by rw [HE.out]; rfl, below_step HBA.out HB2.out⟩
  have k3 : (k == 3) = false := by simpa using h3
  by_cases h4 : k = 4
  · subst h4
    have HE : Hid (nilE 4 = 1) := Lib.hid (by unfold nilE; rw [if_pos (by omega)])
    go_enter Tryz.func9, Tryz.ntmps9
    go_wp2_with (go_at_call 17; refine (nsync s _).mono ?_; rintro e w2 ⟨rfl, hb2⟩; have HB2 := Lib.hid hb2; clear hb2)
    first | go_ret | (refine bodyPost_ret (results_tmp rfl _ _ _) rfl ?_)
    exact ⟨by rw [HE.out]; rfl, below_step HBA.out HB2.out⟩
  have k4 : (k == 4) = false := by simpa using h4
  by_cases h5 : k = 5
  · subst h5
    have HE : Hid (nilE 5 = 1) := Lib.hid (by unfold nilE; rw [if_pos (by omega)])
    go_enter Tryz.func9, Tryz.ntmps9
    go_wp2_with (go_at_call 36; refine (nrename s t _).mono ?_; rintro e w2 ⟨rfl, hb2⟩; have HB2 := Lib.hid hb2; clear hb2)
    first | go_ret | (refine bodyPost_ret (results_tmp rfl _ _ _) rfl ?_)
    exact ⟨by rw [HE.out]; rfl, below_step HBA.out HB2.out⟩
  have k5 : (k == 5) = false := by simpa using h5
  by_cases h6 : k = 6
  · subst h6
    have HE : Hid (nilE 6 = 1) := Lib.hid (by unfold nilE; rw [if_pos (by omega)])
    go_enter Tryz.func9, Tryz.ntmps9
    go_wp2_with (go_at_call 37; refine (nremove s _).mono ?_; rintro e w2 ⟨rfl, hb2⟩; have HB2 := Lib.hid hb2; clear hb2)
    first | go_ret | (refine bodyPost_ret (results_tmp rfl _ _ _) rfl ?_)
    exact ⟨by rw [HE.out]; rfl, below_step HBA.out HB2.out⟩
  have k6 : (k == 6) = false := by simpa using h6
  by_cases h7 : k = 7
  · subst h7
    have HE : Hid (nilE 7 = 1) := Lib.hid (by unfold nilE; rw [if_pos (by omega)])
    go_enter Tryz.func9, Tryz.ntmps9
    go_wp2_with (go_at_call 18; refine (nsyncdir _).mono ?_; rintro e w2 ⟨rfl, hb2⟩; have HB2 := Lib.hid hb2; clear hb2)
    first | go_ret | (refine bodyPost_ret (results_tmp rfl _ _ _) rfl ?_)
    exact ⟨by rw [HE.out]; rfl, below_step HBA.out HB2.out⟩
  have k7 : (k == 7) = false := by simpa using h7
  by_cases h8 : k = 8
  · subst h8
    have HE : Hid (nilE 8 = 0) := Lib.hid (by unfold nilE; rw [if_neg (by omega)])
    go_enter Tryz.func9, Tryz.ntmps9
    go_wp2_with (go_at_call 38; refine (dfuse_nil n _).mono ?_; rintro e w2 ⟨rfl, rfl⟩)
    first | go_ret | (refine bodyPost_ret (results_tmp rfl _ _ _) rfl ?_)
    exact ⟨by rw [HE.out]; rfl, HBA.out⟩
  have k8 : (k == 8) = false := by simpa using h8
  by_cases h9 : k = 9
  · subst h9
    have HE : Hid (nilE 9 = 0) := Lib.hid (by unfold nilE; rw [if_neg (by omega)])
    go_enter Tryz.func9, Tryz.ntmps9
    go_wp2_with (go_at_call 14; refine (dcrash_nil p l e _).mono ?_; rintro e w2 ⟨rfl, rfl⟩)
    first | go_ret | (refine bodyPost_ret (results_tmp rfl _ _ _) rfl ?_)
    exact ⟨by rw [HE.out]; rfl, HBA.out⟩
  have k9 : (k == 9) = false := by simpa using h9
  have HE : Hid (nilE k = 0) := Lib.hid (by unfold nilE; rw [if_neg (by omega)])
  clear h1 h2 h3 h4 h5 h6 h7 h8 h9
  go_enter Tryz.func9, Tryz.ntmps9
  go_wp2
  go_ret
  exact ⟨by rw [HE.out]; rfl, HBA.out⟩
end Go.Proofs.YtncbgddgkpaoeaaGreat

namespace Go.Proofs.YtncbgddgkpaoeaaGreat
set_option linter.unusedVariables false
open Go.RowKit Go.Lib Go.ChangeShapes Go.WideShapes Go.ChangeAt

def cx0 : Cx := ⟨0, ⟨#[]⟩, ⟨#[]⟩, none, 0, 0, [], 0⟩
def encX : Ec Cx where
  f c := [.int .i64 c.k, .string c.s, .string c.t, .slice c.p c.l c.e, .int .i64 c.n]
  k := 5
  t := 34
  d := cx0
  len _ := rfl
  one x v hv := by
    simp only [List.mem_cons, List.not_mem_nil, or_false] at hv
    rcases hv with rfl | rfl | rfl | rfl | rfl <;> rfl
  pos := by decide
theorem namedX : encX.named := fun x => ⟨1, _, rfl⟩
theorem namedF : encF.named := fun x => ⟨0, _, rfl⟩
theorem Gs.cx {w : World} {p : Option Addr} {n : Nat} {L : List Cx} (h : Gs encX w p n L) (j : Nat) (hj : j < n) : ∃ b off, p = some ⟨b, off, none⟩ ∧
    w.cell? ⟨b, off + j * 5, none⟩ = some (.int .i64 (L.getD j cx0).k) ∧ w.cell? ⟨b, off + j * 5 + 1, none⟩ = some (.string (L.getD j cx0).s) ∧
    w.cell? ⟨b, off + j * 5 + 2, none⟩ = some (.string (L.getD j cx0).t) ∧ w.cell? ⟨b, off + j * 5 + 3, none⟩ = some (.slice (L.getD j cx0).p (L.getD j cx0).l (L.getD j cx0).e) ∧ w.cell? ⟨b, off + j * 5 + 4, none⟩ = some (.int .i64 (L.getD j cx0).n) := by
  obtain ⟨b, off, hp, hc⟩ := h.ptr j hj
  exact ⟨b, off, hp, hc 0 _ rfl, hc 1 _ rfl, hc 2 _ rfl, hc 3 _ rfl, hc 4 _ rfl⟩
theorem Gs.fx {w : World} {p : Option Addr} {n : Nat} {L : List Fx} (h : Gs encF w p n L) (j : Nat) (hj : j < n) : ∃ b off, p = some ⟨b, off, none⟩ ∧
    w.cell? ⟨b, off + j * 2, none⟩ = some (.string (L.getD j fx0).s) ∧ w.cell? ⟨b, off + j * 2 + 1, none⟩ = some (.slice (L.getD j fx0).p (L.getD j fx0).n (L.getD j fx0).c) := by
  obtain ⟨b, off, hp, hc⟩ := h.ptr j hj
  exact ⟨b, off, hp, hc 0 _ rfl, hc 1 _ rfl⟩

section
variable {H : Type} {enc : TypeId × Value → H} {W : World} {base : Nat} {held : Bool}
theorem trod_struct5 {P : Program} {t : TypeId} {f0 f1 f2 f3 f4 : Field} {fuel : Nat} {cs : List Value} {x : DataW H × List MemPlace} (ht : P.underlying t = some (.struct #[f0, f1, f2, f3, f4])) (h : DataW.trod enc P W base (fun _ => true) held fuel t cs = some x) :
    ∃ y0 y1 y2 y3 y4 n, x.1 = .agg [y0.1, y1.1, y2.1, y3.1, y4.1] ∧ cs.length = P.cellsOf t ∧ DataW.trod enc P W base (fun _ => true) held n f0.type ((cs.drop f0.offset).take (P.cellsOf f0.type)) = some y0 ∧
      DataW.trod enc P W base (fun _ => true) held n f1.type ((cs.drop f1.offset).take (P.cellsOf f1.type)) = some y1 ∧ DataW.trod enc P W base (fun _ => true) held n f2.type ((cs.drop f2.offset).take (P.cellsOf f2.type)) = some y2 ∧
      DataW.trod enc P W base (fun _ => true) held n f3.type ((cs.drop f3.offset).take (P.cellsOf f3.type)) = some y3 ∧ DataW.trod enc P W base (fun _ => true) held n f4.type ((cs.drop f4.offset).take (P.cellsOf f4.type)) = some y4 := by
  obtain ⟨xs, n, _, rfl, hl, hlen, hf⟩ := DataW.trod_struct ht h
  match xs, hlen with
  | [y0, y1, y2, y3, y4], _ => exact ⟨y0, y1, y2, y3, y4, n, by simp, hl, by simpa using hf 0 f0 rfl, by simpa using hf 1 f1 rfl, by simpa using hf 2 f2 rfl, by simpa using hf 3 f3 rfl, by simpa using hf 4 f4 rfl⟩
def cxSz (c : Cx) : Nat := c.s.size + c.t.size + c.e + 6
def fxSz (c : Fx) : Nat := c.s.size + c.c + 3
/-- what is fit of a call, its sizes aside -/
def cxI (W : World) (c : Cx) : Prop := Bs W c.p c.l c.zs ∧ (c.p = none → c.e = 0) ∧ c.l ≤ c.e ∧ InI c.k ∧ InI c.n
def fxI (W : World) (c : Fx) : Prop := Bs W c.p c.n c.zs ∧ (c.p = none → c.c = 0) ∧ c.n ≤ c.c
set_option maxRecDepth 100000 in
theorem open_cx (fuel : Nat) (cs : List Value) (x : DataW H × List MemPlace) (h : DataW.trod enc Tryz.prog W base (fun _ => true) held fuel encX.t cs = some x) :
    ∃ y : Cx, cs = encX.f y ∧ cxI W y ∧ cxSz y ≤ Rows.uptoBulk x.1 := by
  obtain ⟨y0, y1, y2, y3, y4, m, hx, hl, h0, h1, h2, h3, h4⟩ := trod_struct5 Tryz.underlying34 h
  have ec : Tryz.prog.cellsOf 34 = 5 := by kernel_rfl
  rw [ec] at hl
  match cs, hl with
  | [v0, v1, v2, v3, v4], _ =>
    have e0 : Tryz.prog.cellsOf 9 = 1 := by kernel_rfl
    have e1 : Tryz.prog.cellsOf 3 = 1 := by kernel_rfl
    have e2 : Tryz.prog.cellsOf 32 = 1 := by kernel_rfl
    have e3 : Tryz.prog.cellsOf 5 = 1 := by kernel_rfl
    simp only [e0, e1, e2, List.drop_succ_cons, List.drop_zero, List.take_succ_cons, List.take_zero] at h0 h1 h2 h3 h4
    obtain ⟨k, hk, hy0, hw0⟩ := DataW.trod_int Tryz.underlying3 h0
    obtain ⟨a, rfl, ha, hb1⟩ := open_str' Tryz.underlying9 h1
    obtain ⟨b, rfl, hb, hb2⟩ := open_str' Tryz.underlying9 h2
    obtain ⟨a0, len, cap, zs, hv, hlc, hcm, hpc, hbk, hbs⟩ := open_bs' Tryz.underlying32 Tryz.underlying5 e3 h3
    obtain ⟨o, ho, hy4, hw4⟩ := DataW.trod_int Tryz.underlying3 h4
    simp only [List.cons.injEq, and_true] at hk ho
    subst hk ho hv
    refine ⟨⟨k, a, b, a0, len, cap, zs, o⟩, rfl, ⟨hbs, hpc, hlc, wfI hw0, wfI hw4⟩, ?_⟩
    rw [hx]
    simp only [Rows.uptoBulk, Rows.uptoBulkAll, hb1, hb2, hbk, hy0, hy4, cxSz]
    omega
set_option maxRecDepth 100000 in
theorem open_fx (fuel : Nat) (cs : List Value) (x : DataW H × List MemPlace) (h : DataW.trod enc Tryz.prog W base (fun _ => true) held fuel encF.t cs = some x) :
    ∃ y : Fx, cs = encF.f y ∧ fxI W y ∧ fxSz y ≤ Rows.uptoBulk x.1 := by
  obtain ⟨y0, y1, m, hx, hl, h0, h1⟩ := trod_struct2 Tryz.underlying68 h
  have ec : Tryz.prog.cellsOf 68 = 2 := by kernel_rfl
  rw [ec] at hl
  match cs, hl with
  | [v0, v1], _ =>
    have e0 : Tryz.prog.cellsOf 9 = 1 := by kernel_rfl
    have e2 : Tryz.prog.cellsOf 32 = 1 := by kernel_rfl
    have e3 : Tryz.prog.cellsOf 5 = 1 := by kernel_rfl
    simp only [e0, e2, List.drop_succ_cons, List.drop_zero, List.take_succ_cons, List.take_zero] at h0 h1
    obtain ⟨a, rfl, ha, hb1⟩ := open_str' Tryz.underlying9 h0
    obtain ⟨a0, len, cap, zs, hv, hlc, hcm, hpc, hbk, hbs⟩ := open_bs' Tryz.underlying32 Tryz.underlying5 e3 h1
    subst hv
    refine ⟨⟨a, a0, len, cap, zs⟩, rfl, ⟨hbs, hpc, hlc⟩, ?_⟩
    subst hx
    simp only [Rows.uptoBulk, Rows.uptoBulkAll, hb1, hbk, fxSz]
    omega
theorem cx_fit {W : World} {c : Cx} (h : cxI W c) (hs : cxSz c ≤ 1048576) : c.Fit W := by
  obtain ⟨h1, h2, h3, h4, h5⟩ := h
  have := h1.1
  unfold cxSz at hs
  exact ⟨h1, h2, h3, h4, by unfold Cx.cl; dsimp only; omega, by unfold Cx.cl; dsimp only; omega, by unfold Cx.cl; dsimp only; omega, h5⟩
set_option maxRecDepth 100000 in
/-- A row of calls, opened. -/
theorem open_calls {fuel : Nat} {a0 : Option Addr} {len cap : Nat} {x : DataW H × List MemPlace} (hk : Rows.uptoBulk x.1 ≤ 1048576)
    (h : DataW.trod enc Tryz.prog W base (fun _ => true) held fuel 25 [.slice a0 len cap] = some x) :
    ∃ L : List Cx, Gs encX W a0 len L ∧ (∀ c ∈ L, c.Fit W) ∧ len * 6 + 1 ≤ Rows.uptoBulk x.1 := by
  obtain ⟨hl0, hm0, hp0, L, hL, hLo, hLs⟩ := open_gs encX Tryz.underlying25 (by kernel_rfl) cxSz (cxI W) open_cx h
  have hlen : L.length * 6 ≤ (L.map cxSz).sum := by
    clear hL hLo hLs
    induction L with
    | nil => simp
    | cons c L ih => simp only [List.map_cons, List.sum_cons, List.length_cons]; have : 6 ≤ cxSz c := by unfold cxSz; omega
                     omega
  have hL1 := hL.1
  refine ⟨L, hL, fun c hc => cx_fit (hLo c hc) ?_, by omega⟩
  have := sum_mem (List.mem_map_of_mem (f := cxSz) hc)
  omega
theorem open_files {fuel : Nat} {a0 : Option Addr} {len cap : Nat} {x : DataW H × List MemPlace} (hk : Rows.uptoBulk x.1 ≤ 1048576)
    (h : DataW.trod enc Tryz.prog W base (fun _ => true) held fuel 24 [.slice a0 len cap] = some x) :
    ∃ L : List Fx, Gs encF W a0 len L ∧ (∀ c ∈ L, fxI W c ∧ fxSz c ≤ 1048576) ∧ len * 3 + 1 ≤ Rows.uptoBulk x.1 := by
  obtain ⟨hl0, hm0, hp0, L, hL, hLo, hLs⟩ := open_gs encF Tryz.underlying24 (by kernel_rfl) fxSz (fxI W) open_fx h
  have hlen : L.length * 3 ≤ (L.map fxSz).sum := by
    clear hL hLo hLs
    induction L with
    | nil => simp
    | cons c L ih => simp only [List.map_cons, List.sum_cons, List.length_cons]; have : 3 ≤ fxSz c := by unfold fxSz; omega
                     omega
  have hL1 := hL.1
  refine ⟨L, hL, fun c hc => ⟨hLo c hc, ?_⟩, by omega⟩
  have := sum_mem (List.mem_map_of_mem (f := fxSz) hc)
  omega
set_option maxRecDepth 100000 in
/-- A call, opened. -/
theorem open_call {r : Reach} {b0 : Nat} {v : Value} {d : DataW H} {ps : List MemPlace} (hv : Value.okWide Tryz.prog W r b0 34 v)
    (h : DataW.Trod enc Tryz.prog W base (fun _ => true) held 34 v d ps) (hk : Rows.uptoBulk d ≤ 1048576) : ∃ c : Cx, v = c.v ∧ c.Fit W := by
  obtain ⟨cs, rfl, hsz⟩ := okWide_struct Tryz.underlying34 hv
  obtain ⟨fuel, hf⟩ := h
  have hf' : DataW.trod enc Tryz.prog W base (fun _ => true) held fuel encX.t cs.toList = some (d, ps) := hf
  obtain ⟨y, hy, hi, hs⟩ := open_cx fuel cs.toList (d, ps) hf'
  refine ⟨y, ?_, cx_fit hi (Nat.le_trans hs hk)⟩
  unfold Cx.v
  congr 1
  exact Array.toList_inj.1 hy
set_option maxRecDepth 100000 in
theorem open_call0 {r : Reach} {b0 : Nat} {v : Value} {d : DataW H} {ps : List MemPlace} (hv : Value.okWide Tryz.prog W r b0 34 v)
    (h : DataW.Trod enc Tryz.prog W base (fun _ => true) held 34 v d ps) : ∃ c : Cx, v = c.v := by
  obtain ⟨cs, rfl, hsz⟩ := okWide_struct Tryz.underlying34 hv
  obtain ⟨fuel, hf⟩ := h
  have hf' : DataW.trod enc Tryz.prog W base (fun _ => true) held fuel encX.t cs.toList = some (d, ps) := hf
  obtain ⟨y, hy, _⟩ := open_cx fuel cs.toList (d, ps) hf'
  refine ⟨y, ?_⟩
  unfold Cx.v
  congr 1
  exact Array.toList_inj.1 hy
set_option maxRecDepth 100000 in
/-- Limits, opened. -/
theorem open_lim {r : Reach} {b0 : Nat} {v : Value} {d : DataW H} {ps : List MemPlace} (hv : Value.okWide Tryz.prog W r b0 23 v)
    (h : DataW.Trod enc Tryz.prog W base (fun _ => true) held 23 v d ps) : ∃ lb lf, v = .agg #[.int .i64 lb, .int .i64 lf] ∧ InI lb ∧ InI lf := by
  obtain ⟨v0, v1, y0, y1, n, rfl, rfl, _, s0, s1⟩ := Joins.open_agg2 Tryz.underlying23 (by kernel_rfl) (by kernel_rfl) hv h
  obtain ⟨k, rfl, hw0⟩ := open_int' Tryz.underlying3 s0
  obtain ⟨i, rfl, hw1⟩ := open_int' Tryz.underlying3 s1
  exact ⟨k, i, rfl, wfI hw0, wfI hw1⟩
end
end Go.Proofs.YtncbgddgkpaoeaaGreat

namespace Go.Proofs.YtncbgddgkpaoeaaGreat
set_option linter.unusedVariables false
open Go.RowKit Go.Lib Go.Maps

theorem getD_map {L : List Fx} {k : Nat} (h : k < L.length) : (L.map Fx.pr)[k]? = some (L.getD k fx0).pr := by
  rw [List.getElem?_map, List.getElem?_eq_getElem h, List.getD_eq_getElem?_getD, List.getElem?_eq_getElem h]; rfl
set_option maxRecDepth 100000 in
set_option maxHeartbeats 2000000 in
theorem rfiles_any (p q : Option Addr) (n c m d : Nat) (L K : List Fx) (w : World) (h1 : Gs encF w p n L) (h2 : Gs encF w q m K) (hb1 : ∀ y ∈ L, Bs w y.p y.n y.zs) (hb2 : ∀ y ∈ K, Bs w y.p y.n y.zs) (he : L.map Fx.pr = K.map Fx.pr) (hn : n ≤ 2097152) :
    Calls Tryz.prog 24 #[.slice p n c, .slice q m d] w fun e w' => e = .returned (.bool true) ∧ Below w.heap.size w w' := by
  have hll : L.length = K.length := by have := congrArg List.length he; simpa using this
  obtain rfl : n = m := by rw [← h1.1, ← h2.1]; exact hll
  have HL := Lib.hid h1.1
  have HLL := Lib.hid hll
  have HE := Lib.hid he
  have H1 := Lib.hid h1
  have H2 := Lib.hid h2
  have HB1 := Lib.hid hb1
  have HB2 := Lib.hid hb2
  have e1 : (((n : Nat) : Int) != (n : Int)) = false := by simp
  clear h1 h2 hll he hb1 hb2
  go_enter Tryz.func24, Tryz.ntmps24
  go_wp2
  go_loopw [5] (fun i wr => ∃ k : Nat, k ≤ n ∧ i = .int .i64 k ∧ Hid (Below w.heap.size w wr)) (fun i _ => n - (intOf i).toNat)
  case atStart => exact ⟨0, Nat.zero_le _, rfl, Lib.hid (Below.refl _ _)⟩
  case round =>
    obtain ⟨k, hk, rfl, HB⟩ := hrel
    by_cases hlt : k < n
    · have hkL : k < L.length := by rw [HL.out]; exact hlt
      have hkK : k < K.length := by rw [← HLL.out]; exact hkL
      have hpr : (L.getD k fx0).pr = (K.getD k fx0).pr := by
        have h1 := getD_map hkL
        rw [HE.out, getD_map hkK] at h1
        exact (Option.some.inj h1).symm
      have hy := HB1.out (L.getD k fx0) (by rw [List.getD_eq_getElem?_getD, List.getElem?_eq_getElem hkL]; exact List.getElem_mem _)
      have hz := HB2.out (K.getD k fx0) (by rw [List.getD_eq_getElem?_getD, List.getElem?_eq_getElem hkK]; exact List.getElem_mem _)
      have HCC : Hid (∀ W, Below w.heap.size w W → Gs encF W p n L ∧ Gs encF W q n K) := Lib.hid fun W hW => ⟨H1.out.later hW, H2.out.later hW⟩
      obtain ⟨b, off, rfl, c0, c1⟩ := (H1.out.later HB.out).fx k hlt
      obtain ⟨b2, off2, rfl, d0, d1⟩ := (H2.out.later HB.out).fx k hlt
      have hkn : (k : Int) < (n : Int) := by omega
      have hk0 : (0 : Int) ≤ (k : Int) := by omega
      have HGC : Hid (∀ W, Below w.heap.size w W → W.cell? ⟨b, off + k * 2, none⟩ = some (.string (L.getD k fx0).s) ∧ W.cell? ⟨b, off + k * 2 + 1, none⟩ = some (.slice (L.getD k fx0).p (L.getD k fx0).n (L.getD k fx0).c) ∧ W.cell? ⟨b2, off2 + k * 2, none⟩ = some (.string (K.getD k fx0).s) ∧ W.cell? ⟨b2, off2 + k * 2 + 1, none⟩ = some (.slice (K.getD k fx0).p (K.getD k fx0).n (K.getD k fx0).c)) := Lib.hid fun W hW => by
        obtain ⟨b', off', hp, x0, x1⟩ := (HCC.out W hW).1.fx k hlt
        obtain ⟨b'', off'', hp', y0, y1⟩ := (HCC.out W hW).2.fx k hlt
        simp only [Option.some.injEq, Addr.mk.injEq, and_true] at hp hp'
        obtain ⟨rfl, rfl⟩ := hp
        obtain ⟨rfl, rfl⟩ := hp'
        exact ⟨x0, x1, y0, y1⟩
      clear c0 c1 d0 d1 hkL hkK
      generalize L.getD k fx0 = y at *
      generalize K.getD k fx0 = z at *
      obtain ⟨ys, yp, yn, yc, yz⟩ := y
      obtain ⟨zs, zp, zn, zc, zz⟩ := z
      unfold Fx.pr at hpr
      dsimp only at hpr hy hz HGC
      obtain ⟨rfl, rfl⟩ := Prod.mk.inj hpr
      have HY := Lib.hid hy
      have HZ := Lib.hid hz
      obtain ⟨st, hst⟩ : ∃ st, strOfNums yz = st := ⟨_, rfl⟩
      have HST := Lib.hid hst
      have HS : Hid (∀ W, Below w.heap.size w W → W.cell? ⟨b, off + k * 2, none⟩ = some (.string ys) ∧ W.cell? ⟨b, off + k * 2 + 1, none⟩ = some (.slice yp yn yc) ∧ W.cell? ⟨b2, off2 + k * 2, none⟩ = some (.string ys) ∧ W.cell? ⟨b2, off2 + k * 2 + 1, none⟩ = some (.slice zp zn zc) ∧ (convert 32 9 (.slice yp yn yc)).run Tryz.prog W = .ok (.string st) W ∧ (convert 32 9 (.slice zp zn zc)).run Tryz.prog W = .ok (.string st) W) := Lib.hid fun W hW => by
        obtain ⟨x0, x1, y0, y1⟩ := HGC.out W hW
        refine ⟨x0, x1, y0, y1, ?_, ?_⟩
        · have := (HY.out.later hW).run_string (P := Tryz.prog) 32 5 9 Tryz.underlying32 Tryz.underlying5 Tryz.underlying9 yc
          rw [HST.out] at this; exact this
        · have := (HZ.out.later hW).run_string (P := Tryz.prog) 32 5 9 Tryz.underlying32 Tryz.underlying5 Tryz.underlying9 zc
          rw [HST.out] at this; exact this
      have HD : Hid (Below w.heap.size w wr.drew) := Lib.hid (HB.out.drew)
      have k0 := HS.out _ HB.out
      have k1 := HS.out _ HD.out
      clear hpr hy hz hst
      go_wp2_with fail
      go_region_held3 (fun W => W.cell? ⟨b, off + k * 2, none⟩ = some (.string ys) ∧ W.cell? ⟨b, off + k * 2 + 1, none⟩ = some (.slice yp yn yc) ∧ W.cell? ⟨b2, off2 + k * 2, none⟩ = some (.string ys) ∧ W.cell? ⟨b2, off2 + k * 2 + 1, none⟩ = some (.slice zp zn zc) ∧ (convert 32 9 (.slice yp yn yc)).run Tryz.prog W = .ok (.string st) W ∧ (convert 32 9 (.slice zp zn zc)).run Tryz.prog W = .ok (.string st) W) (first | exact k0 | exact k1) (fail)
      clear k0 k1
      go_wp2
      refine ⟨?_, by simp [intOf] <;> omega⟩
      first
        | exact ⟨k + 1, by omega, by go_num, HD⟩
        | ((repeat apply Exists.intro); refine ⟨?_, rfl⟩; exact ⟨k + 1, by omega, by go_num, HD⟩)
    · obtain rfl : k = n := by omega
      go_wp2
      go_ret
      exact ⟨rfl, HB.out⟩
end Go.Proofs.YtncbgddgkpaoeaaGreat
