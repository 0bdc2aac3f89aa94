/- Layer 12, the program: Rename's, Remove's, SyncDir's functions; Layer 12, the program: Crash; Layer 12, the program: New, and Load of no files; Layer 12, the program: Names -/
import Derived.Test.YtncbgddgkpaoeaaGreatDd18
import Derived.Test.YtncbgddgkpaoeaaGreatDd29
import Derived.Test.YtncbgddgkpaoeaaGreatDd30
import Derived.Deep.RegionLaw
set_option linter.unusedSimpArgs false
set_option linter.unusedVariables false
namespace Go.Proofs.YtncbgddgkpaoeaaGreat
set_option linter.unusedVariables false
open Go.RowKit Go.Lib Go.Maps

theorem below_new_cell {w W : World} (hW : Below w.heap.size w W) {k : Nat} {v : Value} (hv : w.cell? ⟨k, 0, none⟩ = some v) : W.cell? ⟨k, 0, none⟩ = some v := by
  rw [hW.cell (World.block_lt_of_cell? w _ hv)]; exact hv
set_option maxRecDepth 100000 in
theorem dren1_any {w : World} {D M m : Nat} {d : Dk} {x : Fo} {fu : Int} {g : Int → Option Ni} (h : Dx w D M d x fu g) (ho : d.Ok m) (hm : m ≤ 1048575) (a b : ByteArray) (ha : a.size ≤ 1048576) (hb : b.size ≤ 1048576)
    (bd ba bb : Nat) (hbd : w.cell? ⟨bd, 0, none⟩ = some (.pointer (some ⟨D, 0, none⟩))) (hba : w.cell? ⟨ba, 0, none⟩ = some (.string a)) (hbb : w.cell? ⟨bb, 0, none⟩ = some (.string b)) :
    Calls Tryz.prog 71 #[.pointer (some ⟨bd, 0, none⟩), .pointer (some ⟨ba, 0, none⟩), .pointer (some ⟨bb, 0, none⟩)] w fun e w' => e = .returned (.int .i64 (renP d ⟨2, a, b, 0⟩).2) ∧ Dw w' D M (renP d ⟨2, a, b, 0⟩).1 ∧ Kp D M w w' := by
  have HR := Lib.hid (drearr_any h ho hm ⟨2, a, b, 0⟩ (chg_ok (by omega) ha hb (by unfold InI; omega)))
  unfold Cg.v renP at *
  dsimp only at HR ⊢
  clear h ho
  go_enter Tryz.func71, Tryz.ntmps71
  go_wp2_with (go_at_call 50; refine HR.out.mono ?_; rintro e w2 ⟨rfl, ⟨x2, hx2⟩, hk2, _⟩; have HX2 := Lib.hid hx2; have HK2 := Lib.hid hk2; clear hx2 hk2)
  go_ret
  exact ⟨rfl, ⟨_, _, _, HX2.out⟩, HK2.out⟩
set_option maxRecDepth 100000 in
theorem drem1_any {w : World} {D M m : Nat} {d : Dk} {x : Fo} {fu : Int} {g : Int → Option Ni} (h : Dx w D M d x fu g) (ho : d.Ok m) (hm : m ≤ 1048575) (a : ByteArray) (ha : a.size ≤ 1048576)
    (bd ba : Nat) (hbd : w.cell? ⟨bd, 0, none⟩ = some (.pointer (some ⟨D, 0, none⟩))) (hba : w.cell? ⟨ba, 0, none⟩ = some (.string a)) :
    Calls Tryz.prog 72 #[.pointer (some ⟨bd, 0, none⟩), .pointer (some ⟨ba, 0, none⟩)] w fun e w' => e = .returned (.int .i64 (renP d ⟨3, a, ⟨#[]⟩, 0⟩).2) ∧ Dw w' D M (renP d ⟨3, a, ⟨#[]⟩, 0⟩).1 ∧ Kp D M w w' := by
  have HR := Lib.hid (drearr_any h ho hm ⟨3, a, ⟨#[]⟩, 0⟩ (chg_ok (by omega) ha (by decide) (by unfold InI; omega)))
  unfold Cg.v renP at *
  dsimp only at HR ⊢
  clear h ho
  go_enter Tryz.func72, Tryz.ntmps72
  go_wp2_with (go_at_call 50; refine HR.out.mono ?_; rintro e w2 ⟨rfl, ⟨x2, hx2⟩, hk2, _⟩; have HX2 := Lib.hid hx2; have HK2 := Lib.hid hk2; clear hx2 hk2)
  go_ret
  exact ⟨rfl, ⟨_, _, _, HX2.out⟩, HK2.out⟩
set_option maxRecDepth 100000 in
set_option maxHeartbeats 1000000 in
theorem dsync1_any {w : World} {D M m : Nat} {d : Dk} {x : Fo} {fu : Int} {g : Int → Option Ni} (h : Dx w D M d x fu g) (ho : d.Ok m) (hm : m ≤ 1048575)
    (bd : Nat) (hbd : w.cell? ⟨bd, 0, none⟩ = some (.pointer (some ⟨D, 0, none⟩))) :
    Calls Tryz.prog 58 #[.pointer (some ⟨bd, 0, none⟩)] w fun e w' => e = .returned (.int .i64 (syncDirP d).2) ∧ Dw w' D M (syncDirP d).1 ∧ Kp D M w w' := by
  have HX := Lib.hid h
  have HSY := Lib.hid fun W hW => fsync_any x W hW (by rw [h.fd]; exact ho.fd hm)
  have HOK := Lib.hid (show (syncQ d.F).ok from syncQ_ok (ho.fd hm))
  have HSUB : Hid (∀ i ∈ idsP (syncQ d.F), i ∈ idK d.K) := Lib.hid fun i hi => by rw [ho.ids]; exact ids_sync _ i hi
  have HKR := Lib.hid ho.rises
  rw [h.fd] at HSY
  have HK : Hid (∀ W, Below w.heap.size w W → W.cell? ⟨bd, 0, none⟩ = some (.pointer (some ⟨D, 0, none⟩)) ∧ W.cell? ⟨D, 2, none⟩ = some (.slice x.p x.n x.c) ∧ W.cell? ⟨D, 3, none⟩ = some (.slice x.q x.m x.d)) := Lib.hid fun W hW => by
    obtain ⟨_, _, c2, c3, c4, _⟩ := (h.later hW).cells
    exact ⟨below_new_cell hW hbd, c2, c3⟩
  obtain ⟨p, l, cc, q, mm, dd, L, Mc⟩ := x
  unfold Fo.v at HSY
  dsimp only at HSY HK
  have HD0 : Hid (Below w.heap.size w w.drew) := Lib.hid ((Below.refl _ _).drew)
  have k0 := HK.out _ (Below.refl _ _)
  have k1 := HK.out _ HD0.out
  unfold syncDirP
  dsimp only
  clear h ho hbd
  go_enter Tryz.func58, Tryz.ntmps58
  go_wp2_with fail
  go_region_law (first
    | (go_simp; go_at_call 30; refine (HSY.out _ (HX.out.f.later HD0.out)).mono ?_; rintro e w2 ⟨⟨yp, yn, yc, yq, ym, yd, yL, yM⟩, rfl, hf2, hy2, hb2⟩; have HB2 : Hid (Below w.heap.size w w2) := Lib.hid (below_step HD0.out hb2); have k2 := HK.out _ HB2.out; have HY2 := Lib.hid hy2; have HST := Lib.hid (dsettle_any (HX.out.later HB2.out) HKR.out ⟨yp, yn, yc, yq, ym, yd, yL, yM⟩ hf2 (by rw [hy2]; exact HOK.out) (by rw [hy2]; exact HSUB.out)); unfold Fo.v at HST; clear hb2 hf2 hy2)
    | (go_simp; go_at_call 29; refine HST.out.mono ?_; rintro e w3 ⟨rfl, ⟨g3, hx3⟩, hk3⟩; have HX3 := Lib.hid hx3; have HK3 := Lib.hid hk3; clear hx3 hk3))
  all_goals (try go_wp2)
  all_goals go_ret
  all_goals (
    have hx := HX3.out
    rw [HY2.out] at hx
    exact ⟨rfl, ⟨_, _, _, hx⟩, (Kp.of_below HB2.out).trans HK3.out⟩)
end Go.Proofs.YtncbgddgkpaoeaaGreat

namespace Go.Proofs.YtncbgddgkpaoeaaGreat
set_option linter.unusedVariables false
open Go.RowKit Go.Lib Go.Maps

/-- what is left of a choice behind files -/
def rsK : List Kt → List Int → List Int
  | [], ch => ch
  | k :: K, ch => rsK K (restP k.x ch)
theorem rsK_snoc (A : List Kt) (k : Kt) (ch : List Int) : rsK (A ++ [k]) ch = restP k.x (rsK A ch) := by
  induction A generalizing ch with
  | nil => rfl
  | cons a A ih => exact ih _
theorem crK_snoc (A : List Kt) (k : Kt) (ch : List Int) : crK (A ++ [k]) ch = crK A ch ++ [⟨k.id, crashP k.x (rsK A ch)⟩] := by
  induction A generalizing ch with
  | nil => rfl
  | cons a A ih =>
    show _ :: crK (A ++ [k]) _ = _ :: (crK A _ ++ _)
    rw [ih]; rfl
theorem take_snoc {K : List Kt} {j : Nat} (h : j < K.length) : K.take (j + 1) = K.take j ++ [K.getD j kt0] := by
  rw [List.take_succ_eq_append_getElem h, List.getD_eq_getElem?_getD, List.getElem?_eq_getElem h]; rfl
theorem drop_cons {K : List Kt} {j : Nat} (h : j < K.length) : K.drop j = K.getD j kt0 :: K.drop (j + 1) := by
  rw [List.drop_eq_getElem_cons h, List.getD_eq_getElem?_getD, List.getElem?_eq_getElem h]; rfl
/-- files of which the first j have crashed -/
def midK (K : List Kt) (ch : List Int) (j : Nat) : List Kt := crK (K.take j) ch ++ K.drop j
theorem midK_ids (K : List Kt) (ch : List Int) (j : Nat) : idK (midK K ch j) = idK K := by
  unfold midK
  rw [idK_append, idK_cr, ← idK_append, List.take_append_drop]
theorem midK_len (K : List Kt) (ch : List Int) (j : Nat) : (midK K ch j).length = K.length := by
  have := congrArg List.length (midK_ids K ch j)
  simpa [idK] using this
theorem midK_zero (K : List Kt) (ch : List Int) : midK K ch 0 = K := rfl
theorem midK_end {K : List Kt} (ch : List Int) {j : Nat} (h : K.length ≤ j) : midK K ch j = crK K ch := by
  unfold midK
  rw [List.take_of_length_le h, List.drop_of_length_le h, List.append_nil]
theorem mid_fresh {K : List Kt} (hK : irises (idK K)) {j : Nat} (h : j < K.length) : (K.getD j kt0).id ∉ idK (K.take j) := by
  intro hm
  have e : K = K.take j ++ (K.getD j kt0 :: K.drop (j + 1)) := by rw [← drop_cons h, List.take_append_drop]
  rw [e, idK_append] at hK
  have := (List.pairwise_append.1 hK).2.2 _ hm (K.getD j kt0).id List.mem_cons_self
  omega
theorem midK_at {K : List Kt} (hK : irises (idK K)) (ch : List Int) {j : Nat} (h : j < K.length) : atK (midK K ch j) (K.getD j kt0).id = (K.getD j kt0).x := by
  unfold atK midK
  rw [getK_append, getK_none (by rw [idK_cr]; exact mid_fresh hK h), drop_cons h, getK, if_pos rfl]; rfl
theorem getK_here {K : List Kt} (hK : irises (idK K)) {j : Nat} (h : j < K.length) : getK K (K.getD j kt0).id = some (K.getD j kt0).x := by
  have e : ∀ i, getK K i = getK (K.take j ++ (K.getD j kt0 :: K.drop (j + 1))) i := fun i => by rw [← drop_cons h, List.take_append_drop]
  rw [e, getK_append, getK_none (mid_fresh hK h), getK, if_pos rfl]; rfl
theorem setK_miss {K : List Kt} {i : Int} (h : i ∉ idK K) (x : Fi) : setK K i x = K := by
  unfold setK
  conv => rhs; rw [← List.map_id K]
  apply List.map_congr_left
  intro k hk
  exact if_neg (fun e => h (by rw [← e]; exact List.mem_map_of_mem hk))
theorem midK_step {K : List Kt} (hK : irises (idK K)) (ch : List Int) {j : Nat} (h : j < K.length) : setK (midK K ch j) (K.getD j kt0).id (crashP (K.getD j kt0).x (rsK (K.take j) ch)) = midK K ch (j + 1) := by
  unfold midK
  have hd : irises (idK (K.drop j)) := hK.sublist ((List.drop_sublist j K).map _)
  rw [drop_cons h] at hd
  have hn : (K.getD j kt0).id ∉ idK (K.drop (j + 1)) := irises_ne hd
  have e : setK (crK (K.take j) ch ++ K.drop j) (K.getD j kt0).id (crashP (K.getD j kt0).x (rsK (K.take j) ch)) = setK (crK (K.take j) ch) (K.getD j kt0).id (crashP (K.getD j kt0).x (rsK (K.take j) ch)) ++ setK (K.drop j) (K.getD j kt0).id (crashP (K.getD j kt0).x (rsK (K.take j) ch)) := List.map_append
  rw [e, setK_miss (by rw [idK_cr]; exact mid_fresh hK h), drop_cons h, take_snoc h, crK_snoc]
  have e2 : setK (K.getD j kt0 :: K.drop (j + 1)) (K.getD j kt0).id (crashP (K.getD j kt0).x (rsK (K.take j) ch)) = ⟨(K.getD j kt0).id, crashP (K.getD j kt0).x (rsK (K.take j) ch)⟩ :: setK (K.drop (j + 1)) (K.getD j kt0).id (crashP (K.getD j kt0).x (rsK (K.take j) ch)) := by
    show (if _ then _ else _) :: _ = _
    rw [if_pos rfl]; rfl
  rw [e2, setK_miss hn]
  simp
theorem rsK_bytes {K : List Kt} {ch : List Int} {n : Nat} (h : ch.length ≤ n) : (rsK K ch).length ≤ n := by
  induction K generalizing ch with
  | nil => exact h
  | cons k K ih =>
    refine ih ?_
    unfold restP
    rw [List.length_drop]; omega
theorem dcrash_nil (p : Option Addr) (n c : Nat) (w : World) : Calls Tryz.prog 14 #[.pointer none, .slice p n c] w fun e w' => e = .returned (.tuple #[]) ∧ w = w' := by
  go_enter Tryz.func14, Tryz.ntmps14
  go_wp2
  first | go_end0 | (refine bodyPost_ret (results_none rfl _ _ _) rfl ?_)
  exact ⟨rfl, rfl⟩

set_option maxRecDepth 100000 in
set_option maxHeartbeats 2000000 in
theorem dcrash_any {w : World} {D M m : Nat} {d : Dk} {x : Fo} {fu : Int} {g : Int → Option Ni} (h : Dx w D M d x fu g) (ho : d.Ok m) (hm : m ≤ 1048575) (r : Option Addr) (l e : Nat) (ch : List Int) (hb : Bs w r l ch) (hr : r = none → e = 0) (hle : l ≤ e) (hl : l ≤ 2097152) :
    Calls Tryz.prog 14 #[.pointer (some ⟨D, 0, none⟩), .slice r l e] w fun e w' => e = .returned (.tuple #[]) ∧ Dw w' D M (crashD d ch) ∧ Kp D M w w' := by
  obtain ⟨_, _, c2, c3, c4, _, c6, c7, _⟩ := h.cells
  have f6 := h.frozen 6
  have f7 := h.frozen 7
  obtain ⟨wS, hS⟩ : ∃ W, (w.setCell ⟨D, 7, none⟩ (.bool false)).setCell ⟨D, 6, none⟩ (.int .i64 (-1)) = W := ⟨_, rfl⟩
  have HKS : Hid (Kp D M w wS) := Lib.hid (by rw [← hS]; exact ((Kp.refl _ _ _).setD _ _).setD _ _)
  have HBS0 : Hid (wS.heap[D]? = some (.cells (dcells { d with off := false } x M (-1)) 66 (0, 0))) := Lib.hid (by rw [← hS]; exact setFuse_heap (setOff_heap h.b false) (-1))
  have HMS : wS.heap[M]? = w.heap[M]? := by rw [← hS, Below.heap_setCell _ _ _ _ (fun e => h.ne e.symm), Below.heap_setCell _ _ _ _ (fun e => h.ne e.symm)]
  have HXS : Hid (Dx wS D M { d with off := false, fuse := -1 } x (-1) g) := Lib.hid (h.renum HKS.out HBS0.out HMS rfl rfl rfl (by unfold InI; omega))
  have HBS := Lib.hid (hb.kp HKS.out h.nix.1 h.nix.2)
  have HF := Lib.hid (ho.fd hm)
  have HFX := Lib.hid (show x.fd = d.F from h.fd)
  have HID := Lib.hid fun W hW => fids_any x W hW (by rw [h.fd]; exact ho.fd hm)
  rw [h.fd] at HID
  have HCRF := Lib.hid fun n W hW (hn : InI n) => fcrash_any x n W hW (by rw [h.fd]; exact ho.fd hm) hn
  rw [h.fd] at HCRF
  have HKR := Lib.hid ho.rises
  have HIK := Lib.hid ho.ids
  have HFI := Lib.hid fun i => ho.fi hm i
  have HKL := Lib.hid ho.klen
  have HLOW : Hid (∀ i ∈ idsP d.F, InI i) := Lib.hid fun i hi => by
    have h1 := ho.low i hi
    have h2 := ho.last
    unfold InI; omega
  have HNX := Lib.hid h.nix
  have HCD : Hid (crashD d ch = { d with F := crashQ d.F (ch.headD 0).toNat, K := tidyK (crK d.K ch.tail) (idsP (crashQ d.F (ch.headD 0).toNat)), off := false, fuse := -1 }) := Lib.hid rfl
  have HCO := Lib.hid fun n => (show (crashQ d.F n).ok from crashQ_ok (ho.fd hm) n)
  have HCS : Hid (∀ n, ∀ i ∈ idsP (crashQ d.F n), i ∈ idK d.K) := Lib.hid fun n i hi => by rw [ho.ids]; exact ids_crash _ n i hi
  have d6 : wS.cell? ⟨D, 6, none⟩ = some (.int .i64 (-1)) := HXS.out.cells.2.2.2.2.2.2.1
  obtain ⟨wT, hT⟩ : ∃ W, w.setCell ⟨D, 7, none⟩ (.bool false) = W := ⟨_, rfl⟩
  have HBT : wT.heap[D]? = some (.cells (dcells { d with off := false } x M fu) 66 (0, 0)) := by rw [← hT]; exact setOff_heap h.b false
  have t6 : wT.cell? ⟨D, 6, none⟩ = some (.int .i64 fu) := (dc_cells HBT).2.2.2.2.2.2.1
  have t6f : wT.frozen? ⟨D, 6, none⟩ = false := frozen_of_row wT D 6 _ _ HBT
  rw [hT] at hS
  generalize crashD d ch = CD at *
  obtain ⟨p, ll, cc, q, mm, dd, L, Mc⟩ := x
  unfold Fo.v at HID HCRF
  dsimp only at HID HCRF
  obtain ⟨_, _, s2, s3, s4, _⟩ := HXS.out.cells
  have hb0 := hb.1
  clear h ho hb HMS HBT
  cases ch with
  | nil =>
    obtain rfl : l = 0 := hb0.symm
    obtain ⟨CT, hCT⟩ : ∃ T, ([] : List Int) = T := ⟨_, rfl⟩
    have HCT : Hid (Bs wS r 0 CT) := Lib.hid (by rw [← hCT]; exact Bs.empty _ _)
    have HCTL : Hid (CT.length ≤ 2097152) := Lib.hid (by rw [← hCT]; exact Nat.zero_le _)
    have HCN : Hid (r = none → e = 0) := Lib.hid hr
    have HCC : Hid (0 ≤ e) := Lib.hid hle
    have HCL : Hid (0 ≤ 2097152) := Lib.hid hl
    obtain ⟨NM, hNM⟩ : ∃ n : Int, 0 = n := ⟨_, rfl⟩
    have HNI : Hid (InI NM) := Lib.hid (by rw [← hNM]; unfold InI; omega)
    have HCD : Hid (CD = { d with F := crashQ d.F NM.toNat, K := tidyK (crK d.K CT) (idsP (crashQ d.F NM.toNat)), off := false, fuse := -1 }) := Lib.hid (by rw [HCD.out, ← hNM, ← hCT]; rfl)
    clear hCT
    go_enter Tryz.func14, Tryz.ntmps14
    go_wp2_with (go_at_call 45; refine (HID.out _ HXS.out.f).mono ?_; rintro e w2 ⟨pi, li, ci, rfl, hgi, hb2⟩; have HG2 := Lib.hid hgi.gs; have HX2 := Lib.hid (HXS.out.later hb2); have HK2 := Lib.hid (HKS.out.then_below hb2); have HCT2 := Lib.hid (HCT.out.later hb2); have hli0 := hgi.len; clear hgi hb2)
    have HLI : Hid (d.K.length = li) := Lib.hid (by rw [← hli0, ← HIK.out]; simp [idK])
    have hli1 : li ≤ 1048575 := by have := HKL.out; have := HLI.out; omega
    clear hli0 c2 c3 c4 c6 c7 f6 f7 d6 t6 t6f s2 s3 s4 hS hT

    go_loopw [5, 32] (fun v i wr => ∃ (j : Nat) (p1 : Option Addr) (n1 c1 : Nat) (gj : Int → Option Ni), j ≤ li ∧ i = .int .i64 (j : Int) ∧ v = .slice p1 n1 c1 ∧ Hid (Bs wr p1 n1 (rsK (d.K.take j) CT)) ∧ Hid (p1 = none → c1 = 0) ∧ Hid (n1 ≤ c1) ∧ Hid (n1 ≤ 2097152) ∧ Hid (Dx wr D M { d with off := false, fuse := -1, K := midK d.K CT j } ⟨p, ll, cc, q, mm, dd, L, Mc⟩ (-1) gj) ∧ Hid (Gs encI wr pi li (idsP d.F)) ∧ Hid (Kp D M w wr)) (fun _ i _ => li - (intOf i).toNat)
    case atStart => exact ⟨0, _, _, _, g, by omega, rfl, rfl, HCT2, HCN, HCC, HCL, Lib.hid (by rw [midK_zero]; exact HX2.out), HG2, HK2⟩
    case round =>
      obtain ⟨j, p1, n1, c1, gj, hj, rfl, rfl, HB1, HN1, HC1, HL1, HXJ, HGJ, HKJ⟩ := hrel
      by_cases hlt : j < li
      · obtain ⟨b', off, rfl, i0⟩ := HGJ.out.it j hlt
        have hjk : j < d.K.length := by rw [HLI.out]; exact hlt
        have HJK := Lib.hid hjk
        have hkn : (j : Int) < (li : Int) := by omega
        have hk0 : (0 : Int) ≤ (j : Int) := by omega
        have hidj : (idsP d.F).getD j 0 = (d.K.getD j kt0).id := by
          rw [← HIK.out]
          unfold idK
          rw [List.getD_eq_getElem?_getD, List.getD_eq_getElem?_getD, List.getElem?_map, List.getElem?_eq_getElem hjk]; rfl
        have hmem : (d.K.getD j kt0).id ∈ idK d.K := List.mem_map_of_mem (by rw [List.getD_eq_getElem?_getD, List.getElem?_eq_getElem hjk]; exact List.getElem_mem _)
        have HII : Hid (InI (d.K.getD j kt0).id) := Lib.hid (HLOW.out _ (by rw [← HIK.out]; exact hmem))
        have HMM : Hid ((d.K.getD j kt0).id ∈ idK (midK d.K CT j)) := Lib.hid (by rw [midK_ids]; exact hmem)
        have HAT := Lib.hid (midK_at HKR.out CT hjk)
        have HSTP := Lib.hid (midK_step HKR.out CT hjk)
        have HRS := Lib.hid (show rsK (d.K.take (j + 1)) CT = restP (d.K.getD j kt0).x (rsK (d.K.take j) CT) by rw [take_snoc hjk, rsK_snoc])
        have HRB : Hid ((rsK (d.K.take (j + 1)) CT).length ≤ 2097152) := Lib.hid (rsK_bytes HCTL.out)
        have HXO : Hid ((d.K.getD j kt0).x.ok) := Lib.hid (by
          have h1 := HFI.out (d.K.getD j kt0).id
          unfold atK at h1
          rw [getK_here HKR.out hjk] at h1
          exact h1)
        rw [hidj] at i0
        generalize d.K.getD j kt0 = kt at *
        obtain ⟨ki, kx⟩ := kt
        dsimp only at i0 HII HMM HAT HSTP HRS HXO
        have HD0 : Hid (Below wr.heap.size wr wr.drew) := Lib.hid ((Below.refl _ _).drew)
        have HXD := Lib.hid (HXJ.out.later HD0.out)
        have hlk := look_run HXD.out.m ki HII.out
        have d4 : wr.drew.cell? ⟨D, 4, none⟩ = some (.map (some M)) := HXD.out.cells.2.2.2.2.1
        have HY0 := Lib.hid (HXD.out.n.fit ki)
        have HYF : Hid (((gj ki).getD ni0).fi = kx) := Lib.hid ((fi_at HXD.out.k ki).trans HAT.out)
        obtain ⟨y0, hy0⟩ : ∃ y, (gj ki).getD ni0 = y := ⟨_, rfl⟩
        rw [hy0] at hlk HY0 HYF
        clear hy0
        have HIC := Lib.hid (icrash_any y0 p1 n1 c1 (rsK (d.K.take j) CT) wr.drew HY0.out (by rw [HYF.out]; exact HXO.out) (HB1.out.later HD0.out) HN1.out HC1.out HL1.out)
        rw [HYF.out, ← HRS.out] at HIC
        obtain ⟨yp, yn, yc, yq, ym, yd, yz, yL⟩ := y0
        unfold Ni.v at hlk HIC
        dsimp only at hlk HIC
        clear hidj hmem hjk
        go_wp2_with fail
        go_region_law (first
          | (go_simp; go_at_call 46; refine HIC.out.mono ?_; rintro e w4 ⟨⟨zp, zn, zc, zq, zm, zd, zz, zL⟩, v4, rfl, hf4, hz4, ho4, hb4⟩
             have HX4 := Lib.hid (HXD.out.later hb4)
             have k4 : w4.cell? ⟨D, 4, none⟩ = some (.map (some M)) := HX4.out.cells.2.2.2.2.1
             obtain ⟨p4, c4, hv4, hlc4, _, hbs4, hpn4⟩ := ho4.open
             subst hv4
             obtain ⟨w5, hrun5, hm5, hg5⟩ := put_run HX4.out.m (by dsimp only; rw [midK_len]; have := HKL.out; omega) ki HII.out ⟨zp, zn, zc, zq, zm, zd, zz, zL⟩
             have HX5 := Lib.hid (HX4.out.put (by dsimp only; rw [midK_ids]; exact HKR.out) HMM.out (y := ⟨zp, zn, zc, zq, zm, zd, zz, zL⟩) hf4 hm5 hg5)
             have HK5 := Lib.hid (((HKJ.out.then_below HD0.out).then_below hb4).map hg5)
             have HG5 := Lib.hid (((HGJ.out.later HD0.out).later hb4).turnBy hg5 HX4.out.m.no)
             have HB5 := Lib.hid (hbs4.kp ((Kp.refl D M w4).map hg5) HX4.out.nix.1 HX4.out.nix.2)
             have HN5 := Lib.hid hpn4
             have HC5 := Lib.hid hlc4
             have HZ4 := Lib.hid hz4
             unfold Ni.v at hrun5
             dsimp only at hrun5
             clear hf4 hz4 ho4 hb4 hlc4 hbs4 hpn4 hm5 hg5))
        all_goals (
          have HX6 : Hid (Dx w5 D M { d with off := false, fuse := -1, K := midK d.K CT (j + 1) } ⟨p, ll, cc, q, mm, dd, L, Mc⟩ (-1) (fun t => if t = ki then some ⟨zp, zn, zc, zq, zm, zd, zz, zL⟩ else gj t)) := Lib.hid (by
            have hx := HX5.out
            rw [HZ4.out] at hx
            dsimp only at hx
            rw [HSTP.out] at hx
            exact hx)
          clear hlk hrun5 d4 k4
          go_wp2
          refine ⟨?_, by simp [intOf] <;> omega⟩
          first
            | exact ⟨j + 1, _, _, _, _, by omega, by go_num, rfl, HB5, HN5, HC5, HRB, HX6, HG5, HK5⟩
            | ((repeat apply Exists.intro); refine ⟨?_, rfl⟩; exact ⟨j + 1, _, _, _, _, by omega, by go_num, rfl, HB5, HN5, HC5, HRB, HX6, HG5, HK5⟩))
      · obtain rfl : j = li := by omega
        have HXE : Hid (Dx wr D M { d with off := false, fuse := -1, K := crK d.K CT } ⟨p, ll, cc, q, mm, dd, L, Mc⟩ (-1) gj) := Lib.hid (by rw [← midK_end CT (by rw [HLI.out]; exact Nat.le_refl _)]; exact HXJ.out)
        have kk2 := HXE.out.cells
        obtain ⟨_, _, e2, e3, _⟩ := kk2
        go_wp2_with (first
          | (go_at_call 47; refine (HCRF.out NM _ HXE.out.f HNI.out).mono ?_; rintro e w6 ⟨⟨zp, zn, zc, zq, zm, zd, zL, zM⟩, rfl, hf6, hz6, hb6⟩; have HST := Lib.hid (dsettle_any (HXE.out.later hb6) (by dsimp only; rw [idK_cr]; exact HKR.out) ⟨zp, zn, zc, zq, zm, zd, zL, zM⟩ hf6 (by rw [hz6]; exact HCO.out _) (by rw [hz6]; dsimp only; rw [idK_cr]; exact HCS.out _)); have HZ6 := Lib.hid hz6; have HK6 := Lib.hid (HKJ.out.then_below hb6); unfold Fo.v at HST; clear hf6 hz6 hb6)
          | (go_at_call 29; refine HST.out.mono ?_; rintro e w7 ⟨rfl, ⟨g7, hx7⟩, hk7⟩; have HX7 := Lib.hid hx7; have HK7 := Lib.hid (HK6.out.trans hk7); clear hx7 hk7))
        first | go_end0 | skip
        have hx := HX7.out
        rw [HZ6.out] at hx
        rw [HCD.out]
        exact ⟨rfl, ⟨_, _, _, hx⟩, HK7.out⟩
  | cons z0 zs =>
    obtain ⟨CT, hCT⟩ : ∃ T, zs = T := ⟨_, rfl⟩
    have hl1 : zs.length + 1 = l := hb0
    obtain ⟨b0, off0, rfl, hc0⟩ : ∃ b off, r = some ⟨b, off, none⟩ ∧ wS.cell? ⟨b, off, none⟩ = some (.int .u8 z0) := by
      rcases HBS.out.2.2 with h0 | ⟨b, off, hp, hc⟩
      · omega
      · exact ⟨b, off, hp, by have := hc 0 (by omega); rw [Nat.add_zero] at this; exact this⟩
    obtain ⟨p1, hsl, hbs1, hpp1⟩ := HBS.out.slice_from (P := Tryz.prog) 32 5 Tryz.underlying32 Tryz.sizeOf5 e 1 hle (by omega)
    have hz := HBS.out.2.1 0
    simp only [List.getD_cons_zero] at hz
    have HCT : Hid (Bs wS p1 (l - 1) CT) := Lib.hid (by rw [← hCT]; exact hbs1)
    have HCTL : Hid (CT.length ≤ 2097152) := Lib.hid (by rw [← hCT]; omega)
    have HCN : Hid (p1 = none → e - 1 = 0) := Lib.hid (hpp1 hr)
    have HCC : Hid (l - 1 ≤ e - 1) := Lib.hid (by omega)
    have HCL : Hid (l - 1 ≤ 2097152) := Lib.hid (by omega)
    obtain ⟨NM, hNM⟩ : ∃ n : Int, z0 = n := ⟨_, rfl⟩
    have HNI : Hid (InI NM) := Lib.hid (by rw [← hNM]; unfold InI; omega)
    have HCD : Hid (CD = { d with F := crashQ d.F NM.toNat, K := tidyK (crK d.K CT) (idsP (crashQ d.F NM.toNat)), off := false, fuse := -1 }) := Lib.hid (by rw [HCD.out, ← hNM, ← hCT]; rfl)
    subst hNM
    have hlp : 0 < l := by omega
    have HDS : Hid (Below wS.heap.size wS wS.drew) := Lib.hid ((Below.refl _ _).drew)
    have hsl1 : ∀ W', (Instr.slice 32 (.slice (some ⟨b0, off0, none⟩) l e) (some (.int .i64 1)) none none).run Tryz.prog W' = .ok (.slice p1 (l - 1) (e - 1)) W' := hsl
    clear hsl
    have hz0 : 0 ≤ z0 ∧ z0 < 256 := hz
    clear hCT hbs1 hpp1 hb0 hl1
    go_enter Tryz.func14, Tryz.ntmps14
    go_wp2_with fail
    go_region
    go_wp2_with (go_at_call 45; refine (HID.out _ (HXS.out.later HDS.out).f).mono ?_; rintro e w2 ⟨pi, li, ci, rfl, hgi, hb2⟩; have HG2 := Lib.hid hgi.gs; have HX2 := Lib.hid ((HXS.out.later HDS.out).later hb2); have HK2 := Lib.hid ((HKS.out.then_below HDS.out).then_below hb2); have HCT2 := Lib.hid ((HCT.out.later HDS.out).later hb2); have hli0 := hgi.len; clear hgi hb2)
    have HLI : Hid (d.K.length = li) := Lib.hid (by rw [← hli0, ← HIK.out]; simp [idK])
    have hli1 : li ≤ 1048575 := by have := HKL.out; have := HLI.out; omega
    clear hli0 c2 c3 c4 c6 c7 f6 f7 d6 t6 t6f s2 s3 s4 hS hT

    go_loopw [5, 32] (fun v i wr => ∃ (j : Nat) (p1 : Option Addr) (n1 c1 : Nat) (gj : Int → Option Ni), j ≤ li ∧ i = .int .i64 (j : Int) ∧ v = .slice p1 n1 c1 ∧ Hid (Bs wr p1 n1 (rsK (d.K.take j) CT)) ∧ Hid (p1 = none → c1 = 0) ∧ Hid (n1 ≤ c1) ∧ Hid (n1 ≤ 2097152) ∧ Hid (Dx wr D M { d with off := false, fuse := -1, K := midK d.K CT j } ⟨p, ll, cc, q, mm, dd, L, Mc⟩ (-1) gj) ∧ Hid (Gs encI wr pi li (idsP d.F)) ∧ Hid (Kp D M w wr)) (fun _ i _ => li - (intOf i).toNat)
    case atStart => exact ⟨0, _, _, _, g, by omega, rfl, rfl, HCT2, HCN, HCC, HCL, Lib.hid (by rw [midK_zero]; exact HX2.out), HG2, HK2⟩
    case round =>
      obtain ⟨j, p1, n1, c1, gj, hj, rfl, rfl, HB1, HN1, HC1, HL1, HXJ, HGJ, HKJ⟩ := hrel
      by_cases hlt : j < li
      · obtain ⟨b', off, rfl, i0⟩ := HGJ.out.it j hlt
        have hjk : j < d.K.length := by rw [HLI.out]; exact hlt
        have HJK := Lib.hid hjk
        have hkn : (j : Int) < (li : Int) := by omega
        have hk0 : (0 : Int) ≤ (j : Int) := by omega
        have hidj : (idsP d.F).getD j 0 = (d.K.getD j kt0).id := by
          rw [← HIK.out]
          unfold idK
          rw [List.getD_eq_getElem?_getD, List.getD_eq_getElem?_getD, List.getElem?_map, List.getElem?_eq_getElem hjk]; rfl
        have hmem : (d.K.getD j kt0).id ∈ idK d.K := List.mem_map_of_mem (by rw [List.getD_eq_getElem?_getD, List.getElem?_eq_getElem hjk]; exact List.getElem_mem _)
        have HII : Hid (InI (d.K.getD j kt0).id) := Lib.hid (HLOW.out _ (by rw [← HIK.out]; exact hmem))
        have HMM : Hid ((d.K.getD j kt0).id ∈ idK (midK d.K CT j)) := Lib.hid (by rw [midK_ids]; exact hmem)
        have HAT := Lib.hid (midK_at HKR.out CT hjk)
        have HSTP := Lib.hid (midK_step HKR.out CT hjk)
        have HRS := Lib.hid (show rsK (d.K.take (j + 1)) CT = restP (d.K.getD j kt0).x (rsK (d.K.take j) CT) by rw [take_snoc hjk, rsK_snoc])
        have HRB : Hid ((rsK (d.K.take (j + 1)) CT).length ≤ 2097152) := Lib.hid (rsK_bytes HCTL.out)
        have HXO : Hid ((d.K.getD j kt0).x.ok) := Lib.hid (by
          have h1 := HFI.out (d.K.getD j kt0).id
          unfold atK at h1
          rw [getK_here HKR.out hjk] at h1
          exact h1)
        rw [hidj] at i0
        generalize d.K.getD j kt0 = kt at *
        obtain ⟨ki, kx⟩ := kt
        dsimp only at i0 HII HMM HAT HSTP HRS HXO
        have HD0 : Hid (Below wr.heap.size wr wr.drew) := Lib.hid ((Below.refl _ _).drew)
        have HXD := Lib.hid (HXJ.out.later HD0.out)
        have hlk := look_run HXD.out.m ki HII.out
        have d4 : wr.drew.cell? ⟨D, 4, none⟩ = some (.map (some M)) := HXD.out.cells.2.2.2.2.1
        have HY0 := Lib.hid (HXD.out.n.fit ki)
        have HYF : Hid (((gj ki).getD ni0).fi = kx) := Lib.hid ((fi_at HXD.out.k ki).trans HAT.out)
        obtain ⟨y0, hy0⟩ : ∃ y, (gj ki).getD ni0 = y := ⟨_, rfl⟩
        rw [hy0] at hlk HY0 HYF
        clear hy0
        have HIC := Lib.hid (icrash_any y0 p1 n1 c1 (rsK (d.K.take j) CT) wr.drew HY0.out (by rw [HYF.out]; exact HXO.out) (HB1.out.later HD0.out) HN1.out HC1.out HL1.out)
        rw [HYF.out, ← HRS.out] at HIC
        obtain ⟨yp, yn, yc, yq, ym, yd, yz, yL⟩ := y0
        unfold Ni.v at hlk HIC
        dsimp only at hlk HIC
        clear hidj hmem hjk
        go_wp2_with fail
        go_region_law (first
          | (go_simp; go_at_call 46; refine HIC.out.mono ?_; rintro e w4 ⟨⟨zp, zn, zc, zq, zm, zd, zz, zL⟩, v4, rfl, hf4, hz4, ho4, hb4⟩
             have HX4 := Lib.hid (HXD.out.later hb4)
             have k4 : w4.cell? ⟨D, 4, none⟩ = some (.map (some M)) := HX4.out.cells.2.2.2.2.1
             obtain ⟨p4, c4, hv4, hlc4, _, hbs4, hpn4⟩ := ho4.open
             subst hv4
             obtain ⟨w5, hrun5, hm5, hg5⟩ := put_run HX4.out.m (by dsimp only; rw [midK_len]; have := HKL.out; omega) ki HII.out ⟨zp, zn, zc, zq, zm, zd, zz, zL⟩
             have HX5 := Lib.hid (HX4.out.put (by dsimp only; rw [midK_ids]; exact HKR.out) HMM.out (y := ⟨zp, zn, zc, zq, zm, zd, zz, zL⟩) hf4 hm5 hg5)
             have HK5 := Lib.hid (((HKJ.out.then_below HD0.out).then_below hb4).map hg5)
             have HG5 := Lib.hid (((HGJ.out.later HD0.out).later hb4).turnBy hg5 HX4.out.m.no)
             have HB5 := Lib.hid (hbs4.kp ((Kp.refl D M w4).map hg5) HX4.out.nix.1 HX4.out.nix.2)
             have HN5 := Lib.hid hpn4
             have HC5 := Lib.hid hlc4
             have HZ4 := Lib.hid hz4
             unfold Ni.v at hrun5
             dsimp only at hrun5
             clear hf4 hz4 ho4 hb4 hlc4 hbs4 hpn4 hm5 hg5))
        all_goals (
          have HX6 : Hid (Dx w5 D M { d with off := false, fuse := -1, K := midK d.K CT (j + 1) } ⟨p, ll, cc, q, mm, dd, L, Mc⟩ (-1) (fun t => if t = ki then some ⟨zp, zn, zc, zq, zm, zd, zz, zL⟩ else gj t)) := Lib.hid (by
            have hx := HX5.out
            rw [HZ4.out] at hx
            dsimp only at hx
            rw [HSTP.out] at hx
            exact hx)
          clear hlk hrun5 d4 k4
          go_wp2
          refine ⟨?_, by simp [intOf] <;> omega⟩
          first
            | exact ⟨j + 1, _, _, _, _, by omega, by go_num, rfl, HB5, HN5, HC5, HRB, HX6, HG5, HK5⟩
            | ((repeat apply Exists.intro); refine ⟨?_, rfl⟩; exact ⟨j + 1, _, _, _, _, by omega, by go_num, rfl, HB5, HN5, HC5, HRB, HX6, HG5, HK5⟩))
      · obtain rfl : j = li := by omega
        have HXE : Hid (Dx wr D M { d with off := false, fuse := -1, K := crK d.K CT } ⟨p, ll, cc, q, mm, dd, L, Mc⟩ (-1) gj) := Lib.hid (by rw [← midK_end CT (by rw [HLI.out]; exact Nat.le_refl _)]; exact HXJ.out)
        have kk2 := HXE.out.cells
        obtain ⟨_, _, e2, e3, _⟩ := kk2
        go_wp2_with (first
          | (go_at_call 47; refine (HCRF.out z0 _ HXE.out.f HNI.out).mono ?_; rintro e w6 ⟨⟨zp, zn, zc, zq, zm, zd, zL, zM⟩, rfl, hf6, hz6, hb6⟩; have HST := Lib.hid (dsettle_any (HXE.out.later hb6) (by dsimp only; rw [idK_cr]; exact HKR.out) ⟨zp, zn, zc, zq, zm, zd, zL, zM⟩ hf6 (by rw [hz6]; exact HCO.out _) (by rw [hz6]; dsimp only; rw [idK_cr]; exact HCS.out _)); have HZ6 := Lib.hid hz6; have HK6 := Lib.hid (HKJ.out.then_below hb6); unfold Fo.v at HST; clear hf6 hz6 hb6)
          | (go_at_call 29; refine HST.out.mono ?_; rintro e w7 ⟨rfl, ⟨g7, hx7⟩, hk7⟩; have HX7 := Lib.hid hx7; have HK7 := Lib.hid (HK6.out.trans hk7); clear hx7 hk7))
        first | go_end0 | skip
        have hx := HX7.out
        rw [HZ6.out] at hx
        rw [HCD.out]
        exact ⟨rfl, ⟨_, _, _, hx⟩, HK7.out⟩
end Go.Proofs.YtncbgddgkpaoeaaGreat

namespace Go.Proofs.YtncbgddgkpaoeaaGreat
set_option linter.unusedVariables false
open Go.RowKit Go.Lib Go.Maps

def emF : Fd := ⟨[], []⟩
theorem emF_ok : emF.ok := ⟨fun x hx => (by cases hx), fun x hx => (by cases hx), by decide⟩
theorem emF_sync : syncQ emF = emF := rfl
theorem emF_ids : idsP emF = [] := rfl
theorem fo0_fd : fo0.fd = emF := rfl
set_option maxRecDepth 100000 in
set_option maxHeartbeats 1000000 in
theorem dload0_any (lb lf : Int) (hb : InI lb) (hf : InI lf) (w : World) :
    Calls Tryz.prog 7 #[.agg #[.int .i64 lb, .int .i64 lf], .slice none 0 0] w fun e w' => ∃ D M, e = .returned (.pointer (some ⟨D, 0, none⟩)) ∧ Dw w' D M (newD lb lf) ∧ w.heap.size ≤ D ∧ w.heap.size ≤ M ∧ Below w.heap.size w w' := by
  have hmm := @run_makeMap Tryz.prog
  obtain ⟨wL, hL⟩ : ∃ A, w.alloc (.cells #[.int .i64 lb, .int .i64 lf] 23) = A := ⟨_, rfl⟩
  obtain ⟨wM, hM⟩ : ∃ A, wL.alloc (.map #[] 0) = A := ⟨_, rfl⟩
  obtain ⟨M, hMs⟩ : ∃ G, wL.heap.size = G := ⟨_, rfl⟩
  obtain ⟨wD, hD⟩ : ∃ A, wM.alloc (.cells #[.int .i64 lb, .int .i64 lf, .slice none 0 0, .slice none 0 0, .map (some M), .int .i64 0, .int .i64 (-1), .bool false, .int .i64 0] 66) = A := ⟨_, rfl⟩
  obtain ⟨D, hDs⟩ : ∃ G, wM.heap.size = G := ⟨_, rfl⟩
  obtain ⟨wA, hA⟩ : ∃ A, wD.alloc (.cells #[.slice none 0 0, .slice none 0 0] 64) = A := ⟨_, rfl⟩
  obtain ⟨G, hG⟩ : ∃ G, wD.heap.size = G := ⟨_, rfl⟩
  have hBL : Below w.heap.size w wL := by rw [← hL]; exact (Below.refl _ _).alloc (Nat.le_refl _) _
  have hBM : Below wL.heap.size wL wM := by rw [← hM]; exact (Below.refl _ _).alloc (Nat.le_refl _) _
  have hBD : Below wM.heap.size wM wD := by rw [← hD]; exact (Below.refl _ _).alloc (Nat.le_refl _) _
  have hBA : Below wD.heap.size wD wA := by rw [← hA]; exact (Below.refl _ _).alloc (Nat.le_refl _) _
  have HBA : Hid (Below w.heap.size w wA) := Lib.hid (below_step (below_step (below_step hBL hBM) hBD) hBA)
  have l0 : wL.cell? ⟨w.heap.size, 0, none⟩ = some (.int .i64 lb) := by rw [← hL, cell_of_row _ _ _ _ _ _ (heap_alloc_new _ _)]; rfl
  have l1 : wL.cell? ⟨w.heap.size, 1, none⟩ = some (.int .i64 lf) := by rw [← hL, cell_of_row _ _ _ _ _ _ (heap_alloc_new _ _)]; rfl
  have HM0 : Hid (Mi wM M 0 (fun _ => none)) := Lib.hid (by rw [← hM, ← hMs]; exact Mi.made _)
  have HX : Hid (Dx wD D M (newD lb lf) fo0 (-1) (fun _ => none)) := Lib.hid ⟨by rw [← hD, ← hDs]; exact heap_alloc_new _ _, fo0_fit _, rfl, HM0.out.later hBD, (fun i y hy => by cases hy), fun i => rfl, rfl, by unfold InI; omega⟩
  have HXA := Lib.hid (HX.out.later hBA)
  have HFA : Hid (Fw wA G fo0) := Lib.hid (by rw [← hA, ← hG]; exact heap_alloc_new _ _)
  have HDM : Hid (w.heap.size ≤ D ∧ w.heap.size ≤ M) := Lib.hid (by have h1 := hBL.size; have h2 := hBM.size; omega)
  obtain ⟨i0, i1⟩ := HFA.out.cells
  have HSY := Lib.hid fun W => fsync_any fo0 W (fo0_fit W) emF_ok
  rw [show fo0.fd = emF from rfl, emF_sync] at HSY
  unfold Fo.v fo0 at HSY
  dsimp only at HSY
  clear hBL hBM hBD hBA
  go_enter Tryz.func7, Tryz.ntmps7
  go_wp2
  clear hL hM hMs hD hDs hA hG l0 l1 hmm
  go_loopw [15] (fun i wr => i = .int .i64 0 ∧ wr = wA) (fun _ _ => 0)
  case atStart => exact ⟨rfl, rfl⟩
  case round =>
    obtain ⟨rfl, rfl⟩ := hrel
    go_wp2_with (first
      | (go_at_call 30; refine (HSY.out _).mono ?_; rintro e w2 ⟨⟨yp, yn, yc, yq, ym, yd, yL, yM⟩, rfl, hf2, hy2, hb2⟩; have HY2 := Lib.hid hy2; have HB2 := Lib.hid hb2; have HST := Lib.hid (dsettle_any (HXA.out.later hb2) List.Pairwise.nil ⟨yp, yn, yc, yq, ym, yd, yL, yM⟩ hf2 (by rw [hy2]; exact emF_ok) (by rw [hy2, emF_ids]; exact fun i hi => by cases hi)); unfold Fo.v at HST; clear hb2 hf2 hy2)
      | (go_at_call 29; refine HST.out.mono ?_; rintro e w3 ⟨rfl, ⟨g3, hx3⟩, hk3⟩; have HX3 := Lib.hid hx3; have HK3 := Lib.hid hk3; clear hx3 hk3))
    go_ret
    have hx := HX3.out
    rw [HY2.out] at hx
    exact ⟨D, M, rfl, ⟨_, _, _, hx⟩, HDM.out.1, HDM.out.2, HK3.out.onto (below_step HBA.out HB2.out) (Nat.le_trans HBA.out.size HB2.out.size) HDM.out.1 HDM.out.2⟩
theorem dnew_any (lb lf : Int) (hb : InI lb) (hf : InI lf) (w : World) :
    Calls Tryz.prog 13 #[.agg #[.int .i64 lb, .int .i64 lf]] w fun e w' => ∃ D M, e = .returned (.pointer (some ⟨D, 0, none⟩)) ∧ Dw w' D M (newD lb lf) ∧ w.heap.size ≤ D ∧ w.heap.size ≤ M ∧ Below w.heap.size w w' := by
  obtain ⟨wL, hL⟩ : ∃ A, w.alloc (.cells #[.int .i64 lb, .int .i64 lf] 23) = A := ⟨_, rfl⟩
  have HBL : Hid (Below w.heap.size w wL) := Lib.hid (by rw [← hL]; exact (Below.refl _ _).alloc (Nat.le_refl _) _)
  have l0 : wL.cell? ⟨w.heap.size, 0, none⟩ = some (.int .i64 lb) := by rw [← hL, cell_of_row _ _ _ _ _ _ (heap_alloc_new _ _)]; rfl
  have l1 : wL.cell? ⟨w.heap.size, 1, none⟩ = some (.int .i64 lf) := by rw [← hL, cell_of_row _ _ _ _ _ _ (heap_alloc_new _ _)]; rfl
  have HB := Lib.hid hb
  have HF := Lib.hid hf
  clear hb hf
  go_enter Tryz.func13, Tryz.ntmps13
  go_wp2_with (go_at_call 7; refine (dload0_any lb lf HB.out HF.out wL).mono ?_; rintro e w2 ⟨D, M, rfl, hw, hd, hm, hb2⟩; have HW := Lib.hid hw; have HD := Lib.hid hd; have HM := Lib.hid hm; have HB2 := Lib.hid hb2; clear hw hd hm hb2)
  go_ret
  exact ⟨D, M, rfl, HW.out, Nat.le_trans HBL.out.size HD.out, Nat.le_trans HBL.out.size HM.out, below_step HBL.out HB2.out⟩
end Go.Proofs.YtncbgddgkpaoeaaGreat

namespace Go.Proofs.YtncbgddgkpaoeaaGreat
set_option linter.unusedVariables false
open Go.RowKit Go.Lib Go.Maps

def encS : Ec ByteArray where
  f s := [.string s]
  k := 1
  t := 9
  d := ⟨#[]⟩
  len _ := rfl
  one x v hv := by
    simp only [List.mem_cons, List.not_mem_nil, or_false] at hv
    rcases hv with rfl; rfl
  pos := by decide
theorem infoS : (Tryz.prog.info? encS.t).map (fun i => (i.zero, i.size, i.bytes)) = some (some (.string ⟨#[]⟩), encS.k, 16) := by kernel_rfl
theorem names_step {L : List Nd} {k : Nat} (h : k < L.length) : (L.map Nd.s).take (k + 1) = (L.map Nd.s).take k ++ [(L.getD k nd0).s] := by
  rw [List.take_succ_eq_append_getElem (by simpa using h), List.getD_eq_getElem?_getD, List.getElem?_eq_getElem h]
  simp

theorem dnames_nil (w : World) : Calls Tryz.prog 25 #[.pointer none] w fun e w' => e = .returned (.tuple #[.slice none 0 0, .int .i64 1]) ∧ w = w' := by
  go_enter Tryz.func25, Tryz.ntmps25
  go_wp2_with (go_at_call 61; refine (dfault_nil _).mono ?_; rintro e w2 ⟨rfl, rfl⟩)
  go_ret2
  exact ⟨rfl, rfl⟩
set_option maxRecDepth 100000 in
set_option maxHeartbeats 1000000 in
theorem dnames_any {w : World} {D M m : Nat} {d : Dk} {x : Fo} {fu : Int} {g : Int → Option Ni} (h : Dx w D M d x fu g) (ho : d.Ok m) (hm : m ≤ 1048575) :
    Calls Tryz.prog 25 #[.pointer (some ⟨D, 0, none⟩)] w fun e w' => ∃ p k c, e = .returned (.tuple #[.slice p k c, .int .i64 (if d.off then 11 else 0)]) ∧ Gs encS w' p k (if d.off then [] else namesP d) ∧ (p = none → c = 0) ∧ k ≤ c ∧ Below w.heap.size w w' := by
  have HFT := Lib.hid (dfault_any h)
  have HNO := Lib.hid fun W hW => fnow_any x W hW (by rw [h.fd]; exact ho.fd hm)
  have HX := Lib.hid h
  have HLEN := Lib.hid (show (nowQ d.F).length ≤ 1048576 by
    have h1 := behP_length d.F d.F.p.length
    have h2 := ho.len
    unfold nowQ; omega)
  rw [h.fd] at HNO
  obtain ⟨p, l, cc, q, mm, dd, L, Mc⟩ := x
  obtain ⟨_, _, c2, c3, _, _, _, c7, _⟩ := h.cells
  unfold Fo.v at HNO
  dsimp only at HNO
  unfold namesP
  generalize nowQ d.F = N at *
  clear h ho
  cases ho : d.off
  · rw [ho] at HFT c7
    simp only [Bool.false_eq_true, if_false] at HFT ⊢
    clear ho
    go_enter Tryz.func25, Tryz.ntmps25
    go_wp2_with (first
      | (go_at_call 61; refine HFT.out.mono ?_; rintro e w2 ⟨rfl, rfl⟩)
      | (go_at_call 62; refine (HNO.out _ HX.out.f).mono ?_; rintro e w3 ⟨pn, ln, cn, rfl, hg3, hb3⟩; have HN3 := Lib.hid hg3.gs; have HB3 := Lib.hid hb3; clear hg3 hb3))
    have hln : N.length = ln := HN3.out.len
    have hl1 : ln ≤ 1048576 := by have := HLEN.out; omega
    have HLN := Lib.hid hln
    clear hln c2 c3 c7
    go_loopw [5, 19] (fun v i wr => ∃ j : Nat, j ≤ ln ∧ i = .int .i64 (j : Int) ∧ Hid (Gw encS wr w3.heap.size v ((N.map Nd.s).take j)) ∧ Hid (Below w3.heap.size w3 wr)) (fun _ i _ => ln - (intOf i).toNat)
    case atStart => exact ⟨0, by omega, rfl, Lib.hid (Gw.nil _ _ _), Lib.hid (Below.refl _ _)⟩
    case round =>
      obtain ⟨j, hj, rfl, HO, HB⟩ := hrel
      by_cases hlt : j < ln
      · obtain ⟨b', off, rfl, c0, c1⟩ := (HN3.out.later HB.out).nd j hlt
        have HS := Lib.hid (names_step (L := N) (k := j) (by rw [HLN.out]; exact hlt))
        have hkn : (j : Int) < (ln : Int) := by omega
        have hk0 : (0 : Int) ≤ (j : Int) := by omega
        generalize N.getD j nd0 = y at *
        obtain ⟨ys, yi⟩ := y
        dsimp only at c0 c1 HS
        have HTL : Hid (((N.map Nd.s).take j).length = j) := Lib.hid (by rw [List.length_take, List.length_map, HLN.out]; omega)
        generalize (N.map Nd.s).take j = T at *
        obtain ⟨wB, hwB⟩ : ∃ W, wr.alloc (.cells #[.string ys, .int .i64 yi] 75) = W := ⟨_, rfl⟩
        obtain ⟨GB, hGB⟩ : ∃ G, wr.heap.size = G := ⟨_, rfl⟩
        have HBB : Hid (Below wr.heap.size wr wB) := Lib.hid (by rw [← hwB]; exact (Below.refl _ _).alloc (Nat.le_refl _) _)
        have hcB : wB.heap[GB]? = some (.cells #[.string ys, .int .i64 yi] 75 (0, 0)) := by rw [← hwB, ← hGB]; exact heap_alloc_new _ _
        have b0 : wB.cell? ⟨GB, 0, none⟩ = some (.string ys) := by rw [cell_of_row _ _ _ _ _ _ hcB]; rfl
        have b1 : wB.cell? ⟨GB, 1, none⟩ = some (.int .i64 yi) := by rw [cell_of_row _ _ _ _ _ _ hcB]; rfl
        obtain ⟨wC, hwC⟩ : ∃ W, wB.alloc (.cells #[.string ys] 9) = W := ⟨_, rfl⟩
        obtain ⟨GC, hGC⟩ : ∃ G, wB.heap.size = G := ⟨_, rfl⟩
        have HBC : Hid (Below wB.heap.size wB wC) := Lib.hid (by rw [← hwC]; exact (Below.refl _ _).alloc (Nat.le_refl _) _)
        have HNC : Hid (Gs encS wC (some ⟨GC, 0, none⟩) 1 [ys]) := Lib.hid (by rw [← hwC, ← hGC]; exact Gs.one encS _ ys _ rfl _ _)
        have HOC := Lib.hid ((HO.out.later HBB.out).later HBC.out)
        have HBX := Lib.hid (below_step HB.out (below_step HBB.out HBC.out))
        have HZ : Hid (T.length + 1 ≤ 2097152) := Lib.hid (by have := HTL.out; omega)
        clear hcB
        go_wp2_with (refine wpList_append_gen encS rfl (.tmp 23) (.tmp 26) 55 rfl Tryz.underlying55 (.string ⟨#[]⟩) 16 infoS rfl (by decide) w3.heap.size _ T rfl HOC.out _ 1 1 [ys] rfl HNC.out (fun h => by cases h) HZ.out HBX.out.size ?_; intro v4 w4 ho4 hg4; have HO4 := Lib.hid ho4; have HB4 := Lib.hid (below_new_gw HBX.out HOC.out hg4 HBX.out.size); clear ho4 hg4)
        have HO5 : Hid (Gw encS w4 w3.heap.size v4 ((N.map Nd.s).take (j + 1))) := Lib.hid (by rw [HS.out]; exact HO4.out)
        clear hwB hGB hwC hGC b0 b1 c0 c1
        refine ⟨?_, by simp [intOf] <;> omega⟩
        first
          | exact ⟨j + 1, by omega, by go_num, HO5, HB4⟩
          | ((repeat apply Exists.intro); refine ⟨?_, rfl⟩; exact ⟨j + 1, by omega, by go_num, HO5, HB4⟩)
      · obtain rfl : j = ln := by omega
        obtain ⟨q1, cp, hv, hlc, _, hgs, hpn⟩ := HO.out.open
        subst hv
        have HLC := Lib.hid hlc
        have HGS := Lib.hid hgs
        have HPN := Lib.hid hpn
        have HT : Hid ((N.map Nd.s).take j = N.map Nd.s) := Lib.hid (List.take_of_length_le (by rw [List.length_map, HLN.out]; exact Nat.le_refl _))
        clear hgs hpn hlc
        go_wp2
        go_ret2
        exact ⟨q1, _, cp, rfl, by have hh := HGS.out; rw [HT.out] at hh ⊢; exact hh, HPN.out, HLC.out, below_step HB3.out HB.out⟩
  · rw [ho] at HFT c7
    simp only [if_true] at HFT ⊢
    clear ho
    go_enter Tryz.func25, Tryz.ntmps25
    go_wp2_with (go_at_call 61; refine HFT.out.mono ?_; rintro e w2 ⟨rfl, rfl⟩)
    go_ret2
    exact ⟨none, 0, 0, rfl, Gs.empty _ _ _, fun _ => rfl, Nat.le_refl _, Below.refl _ _⟩
end Go.Proofs.YtncbgddgkpaoeaaGreat
