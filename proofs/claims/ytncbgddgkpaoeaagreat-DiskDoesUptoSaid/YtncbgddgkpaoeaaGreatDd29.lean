/- Layer 12, the program: rearrange; Layer 12, the program: current, Size; Layer 12, the program: perform; Layer 12, the program: edit's function; Layer 12, the program: edit; Layer 12, the program: edit's function, where the change binds one variable; Layer 12, the program: edit, where the change binds one variable; Layer 12, the program: edit's function, where the change binds nothing; Layer 12, th -/
import Derived.Test.YtncbgddgkpaoeaaGreatDd25
import Derived.Test.YtncbgddgkpaoeaaGreatDd27
import Derived.Test.YtncbgddgkpaoeaaGreatDd28
import Derived.Deep.RegionLaw
set_option linter.unusedSimpArgs false
set_option linter.unusedVariables false
namespace Go.Proofs.YtncbgddgkpaoeaaGreat
set_option linter.unusedVariables false
open Go.RowKit Go.Lib Go.Maps

theorem one_new (w : World) (A : Obj) : (w.alloc A).heap[w.heap.size]? = some A := heap_alloc_new _ _
theorem cells2_of {w : World} {G : Nat} {p q : Option Addr} {n c m d : Nat} {t : TypeId} {fr : Nat × Nat} (h : w.heap[G]? = some (.cells #[.slice p n c, .slice q m d] t fr)) : w.cell? ⟨G, 0, none⟩ = some (.slice p n c) ∧ w.cell? ⟨G, 1, none⟩ = some (.slice q m d) := by
  refine ⟨?_, ?_⟩ <;> (rw [cell_of_row _ _ _ _ _ _ h]; rfl)
/-- a disk whose folder has turned alone -/
theorem Dx.refold {w w' : World} {D M : Nat} {d : Dk} {x y : Fo} {fu : Int} {g : Int → Option Ni} (h : Dx w D M d x fu g) (hk : Kp D M w w') (hb : w'.heap[D]? = some (.cells (dcells d y M fu) 66 (0, 0))) (hm : w'.heap[M]? = w.heap[M]?) (hy : Fo.fit w' y) (F : Fd) (hF : y.fd = F) :
    Dx w' D M { d with F := F } y fu g :=
  ⟨hb, hy, hF, h.m.same hm, h.n.kp hk h.nix.1 h.nix.2, h.k, h.u, h.ui⟩

set_option maxRecDepth 100000 in
set_option maxHeartbeats 1000000 in
theorem drearr_any {w : World} {D M m : Nat} {d : Dk} {x : Fo} {fu : Int} {g : Int → Option Ni} (h : Dx w D M d x fu g) (ho : d.Ok m) (hm : m ≤ 1048575) (c : Cg) (hc : c.ok) :
    Calls Tryz.prog 50 #[.pointer (some ⟨D, 0, none⟩), c.v] w fun e w' => e = .returned (.int .i64 (errP diskP d.F c)) ∧ (∃ x', Dx w' D M { d with F := doP diskP d.F c } x' fu g) ∧ Kp D M w w' ∧ w'.heap[M]? = w.heap[M]? := by
  have HX := Lib.hid h
  have HDO := Lib.hid fun W hW => fdo_any x c W hW (by rw [h.fd]; exact ho.fd hm) hc
  have HDE : Hid (errP diskP d.F c ≠ 0 → doP diskP d.F c = d.F) := Lib.hid fun e => by unfold doP; rw [if_neg e]
  rw [h.fd] at HDO
  obtain ⟨p, l, cc, q, mm, dd, L, Mc⟩ := x
  obtain ⟨ck, ca, cb, ci⟩ := c
  obtain ⟨er, her⟩ : ∃ e, errP diskP d.F ⟨ck, ca, cb, ci⟩ = e := ⟨_, rfl⟩
  obtain ⟨F', hF'⟩ : ∃ e, doP diskP d.F ⟨ck, ca, cb, ci⟩ = e := ⟨_, rfl⟩
  rw [her, hF'] at HDE
  rw [her, hF'] at HDO
  rw [her, hF']
  unfold Fo.v at HDO
  unfold Cg.v at HDO ⊢
  dsimp only at HDO ⊢
  obtain ⟨wA, hA⟩ : ∃ A, w.alloc (.cells #[.int .i64 ck, .string ca, .string cb, .int .i64 ci] 106) = A := ⟨_, rfl⟩
  obtain ⟨G0, hG0⟩ : ∃ G, w.heap.size = G := ⟨_, rfl⟩
  have HBA : Hid (Below w.heap.size w wA) := Lib.hid (by rw [← hA]; exact (Below.refl _ _).alloc (Nat.le_refl _) _)
  have HWA : Hid (w.heap.size ≤ wA.heap.size) := Lib.hid HBA.out.size
  have HXA := Lib.hid (h.later HBA.out)
  have HC : Hid (Cgw wA G0 ⟨ck, ca, cb, ci⟩) := Lib.hid (by rw [← hA, ← hG0]; exact heap_alloc_new _ _)
  have HD0 : Hid (Below wA.heap.size wA wA.drew) := Lib.hid ((Below.refl _ _).drew)
  have HD1 : Hid (Below wA.heap.size wA (wA.drew.alloc (.cells #[.slice none 0 0, .slice none 0 0] 64))) := Lib.hid (HD0.out.alloc HD0.out.size _)
  have HZa : Hid (Fw (wA.drew.alloc (.cells #[.slice none 0 0, .slice none 0 0] 64)) wA.heap.size fo0) := Lib.hid (heap_alloc_new wA.drew _)
  have HK : Hid (∀ W, Below wA.heap.size wA W → W.cell? ⟨D, 2, none⟩ = some (.slice p l cc) ∧ W.cell? ⟨D, 3, none⟩ = some (.slice q mm dd) ∧ W.cell? ⟨G0, 0, none⟩ = some (.int .i64 ck) ∧ W.cell? ⟨G0, 1, none⟩ = some (.string ca) ∧ W.cell? ⟨G0, 2, none⟩ = some (.string cb) ∧ W.cell? ⟨G0, 3, none⟩ = some (.int .i64 ci)) := Lib.hid fun W hW => by
    obtain ⟨_, _, c2, c3, _⟩ := (HXA.out.later hW).cells
    exact ⟨c2, c3, (HC.out.later hW).cells⟩
  have HFA := Lib.hid fun W (hW : Below wA.heap.size wA W) => HXA.out.f.later hW
  have k1 := HK.out _ (Below.refl _ _)
  have k0 := HK.out _ HD0.out
  have k0b := HK.out _ HD1.out
  have HNX := Lib.hid h.nix
  clear h ho hc her hF'
  go_enter Tryz.func50, Tryz.ntmps50
  go_wp2_with fail
  clear hA hG0
  go_upto_region 1 with fail
  go_cut [5, 6] (fun f e wx => ∃ (G : Nat) (y : Fo), f = .pointer (some ⟨G, 0, none⟩) ∧ e = .int .i64 er ∧ Hid (Fw wx G y) ∧ Hid (Fo.fit wx y) ∧ Hid (y.fd = F') ∧ Hid (Below wA.heap.size wA wx) ∧ Hid (wA.heap.size ≤ G))
  case first =>
    go_region_held3 (fun W => W.cell? ⟨D, 2, none⟩ = some (.slice p l cc) ∧ W.cell? ⟨D, 3, none⟩ = some (.slice q mm dd) ∧ W.cell? ⟨G0, 0, none⟩ = some (.int .i64 ck) ∧ W.cell? ⟨G0, 1, none⟩ = some (.string ca) ∧ W.cell? ⟨G0, 2, none⟩ = some (.string cb) ∧ W.cell? ⟨G0, 3, none⟩ = some (.int .i64 ci)) (first | exact k0 | exact k1 | exact k0b | exact k2 | exact k2b | exact k2c | exact k2d) (first
      | (go_at_call 85; refine (HDO.out _ (by first | exact HFA.out _ HD0.out | exact HFA.out _ HD1.out)).mono ?_; rintro e w2 ⟨⟨yp, yn, yc, yq, ym, yd, yL, yM⟩, rfl, hf2, hy2, hb2⟩; have HF2 := Lib.hid hf2; have HY2 := Lib.hid hy2; have HB2 : Hid (Below wA.heap.size wA w2) := Lib.hid (by first | exact below_step HD0.out hb2 | exact below_step HD1.out hb2); have k2 := HK.out _ HB2.out; have HB2b := Lib.hid (HB2.out.alloc HB2.out.size (.cells #[.slice none 0 0, .slice none 0 0] 64)); have k2b := HK.out _ HB2b.out; have k2c := HK.out _ (HB2.out.alloc HB2.out.size (.cells #[.slice yp yn yc, .slice yq ym yd] 64)); have k2d := HK.out _ ((HB2.out.setCell (p := ⟨wA.heap.size, 0, none⟩) (Nat.le_refl _) (.slice yp yn yc)).setCell (p := ⟨wA.heap.size, 1, none⟩) (Nat.le_refl _) (.slice yq ym yd)); (try (have HZ2 := Lib.hid (HZa.out.later hb2); obtain ⟨z0, z1⟩ := HZ2.out.cells; have f0 := HZ2.out.frozen 0; have f1 := HZ2.out.frozen 1)); clear hf2 hy2 hb2))
    all_goals (go_wp2_with fail)
    all_goals go_meet
    all_goals (first
      | exact ⟨_, ⟨yp, yn, yc, yq, ym, yd, yL, yM⟩, rfl, rfl, Lib.hid (heap_alloc_new _ _), Lib.hid (HF2.out.later ((Below.refl _ _).alloc (Nat.le_refl _) _)), HY2, Lib.hid (HB2.out.alloc HB2.out.size _), Lib.hid HB2.out.size⟩
      | exact ⟨_, ⟨yp, yn, yc, yq, ym, yd, yL, yM⟩, rfl, rfl, Lib.hid (cells2_storedF HZ2.out _ _), Lib.hid (HF2.out.stored HZ2.out.sl2 (stored2_keepF _ _ _ _)), HY2, Lib.hid ((HB2.out.setCell (p := ⟨wA.heap.size, 0, none⟩) (Nat.le_refl _) _).setCell (p := ⟨wA.heap.size, 1, none⟩) (Nat.le_refl _) _), Lib.hid (Nat.le_refl _)⟩)
  case rest =>
    obtain ⟨G, ⟨yp, yn, yc, yq, ym, yd, yL, yM⟩, rfl, rfl, HY, HFY, HYF, HB4, HAG⟩ := hcut
    have HX4 := Lib.hid (HXA.out.later HB4.out)
    have HB5 := Lib.hid (below_step HBA.out HB4.out)
    obtain ⟨i0, i1⟩ := HY.out.cells
    obtain ⟨_, _, c2, c3, _⟩ := HX4.out.cells
    have f2 := HX4.out.frozen 2
    have f3 := HX4.out.frozen 3
    clear HK k0 k1 k0b HD0 HD1 HZa HFA HDO
    by_cases he : er = 0
    · subst he
      go_wp2
      go_ret
      refine ⟨rfl, ⟨⟨yp, yn, yc, yq, ym, yd, yL, yM⟩, ?_⟩, ((Kp.of_below HB5.out).setD _ _).setD _ _, ?_⟩
      · have hk : Kp D M w ((wc.setCell ⟨D, 2, none⟩ (.slice yp yn yc)).setCell ⟨D, 3, none⟩ (.slice yq ym yd)) := ((Kp.of_below HB5.out).setD _ _).setD _ _
        have hk4 : Kp D M wc ((wc.setCell ⟨D, 2, none⟩ (.slice yp yn yc)).setCell ⟨D, 3, none⟩ (.slice yq ym yd)) := ((Kp.refl D M wc).setD _ _).setD _ _
        refine HX.out.refold hk (setF_heap (y := ⟨yp, yn, yc, yq, ym, yd, yL, yM⟩) HX4.out.b) ?_ (HFY.out.kp hk4 HX4.out.nix.1 HX4.out.nix.2) F' HYF.out
        rw [Below.heap_setCell _ _ _ _ (fun e => HX.out.ne e.symm), Below.heap_setCell _ _ _ _ (fun e => HX.out.ne e.symm)]
        exact HB5.out.block M HX.out.m.lt
      · rw [Below.heap_setCell _ _ _ _ (fun e => HX.out.ne e.symm), Below.heap_setCell _ _ _ _ (fun e => HX.out.ne e.symm)]
        exact HB5.out.block M HX.out.m.lt
    · have k : (er == 0) = false := by simpa using he
      have HFF : Hid (F' = d.F) := Lib.hid (HDE.out he)
      clear he
      go_wp2
      go_ret
      refine ⟨rfl, ⟨⟨p, l, cc, q, mm, dd, L, Mc⟩, ?_⟩, Kp.of_below HB5.out, HB5.out.block M HX.out.m.lt⟩
      rw [HFF.out]
      exact HX.out.later HB5.out
end Go.Proofs.YtncbgddgkpaoeaaGreat

namespace Go.Proofs.YtncbgddgkpaoeaaGreat
set_option linter.unusedVariables false
open Go.RowKit Go.Lib Go.Maps

theorem dcur_nil (s : ByteArray) (w : World) : Calls Tryz.prog 59 #[.pointer none, .string s] w fun e w' => e = .returned (.tuple #[.slice none 0 0, .int .i64 1]) ∧ w = w' := by
  go_enter Tryz.func59, Tryz.ntmps59
  go_wp2_with (go_at_call 61; refine (dfault_nil _).mono ?_; rintro e w2 ⟨rfl, rfl⟩)
  go_ret2
  exact ⟨rfl, rfl⟩
set_option maxRecDepth 100000 in
set_option maxHeartbeats 1000000 in
theorem dcur_any {w : World} {D M m : Nat} {d : Dk} {x : Fo} {fu : Int} {g : Int → Option Ni} (h : Dx w D M d x fu g) (ho : d.Ok m) (hm : m ≤ 1048575) (s : ByteArray) (hs : s.size ≤ 1048576) :
    Calls Tryz.prog 59 #[.pointer (some ⟨D, 0, none⟩), .string s] w fun e w' => ∃ p n c, e = .returned (.tuple #[.slice p n c, .int .i64 (bytesP d s).2]) ∧ Bs w' p n (bytesP d s).1 ∧ (p = none → c = 0) ∧ n ≤ c ∧ n ≤ 2097152 ∧ Below w.heap.size w w' := by
  have HX := Lib.hid h
  have HFT := Lib.hid (dfault_any h)
  have HFI := Lib.hid fun W hW => ffind_any x s W hW (by rw [h.fd]; exact ho.fd hm) hs
  have HOI := Lib.hid fun i => ho.fi hm i
  have HIN : Hid (∀ i, findP (nowQ d.F) s = some i → InI i) := Lib.hid fun i hi => by
    have := ho.low i (find_ids hi)
    have := ho.last
    unfold InI; omega
  have HB : Hid (bytesP d s = (if d.off then (([] : List Int), (11 : Int)) else match findP (nowQ d.F) s with | none => ([], 6) | some i => (nowP (atK d.K i), 0))) := Lib.hid rfl
  rw [h.fd] at HFI
  generalize bytesP d s = B at *
  obtain ⟨p, l, cc, q, mm, dd, L, Mc⟩ := x
  obtain ⟨_, _, c2, c3, c4, _, _, c7, _⟩ := h.cells
  unfold Fo.v at HFI
  dsimp only at HFI
  clear h ho
  cases ho : d.off
  · rw [ho] at HB HFT c7
    simp only [Bool.false_eq_true, if_false] at HB HFT
    cases hf : findP (nowQ d.F) s with
    | none =>
      rw [hf] at HB HFI
      have HB := Lib.hid HB.out
      unfold fndV at HFI
      simp only [Option.getD_none, Option.isSome_none] at HFI
      clear ho hf
      go_enter Tryz.func59, Tryz.ntmps59
      go_wp2_with (first
        | (go_at_call 61; refine HFT.out.mono ?_; rintro e w2 ⟨rfl, rfl⟩)
        | (go_at_call 87; refine (HFI.out _ HX.out.f).mono ?_; rintro e w3 ⟨rfl, hb3⟩; have HB3 := Lib.hid hb3; clear hb3))
      go_ret2
      rw [HB.out]
      exact ⟨none, 0, 0, rfl, Bs.empty _ _, fun _ => rfl, Nat.le_refl _, by omega, HB3.out⟩
    | some i =>
      rw [hf] at HB HFI
      have HB : Hid (B = (nowP (atK d.K i), 0)) := Lib.hid HB.out
      have HI := Lib.hid (HIN.out i hf)
      unfold fndV at HFI
      simp only [Option.getD_some, Option.isSome_some] at HFI
      have HNI := Lib.hid (HX.out.n.fit i)
      have HNF := Lib.hid (fi_at HX.out.k i)
      have HNO : Hid (((g i).getD ni0).fi.ok) := Lib.hid (by rw [HNF.out]; exact HOI.out i)
      have HNW := Lib.hid fun W hW => inow_any ((g i).getD ni0) W hW HNO.out
      rw [HNF.out] at HNW
      have HNL : Hid ((nowP (atK d.K i)).length ≤ 2097152) := Lib.hid (nowP_bound (HOI.out i))
      clear ho hf
      go_enter Tryz.func59, Tryz.ntmps59
      go_wp2_with (first
        | (go_at_call 61; refine HFT.out.mono ?_; rintro e w2 ⟨rfl, rfl⟩)
        | (go_at_call 87; refine (HFI.out _ HX.out.f).mono ?_; rintro e w3 ⟨rfl, hb3⟩; have HB3 := Lib.hid hb3; have HX3 := Lib.hid (HX.out.later hb3); clear c2 c3 c4 c7; obtain ⟨_, _, _, _, c4, _⟩ := HX3.out.cells; clear hb3)
        | (at_lookup; refine wpList_lookI rfl _ _ rfl M d.K.length g i rfl HX3.out.m rfl HI.out ?_)
        | (go_at_call 89; refine (HNW.out _ (HNI.out.later HB3.out)).mono ?_; rintro e w4 ⟨v4, rfl, ho4, hb4⟩; obtain ⟨p4, c4', hv4, hlc4, _, hbs4, hpn4⟩ := ho4.open; subst hv4; have HB4 := Lib.hid (below_step HB3.out hb4); have HBS := Lib.hid hbs4; have HPN := Lib.hid hpn4; have HLC := Lib.hid hlc4; clear ho4 hb4 hbs4 hpn4 hlc4))
      go_ret2
      rw [HB.out]
      exact ⟨p4, _, c4', rfl, HBS.out, HPN.out, HLC.out, HNL.out, HB4.out⟩
  · rw [ho] at HB HFT c7
    simp only [if_true] at HB HFT
    clear ho
    go_enter Tryz.func59, Tryz.ntmps59
    go_wp2_with (go_at_call 61; refine HFT.out.mono ?_; rintro e w2 ⟨rfl, rfl⟩)
    go_ret2
    rw [HB.out]
    exact ⟨none, 0, 0, rfl, Bs.empty _ _, fun _ => rfl, Nat.le_refl _, by omega, Below.refl _ _⟩
theorem dsize_nil (s : ByteArray) (w : World) : Calls Tryz.prog 19 #[.pointer none, .string s] w fun e w' => e = .returned (.tuple #[.int .i64 0, .int .i64 1]) ∧ w = w' := by
  go_enter Tryz.func19, Tryz.ntmps19
  go_wp2_with (go_at_call 59; refine (dcur_nil _ _).mono ?_; rintro e w2 ⟨rfl, rfl⟩)
  go_ret2
  exact ⟨rfl, rfl⟩
theorem dsize_any {w : World} {D M m : Nat} {d : Dk} {x : Fo} {fu : Int} {g : Int → Option Ni} (h : Dx w D M d x fu g) (ho : d.Ok m) (hm : m ≤ 1048575) (s : ByteArray) (hs : s.size ≤ 1048576) :
    Calls Tryz.prog 19 #[.pointer (some ⟨D, 0, none⟩), .string s] w fun e w' => e = .returned (.tuple #[.int .i64 ((bytesP d s).1.length : Int), .int .i64 (bytesP d s).2]) ∧ Below w.heap.size w w' := by
  have HC := Lib.hid (dcur_any h ho hm s hs)
  generalize bytesP d s = B at *
  clear h ho
  go_enter Tryz.func19, Tryz.ntmps19
  go_wp2_with (go_at_call 59; refine HC.out.mono ?_; rintro e w2 ⟨p, n, c, rfl, hb, _, _, _, hb2⟩; have HL := Lib.hid hb.1; have HB2 := Lib.hid hb2; clear hb hb2)
  go_ret2
  exact ⟨by rw [HL.out]; rfl, HB2.out⟩
end Go.Proofs.YtncbgddgkpaoeaaGreat

namespace Go.Proofs.YtncbgddgkpaoeaaGreat
set_option linter.unusedVariables false
open Go.RowKit Go.Lib Go.Maps

theorem dc_cells {w : World} {D M : Nat} {d : Dk} {x : Fo} {fu : Int} {t : TypeId} {fr : Nat × Nat} (h : w.heap[D]? = some (.cells (dcells d x M fu) t fr)) :
    w.cell? ⟨D, 0, none⟩ = some (.int .i64 d.lb) ∧ w.cell? ⟨D, 1, none⟩ = some (.int .i64 d.lf) ∧ w.cell? ⟨D, 2, none⟩ = some (.slice x.p x.n x.c) ∧ w.cell? ⟨D, 3, none⟩ = some (.slice x.q x.m x.d) ∧ w.cell? ⟨D, 4, none⟩ = some (.map (some M)) ∧
    w.cell? ⟨D, 5, none⟩ = some (.int .i64 d.last) ∧ w.cell? ⟨D, 6, none⟩ = some (.int .i64 fu) ∧ w.cell? ⟨D, 7, none⟩ = some (.bool d.off) ∧ w.cell? ⟨D, 8, none⟩ = some (.int .i64 d.calls) := by
  have hc : ∀ j, w.cell? ⟨D, j, none⟩ = (dcells d x M fu)[j]? := fun j => cell_of_row _ _ _ _ _ _ h
  refine ⟨?_, ?_, ?_, ?_, ?_, ?_, ?_, ?_, ?_⟩ <;> (rw [hc]; rfl)
section
variable {w : World} {D M : Nat} {d : Dk} {x : Fo} {fu : Int}
theorem setLast_heap (h : w.heap[D]? = some (.cells (dcells d x M fu) 66 (0, 0))) (v : Int) : (w.setCell ⟨D, 5, none⟩ (.int .i64 v)).heap[D]? = some (.cells (dcells { d with last := v } x M fu) 66 (0, 0)) := by
  rw [heap_setCell_same _ D 5 _ _ _ h]; rfl
theorem setFuse_heap (h : w.heap[D]? = some (.cells (dcells d x M fu) 66 (0, 0))) (v : Int) : (w.setCell ⟨D, 6, none⟩ (.int .i64 v)).heap[D]? = some (.cells (dcells d x M v) 66 (0, 0)) := by
  rw [heap_setCell_same _ D 6 _ _ _ h]; rfl
theorem setOff_heap (h : w.heap[D]? = some (.cells (dcells d x M fu) 66 (0, 0))) (v : Bool) : (w.setCell ⟨D, 7, none⟩ (.bool v)).heap[D]? = some (.cells (dcells { d with off := v } x M fu) 66 (0, 0)) := by
  rw [heap_setCell_same _ D 7 _ _ _ h]; rfl
theorem setCalls_heap (h : w.heap[D]? = some (.cells (dcells d x M fu) 66 (0, 0))) (v : Int) : (w.setCell ⟨D, 8, none⟩ (.int .i64 v)).heap[D]? = some (.cells (dcells { d with calls := v } x M fu) 66 (0, 0)) := by
  rw [heap_setCell_same _ D 8 _ _ _ h]; rfl
end
/-- a disk whose numbers have turned alone -/
theorem Dx.renum {w w' : World} {D M : Nat} {d d' : Dk} {x : Fo} {fu fu' : Int} {g : Int → Option Ni} (h : Dx w D M d x fu g) (hk : Kp D M w w') (hb : w'.heap[D]? = some (.cells (dcells d' x M fu') 66 (0, 0))) (hm : w'.heap[M]? = w.heap[M]?) (hF : d'.F = d.F) (hK : d'.K = d.K) (hu : normF fu' = d'.fuse) (hui : InI fu') :
    Dx w' D M d' x fu' g :=
  ⟨hb, h.f.kp hk h.nix.1 h.nix.2, h.fd.trans hF.symm, by rw [hK]; exact h.m.same hm, h.n.kp hk h.nix.1 h.nix.2, by rw [hK]; exact h.k, hu, hui⟩
theorem fuse_zero {fu f : Int} (h : normF fu = f) : (fu == 0) = decide (f = 0) := by
  subst h
  unfold normF
  by_cases h1 : fu < 0
  · rw [if_pos h1]
    have : fu ≠ 0 := by omega
    simp [this]
  · rw [if_neg h1]
    rfl
theorem dperform_nil (F : FuncId) (caps : Array Value) (w : World) : Calls Tryz.prog 48 #[.pointer none, .func (.func F) #[] caps] w fun e w' => e = .returned (.int .i64 1) ∧ w = w' := by
  go_enter Tryz.func48, Tryz.ntmps48
  go_wp2
  go_ret
  exact ⟨rfl, rfl⟩
set_option maxRecDepth 100000 in
theorem dperform_down {w : World} {D M : Nat} {d : Dk} {x : Fo} {fu : Int} {g : Int → Option Ni} (h : Dx w D M d x fu g) (hd : downP d = true) (F : FuncId) (caps : Array Value) :
    Calls Tryz.prog 48 #[.pointer (some ⟨D, 0, none⟩), .func (.func F) #[] caps] w fun e w' => e = .returned (.int .i64 11) ∧ (∃ x' fu' g', Dx w' D M (offP d) x' fu' g') ∧ Kp D M w w' := by
  obtain ⟨_, _, _, _, _, _, c6, c7, _⟩ := h.cells
  have f7 := h.frozen 7
  have hz := fuse_zero h.u
  have HX := Lib.hid h
  by_cases h0 : d.fuse = 0
  · rw [decide_eq_true h0] at hz
    have HS : Hid ((w.setCell ⟨D, 7, none⟩ (.bool true)).heap[D]? = some (.cells (dcells (offP d) x M fu) 66 (0, 0))) := Lib.hid (setOff_heap h.b true)
    obtain ⟨wS, hS⟩ : ∃ W, w.setCell ⟨D, 7, none⟩ (.bool true) = W := ⟨_, rfl⟩
    have HK : Hid (Kp D M w wS) := Lib.hid (by rw [← hS]; exact (Kp.refl _ _ _).setD _ _)
    have HM : Hid (wS.heap[M]? = w.heap[M]?) := Lib.hid (by rw [← hS, Below.heap_setCell _ _ _ _ (fun e => h.ne e.symm)])
    rw [hS] at HS
    have c7' : wS.cell? ⟨D, 7, none⟩ = some (.bool true) := (dc_cells HS.out).2.2.2.2.2.2.2.1
    clear h hd h0
    go_enter Tryz.func48, Tryz.ntmps48
    go_wp2
    go_ret
    exact ⟨rfl, ⟨x, fu, g, HX.out.renum HK.out HS.out HM.out rfl rfl HX.out.u HX.out.ui⟩, HK.out⟩
  · rw [decide_eq_false h0] at hz
    have hoff : d.off = true := by
      unfold downP at hd
      rw [decide_eq_false h0, Bool.or_false] at hd
      exact hd
    rw [hoff] at c7
    have HO : Hid (offP d = d) := Lib.hid (by obtain ⟨a, b, c, e, f, gg, o, i⟩ := d; dsimp only at hoff; subst hoff; rfl)
    clear h hd h0 hoff
    go_enter Tryz.func48, Tryz.ntmps48
    go_wp2
    go_ret
    exact ⟨rfl, by rw [HO.out]; exact ⟨x, fu, g, HX.out⟩, Kp.refl _ _ _⟩
set_option maxRecDepth 100000 in
theorem dperform_up {w : World} {D M m : Nat} {d : Dk} {x : Fo} {fu : Int} {g : Int → Option Ni} (h : Dx w D M d x fu g) (ho : d.Ok m) (hm : m ≤ 1048575) (hd : downP d = false) (F : FuncId) (hE : ∀ args w, (callFunc F args).run Tryz.prog w = .ok (.enter F args) w) (caps : Array Value) (R : Ending → World → Prop) (hR : ∀ e w', R e w' → ∃ v, e = .returned v)
    (HC : ∀ w1 fu1, Dx w1 D M (tickP d) x fu1 g → Kp D M w w1 → Calls Tryz.prog F caps w1 R) :
    Calls Tryz.prog 48 #[.pointer (some ⟨D, 0, none⟩), .func (.func F) #[] caps] w R := by
  obtain ⟨_, _, _, _, _, _, c6, c7, c8⟩ := h.cells
  have f8 := h.frozen 8
  have hz := fuse_zero h.u
  have HX := Lib.hid h
  have HCC := Lib.hid HC
  have HR := Lib.hid hR
  unfold downP at hd
  rw [Bool.or_eq_false_iff] at hd
  obtain ⟨hoff, h0⟩ := hd
  rw [h0] at hz
  rw [hoff] at c7
  have hcl : 0 ≤ d.calls ∧ d.calls ≤ 1048575 := by have := ho.calls0; have := ho.calls; omega
  have HS : Hid ((w.setCell ⟨D, 8, none⟩ (.int .i64 (d.calls + 1))).heap[D]? = some (.cells (dcells { d with calls := d.calls + 1 } x M fu) 66 (0, 0))) := Lib.hid (setCalls_heap h.b _)
  generalize hcc : d.calls = cc at *
  obtain ⟨wS, hS⟩ : ∃ W, w.setCell ⟨D, 8, none⟩ (.int .i64 (cc + 1)) = W := ⟨_, rfl⟩
  have HK : Hid (Kp D M w wS) := Lib.hid (by rw [← hS]; exact (Kp.refl _ _ _).setD _ _)
  have HM : Hid (wS.heap[M]? = w.heap[M]?) := Lib.hid (by rw [← hS, Below.heap_setCell _ _ _ _ (fun e => h.ne e.symm)])
  rw [hS] at HS
  have c6' : wS.cell? ⟨D, 6, none⟩ = some (.int .i64 fu) := (dc_cells HS.out).2.2.2.2.2.2.1
  have f6' : wS.frozen? ⟨D, 6, none⟩ = false := frozen_of_row wS D 6 _ _ HS.out
  have hui := h.ui
  unfold InI at hui
  have HCC2 := Lib.hid hcc
  clear h ho HC hR h0 hoff hcc
  by_cases hp : 0 < fu
  · have HS2 : Hid ((wS.setCell ⟨D, 6, none⟩ (.int .i64 (fu - 1))).heap[D]? = some (.cells (dcells (tickP d) x M (fu - 1)) 66 (0, 0))) := Lib.hid (by rw [setFuse_heap HS.out]; unfold dcells tickP; rw [HCC2.out])
    have HK2 : Hid (Kp D M w (wS.setCell ⟨D, 6, none⟩ (.int .i64 (fu - 1)))) := Lib.hid (HK.out.setD _ _)
    have HM2 : Hid ((wS.setCell ⟨D, 6, none⟩ (.int .i64 (fu - 1))).heap[M]? = w.heap[M]?) := Lib.hid (by rw [Below.heap_setCell _ _ _ _ (fun e => HX.out.ne e.symm)]; exact HM.out)
    have HU : Hid (normF (fu - 1) = (tickP d).fuse) := Lib.hid (by
      have h1 := HX.out.u
      unfold normF at h1
      rw [if_neg (by omega)] at h1
      unfold normF tickP
      dsimp only
      rw [if_neg (by omega), if_pos (by omega)]
      omega)
    have HUI : Hid (InI (fu - 1)) := Lib.hid (by unfold InI; omega)
    go_enter Tryz.func48, Tryz.ntmps48
    go_wp2_with fail
    refine (HCC.out _ _ (HX.out.renum HK2.out HS2.out HM2.out rfl rfl HU.out HUI.out) HK2.out).mono ?_
    intro e w' hr
    obtain ⟨v, rfl⟩ := HR.out e w' hr
    have HRR := Lib.hid hr
    clear hr
    go_wp2
    exact HRR.out
  · have HU : Hid (normF fu = (tickP d).fuse) := Lib.hid (by
      have h1 := HX.out.u
      rw [h1]
      unfold normF at h1
      unfold tickP
      dsimp only
      split at h1 <;> rw [if_neg (by omega)])
    have HS2 : Hid (wS.heap[D]? = some (.cells (dcells (tickP d) x M fu) 66 (0, 0))) := Lib.hid (by rw [HS.out]; unfold dcells tickP; rw [HCC2.out])
    go_enter Tryz.func48, Tryz.ntmps48
    go_wp2_with fail
    refine (HCC.out _ _ (HX.out.renum HK.out HS2.out HM.out rfl rfl HU.out HX.out.ui) HK.out).mono ?_
    intro e w' hr
    obtain ⟨v, rfl⟩ := HR.out e w' hr
    have HRR := Lib.hid hr
    clear hr
    go_wp2
    exact HRR.out
end Go.Proofs.YtncbgddgkpaoeaaGreat

namespace Go.Proofs.YtncbgddgkpaoeaaGreat
set_option linter.unusedVariables false
open Go.RowKit Go.Lib Go.Maps

set_option maxRecDepth 100000 in
theorem put_run {w : World} {M n : Nat} {g : Int → Option Ni} (h : Mi w M n g) (hn : n ≤ 4194304) (i : Int) (hi : InI i) (y : Ni) :
    ∃ w', (Instr.mapUpdate TD (.map (some M)) (.int .i64 i) y.v).run Tryz.prog w = .ok () w' ∧ Mi w' M (n + 1) (fun j => if j = i then some y else g j) ∧ w.grownBy w' (some M) := by
  obtain ⟨h0, D, hown, hd⟩ := h
  obtain ⟨w', hrun, ho, ht⟩ := hown.store lawI undD (by unfold maxLen; omega) (keyI_of hi) (RV_ni y)
  refine ⟨w', hrun, ⟨fun t j hj => ?_, _, ho, fun t ht => ?_⟩, ht.grown⟩
  · dsimp only at hj
    split at hj
    · rename_i e
      subst e
      exact hi
    · exact h0 t j hj
  · dsimp only
    by_cases e : t = i
    · subst e
      rw [if_pos rfl]
      refine ⟨has_put_same hown.isMap (keyI_is hi) _, fun j hj z => ?_⟩
      simp only [Option.some.injEq] at hj
      subst hj
      exact atKey_put_same hown.isMap (keyI_is hi) _ z
    · rw [if_neg e, has_put_other (keyI_ne e)]
      exact ⟨(hd t ht).1, fun j hj z => by rw [atKey_put_other (keyI_ne e)]; exact (hd t ht).2 j hj z⟩
theorem set_get {g : Int → Option Ni} {K : List Kt} (hk : ∀ i, (g i).map Ni.fi = getK K i) {i : Int} (hi : i ∈ idK K) (y : Ni) (j : Int) : (if j = i then some y else g j).map Ni.fi = getK (setK K i y.fi) j := by
  rw [getK_set y.fi hi]
  by_cases e : j = i
  · rw [if_pos e, if_pos e]; rfl
  · rw [if_neg e, if_neg e, hk j]
/-- a disk of whose files one has turned -/
theorem Dx.put {w w' : World} {D M n : Nat} {d : Dk} {x : Fo} {fu : Int} {g : Int → Option Ni} (h : Dx w D M d x fu g) (hK : irises (idK d.K)) {i : Int} (hi : i ∈ idK d.K) {y : Ni} (hy : Ni.fit w y) (hm : Mi w' M n (fun j => if j = i then some y else g j)) (hg : w.grownBy w' (some M)) :
    Dx w' D M { d with K := setK d.K i y.fi } x fu (fun j => if j = i then some y else g j) := by
  have hk : Kp D M w w' := (Kp.refl D M w).map hg
  refine ⟨by rw [hg.block D h.lt (fun e => h.ne (by simpa using e))]; exact h.b, h.f.kp hk h.nix.1 h.nix.2, h.fd, hm.exact (by rw [idK_set]; exact hK) (set_get h.k hi y), fun j z hz => ?_, set_get h.k hi y, h.u, h.ui⟩
  split at hz
  · obtain rfl := Option.some.inj hz
    exact hy.kp hk h.nix.1 h.nix.2
  · exact (h.n j z hz).kp hk h.nix.1 h.nix.2

set_option maxRecDepth 100000 in
set_option maxHeartbeats 1000000 in
theorem dedit1_any {w : World} {D M m : Nat} {d : Dk} {x : Fo} {fu : Int} {g : Int → Option Ni} (h : Dx w D M d x fu g) (ho : d.Ok m) (hm : m ≤ 1048575) (s : ByteArray) (hs : s.size ≤ 1048576) (F : FuncId) (hE : ∀ args w, (callFunc F args).run Tryz.prog w = .ok (.enter F args) w) (a b : Value) (gf : Fi → Fi × Int)
    (HC : ∀ w1 (y : Ni), Below w.heap.size w w1 → Ni.fit w1 y → (∃ i, y.fi = atK d.K i) → Calls Tryz.prog F #[y.v, a, b] w1 fun e w' => ∃ z : Ni, e = .returned (.tuple #[z.v, .int .i64 (gf y.fi).2]) ∧ Ni.fit w' z ∧ z.fi = (gf y.fi).1 ∧ Below w1.heap.size w1 w')
    (bd bn bc : Nat) (hbd : w.cell? ⟨bd, 0, none⟩ = some (.pointer (some ⟨D, 0, none⟩))) (hbn : w.cell? ⟨bn, 0, none⟩ = some (.string s)) (hbc : w.cell? ⟨bc, 0, none⟩ = some (.func (.func F) #[] #[a, b])) :
    Calls Tryz.prog 86 #[.pointer (some ⟨bd, 0, none⟩), .pointer (some ⟨bn, 0, none⟩), .pointer (some ⟨bc, 0, none⟩)] w fun e w' => e = .returned (.int .i64 (editP d s gf).2) ∧ Dw w' D M (editP d s gf).1 ∧ Kp D M w w' := by
  have HX := Lib.hid h
  have HCC := Lib.hid HC
  have HFI := Lib.hid fun W hW => ffind_any x s W hW (by rw [h.fd]; exact ho.fd hm) hs
  have HIN : Hid (∀ i, findP (nowQ d.F) s = some i → InI i ∧ i ∈ idK d.K) := Lib.hid fun i hi => by
    have h1 := ho.low i (find_ids hi)
    have h2 := ho.last
    exact ⟨by unfold InI; omega, by rw [ho.ids]; exact find_ids hi⟩
  have HOI := Lib.hid ho.rises
  have HKL := Lib.hid ho.klen
  have HEP : Hid (editP d s gf = match findP (nowQ d.F) s with | none => (d, 6) | some i => if (gf (atK d.K i)).2 = 0 then ({ d with K := setK d.K i (gf (atK d.K i)).1 }, 0) else (d, (gf (atK d.K i)).2)) := Lib.hid rfl
  rw [h.fd] at HFI
  generalize editP d s gf = B at *
  have HK : Hid (∀ W, Below w.heap.size w W → W.cell? ⟨bd, 0, none⟩ = some (.pointer (some ⟨D, 0, none⟩)) ∧ W.cell? ⟨bn, 0, none⟩ = some (.string s) ∧ W.cell? ⟨bc, 0, none⟩ = some (.func (.func F) #[] #[a, b]) ∧ W.cell? ⟨D, 2, none⟩ = some (.slice x.p x.n x.c) ∧ W.cell? ⟨D, 3, none⟩ = some (.slice x.q x.m x.d) ∧ W.cell? ⟨D, 4, none⟩ = some (.map (some M))) := Lib.hid fun W hW => by
    obtain ⟨_, _, c2, c3, c4, _⟩ := (h.later hW).cells
    have e : ∀ {k : Nat} {v : Value}, w.cell? ⟨k, 0, none⟩ = some v → W.cell? ⟨k, 0, none⟩ = some v := fun hv => by rw [hW.cell (World.block_lt_of_cell? w _ hv)]; exact hv
    exact ⟨e hbd, e hbn, e hbc, c2, c3, c4⟩
  obtain ⟨p, l, cc, q, mm, dd, L, Mc⟩ := x
  unfold Fo.v at HFI
  dsimp only at HFI HK
  have HD0 : Hid (Below w.heap.size w w.drew) := Lib.hid ((Below.refl _ _).drew)
  have k0 := HK.out _ (Below.refl _ _)
  have k1 := HK.out _ HD0.out
  clear h ho hbd hbn hbc HC
  cases hf : findP (nowQ d.F) s with
  | none =>
    rw [hf] at HEP HFI
    have HEP := Lib.hid HEP.out
    unfold fndV at HFI
    simp only [Option.getD_none, Option.isSome_none] at HFI
    clear hf
    go_enter Tryz.func86, Tryz.ntmps86
    go_wp2_with fail
    go_region_held3 (fun W => W.cell? ⟨bd, 0, none⟩ = some (.pointer (some ⟨D, 0, none⟩)) ∧ W.cell? ⟨bn, 0, none⟩ = some (.string s) ∧ W.cell? ⟨bc, 0, none⟩ = some (.func (.func F) #[] #[a, b]) ∧ W.cell? ⟨D, 2, none⟩ = some (.slice p l cc) ∧ W.cell? ⟨D, 3, none⟩ = some (.slice q mm dd) ∧ W.cell? ⟨D, 4, none⟩ = some (.map (some M))) (first | exact k0 | exact k1 | exact k2) (first
      | (go_at_call 87; refine (HFI.out _ (HX.out.f.later HD0.out)).mono ?_; rintro e w2 ⟨rfl, hb2⟩; have HB2 : Hid (Below w.heap.size w w2) := Lib.hid (below_step HD0.out hb2); have k2 := HK.out _ HB2.out; clear hb2))
    go_wp2
    go_ret
    rw [HEP.out]
    exact ⟨rfl, ⟨_, _, _, HX.out.later HB2.out⟩, Kp.of_below HB2.out⟩
  | some i =>
    rw [hf] at HEP HFI
    have HEP : Hid (B = if (gf (atK d.K i)).2 = 0 then ({ d with K := setK d.K i (gf (atK d.K i)).1 }, 0) else (d, (gf (atK d.K i)).2)) := Lib.hid HEP.out
    obtain ⟨hiI, hiK⟩ := HIN.out i hf
    have HI := Lib.hid hiI
    have HIK := Lib.hid hiK
    unfold fndV at HFI
    simp only [Option.getD_some, Option.isSome_some] at HFI
    have HNI := Lib.hid (HX.out.n.fit i)
    have HNF := Lib.hid (fi_at HX.out.k i)
    have HLK := Lib.hid fun W (hW : Below w.heap.size w W) => look_run (HX.out.m.later hW) i hiI
    have HCI := Lib.hid fun W (hW : Below w.heap.size w W) => HCC.out W ((g i).getD ni0) hW (HNI.out.later hW) ⟨i, HNF.out⟩
    rw [HNF.out] at HCI
    generalize (g i).getD ni0 = y0 at *
    obtain ⟨yp, yn, yc, yq, ym, yd, yz, yL⟩ := y0
    unfold Ni.v at HLK HCI
    dsimp only at HLK HCI
    obtain ⟨er, her⟩ : ∃ e, (gf (atK d.K i)).2 = e := ⟨_, rfl⟩
    obtain ⟨Z, hZ⟩ : ∃ e, (gf (atK d.K i)).1 = e := ⟨_, rfl⟩
    rw [her, hZ] at HEP HCI
    clear hf hiI hiK her hZ HIN HCC
    go_enter Tryz.func86, Tryz.ntmps86
    go_wp2_with fail
    go_region_held3 (fun W => W.cell? ⟨bd, 0, none⟩ = some (.pointer (some ⟨D, 0, none⟩)) ∧ W.cell? ⟨bn, 0, none⟩ = some (.string s) ∧ W.cell? ⟨bc, 0, none⟩ = some (.func (.func F) #[] #[a, b]) ∧ W.cell? ⟨D, 2, none⟩ = some (.slice p l cc) ∧ W.cell? ⟨D, 3, none⟩ = some (.slice q mm dd) ∧ W.cell? ⟨D, 4, none⟩ = some (.map (some M))) (first | exact k0 | exact k1 | exact k2) (first
      | (go_at_call 87; refine (HFI.out _ (HX.out.f.later HD0.out)).mono ?_; rintro e w2 ⟨rfl, hb2⟩; have HB2 : Hid (Below w.heap.size w w2) := Lib.hid (below_step HD0.out hb2); have k2 := HK.out _ HB2.out; clear hb2))
    clear k0 k1
    have HDa : Hid (Below w2.heap.size w2 w2.drew) := Lib.hid ((Below.refl _ _).drew)
    have HBa : Hid (Below w.heap.size w w2.drew) := Lib.hid (below_step HB2.out HDa.out)
    have HBb : Hid (Below w.heap.size w (w2.alloc (.cells #[.slice none 0 0, .slice none 0 0] 73)).drew) := Lib.hid ((HB2.out.alloc HB2.out.size _).drew)
    have HDb : Hid (Below w2.heap.size w2 (w2.alloc (.cells #[.slice none 0 0, .slice none 0 0] 73)).drew) := Lib.hid (((Below.refl _ _).alloc (Nat.le_refl _) _).drew)
    have HZa : Hid (Iw (w2.alloc (.cells #[.slice none 0 0, .slice none 0 0] 73)).drew w2.heap.size ni0) := Lib.hid (heap_alloc_new w2 _)
    have ka := HK.out _ HBa.out
    have kb := HK.out _ HBb.out
    have la := HLK.out _ HBa.out
    have lb := HLK.out _ HBb.out
    have HW2 : Hid (w.heap.size ≤ w2.heap.size) := Lib.hid HB2.out.size
    go_wp2_with fail
    go_upto_region 4 with fail
    go_cut [6, 7] (fun f e wx => ∃ (G : Nat) (y : Ni), f = .pointer (some ⟨G, 0, none⟩) ∧ e = .int .i64 er ∧ Hid (Iw wx G y) ∧ Hid (Ni.fit wx y) ∧ Hid (y.fi = Z) ∧ Hid (Below w.heap.size w wx) ∧ Hid (w.heap.size ≤ G))
    case first =>
      go_region_held3 (fun W => W.cell? ⟨bd, 0, none⟩ = some (.pointer (some ⟨D, 0, none⟩)) ∧ W.cell? ⟨bn, 0, none⟩ = some (.string s) ∧ W.cell? ⟨bc, 0, none⟩ = some (.func (.func F) #[] #[a, b]) ∧ W.cell? ⟨D, 2, none⟩ = some (.slice p l cc) ∧ W.cell? ⟨D, 3, none⟩ = some (.slice q mm dd) ∧ W.cell? ⟨D, 4, none⟩ = some (.map (some M))) (first | exact k2 | exact ka | exact kb | exact k3 | exact k3b | exact k3c | exact k3d) (first
        | (refine (HCI.out _ (by first | exact HBa.out | exact HBb.out)).mono ?_; rintro e w3 ⟨⟨zp, zn, zc, zq, zm, zd, zz, zL⟩, rfl, hf3, hz3, hb3⟩; have HF3 := Lib.hid hf3; have HZ3 := Lib.hid hz3; have HB3 : Hid (Below w.heap.size w w3) := Lib.hid (by first | exact below_step HBa.out hb3 | exact below_step HBb.out hb3); have HB3G : Hid (Below w2.heap.size w2 w3) := Lib.hid (by first | exact below_step HDa.out hb3 | exact below_step HDb.out hb3); have k3 := HK.out _ HB3.out; have k3b := HK.out _ (HB3.out.alloc HB3.out.size (.cells #[.slice none 0 0, .slice none 0 0] 73)); have k3c := HK.out _ (HB3.out.alloc HB3.out.size (.cells #[.slice zp zn zc, .slice zq zm zd] 73)); have k3d := HK.out _ ((HB3.out.setCell (p := ⟨w2.heap.size, 0, none⟩) HW2.out (.slice zp zn zc)).setCell (p := ⟨w2.heap.size, 1, none⟩) HW2.out (.slice zq zm zd)); (try (have HZ4 := Lib.hid (HZa.out.later hb3); obtain ⟨z0, z1⟩ := HZ4.out.cells; have f0 := HZ4.out.frozen 0; have f1 := HZ4.out.frozen 1)); clear hf3 hz3 hb3))
      all_goals (go_wp2_with fail)
      all_goals go_meet
      all_goals (first
        | exact ⟨_, ⟨zp, zn, zc, zq, zm, zd, zz, zL⟩, rfl, rfl, Lib.hid (heap_alloc_new _ _), Lib.hid (HF3.out.later ((Below.refl _ _).alloc (Nat.le_refl _) _)), HZ3, Lib.hid (HB3.out.alloc HB3.out.size _), Lib.hid HB3.out.size⟩
        | exact ⟨_, ⟨zp, zn, zc, zq, zm, zd, zz, zL⟩, rfl, rfl, Lib.hid (cells2_stored HZ4.out _ _), Lib.hid (HF3.out.stored HZ4.out.sl2 (stored2_keep _ _ _ _)), HZ3, Lib.hid ((HB3.out.setCell (p := ⟨w2.heap.size, 0, none⟩) HW2.out _).setCell (p := ⟨w2.heap.size, 1, none⟩) HW2.out _), HW2⟩)
    case rest =>
      obtain ⟨G, ⟨zp, zn, zc, zq, zm, zd, zz, zL⟩, rfl, rfl, HY, HFY, HYF, HB4, HAG⟩ := hcut
      have kc := HK.out _ HB4.out
      obtain ⟨i0, i1⟩ := HY.out.cells
      have HX4 := Lib.hid (HX.out.later HB4.out)
      have HD4 : Hid (Below wc.heap.size wc wc.drew) := Lib.hid ((Below.refl _ _).drew)
      have HX5 := Lib.hid (HX4.out.later HD4.out)
      have kd := HK.out _ (below_step HB4.out HD4.out)
      have HY5 := Lib.hid (HY.out.later HD4.out)
      obtain ⟨j0, j1⟩ := HY5.out.cells
      have HKN : Hid (d.K.length ≤ 4194304) := Lib.hid (by have := HKL.out; omega)
      clear HK k2 ka kb la lb HLK HCI HZa HBa HBb HDa HDb HKL
      by_cases he : er = 0
      · have HEP0 : Hid (B = ({ d with K := setK d.K i Z }, 0)) := Lib.hid (by rw [HEP.out, if_pos he])
        clear HEP
        subst he
        obtain ⟨w5, hrun, hm5, hg5⟩ := put_run HX5.out.m HKN.out i HI.out ⟨zp, zn, zc, zq, zm, zd, zz, zL⟩
        have HM5 := Lib.hid hm5
        have HG5 := Lib.hid hg5
        unfold Ni.v at hrun
        dsimp only at hrun
        clear hm5 hg5
        go_wp2_with fail
        go_region
        all_goals (try go_wp2)
        all_goals go_ret
        all_goals (
          rw [HEP0.out]
          have hput := HX5.out.put HOI.out HIK.out (y := ⟨zp, zn, zc, zq, zm, zd, zz, zL⟩) (HFY.out.later HD4.out) HM5.out HG5.out
          rw [HYF.out] at hput
          exact ⟨rfl, ⟨_, _, _, hput⟩, ((Kp.of_below HB4.out).drew).map HG5.out⟩)
      · have k : (er == 0) = false := by simpa using he
        have HEP : Hid (B = (d, er)) := Lib.hid (by rw [HEP.out, if_neg he])
        clear he
        go_wp2
        go_ret
        rw [HEP.out]
        exact ⟨rfl, ⟨_, _, _, HX4.out⟩, Kp.of_below HB4.out⟩
end Go.Proofs.YtncbgddgkpaoeaaGreat

namespace Go.Proofs.YtncbgddgkpaoeaaGreat
set_option linter.unusedVariables false
open Go.RowKit Go.Lib Go.Maps

theorem cell_alloc1 (w : World) (v : Value) (t : TypeId) (hv : v.oneCell' = true) : (w.alloc (.cells #[v] t)).cell? ⟨w.heap.size, 0, none⟩ = some v := by
  rw [cell_of_row _ _ _ _ _ _ (heap_alloc_new _ _)]; rfl
/-- a captured variable's cell, kept -/
theorem cell_kp {D M : Nat} {w w' : World} {k : Nat} {v : Value} (h : w.cell? ⟨k, 0, none⟩ = some v) (hk : Kp D M w w') (h1 : k ≠ D) (h2 : k ≠ M) : w'.cell? ⟨k, 0, none⟩ = some v := by
  rw [World.cell?_of_block (w := w) (hk.block k (World.block_lt_of_cell? w _ h) h1 h2)]; exact h
theorem cell_below {w w' : World} {k : Nat} {v : Value} (h : w.cell? ⟨k, 0, none⟩ = some v) (hb : Below w.heap.size w w') : w'.cell? ⟨k, 0, none⟩ = some v := by
  rw [hb.cell (World.block_lt_of_cell? w _ h)]; exact h

set_option maxRecDepth 100000 in
set_option maxHeartbeats 1000000 in
theorem dedit_any {w : World} {D M m : Nat} {d : Dk} {x : Fo} {fu : Int} {g : Int → Option Ni} (h : Dx w D M d x fu g) (ho : d.Ok m) (hm : m ≤ 1048574) (s : ByteArray) (hs : s.size ≤ 1048576) (F : FuncId) (hE : ∀ args w, (callFunc F args).run Tryz.prog w = .ok (.enter F args) w) (a b : Value) (gf : Fi → Fi × Int)
    (HC : ∀ w1 fu1 (y : Ni), Dx w1 D M (tickP d) x fu1 g → Kp D M w w1 → Ni.fit w1 y → (∃ i, y.fi = atK d.K i) → Calls Tryz.prog F #[y.v, a, b] w1 fun e w' => ∃ z : Ni, e = .returned (.tuple #[z.v, .int .i64 (gf y.fi).2]) ∧ Ni.fit w' z ∧ z.fi = (gf y.fi).1 ∧ Below w1.heap.size w1 w')
    (r : Dk × Int) (hr : r = if downP d = true then (offP d, 11) else editP (tickP d) s gf) :
    Calls Tryz.prog 51 #[.pointer (some ⟨D, 0, none⟩), .string s, .func (.func F) #[] #[a, b]] w fun e w' => e = .returned (.int .i64 r.2) ∧ Dw w' D M r.1 ∧ Kp D M w w' := by
  have HX := Lib.hid h
  have HCC := Lib.hid HC
  have HEN : Hid (∀ args w, (callFunc F args).run Tryz.prog w = .ok (.enter F args) w) := Lib.hid hE
  obtain ⟨wB, hB⟩ : ∃ A, w.alloc (.cells #[.pointer (some ⟨D, 0, none⟩)] 26) = A := ⟨_, rfl⟩
  obtain ⟨wC, hC⟩ : ∃ A, wB.alloc (.cells #[.string s] 9) = A := ⟨_, rfl⟩
  obtain ⟨wA, hA⟩ : ∃ A, wC.alloc (.cells #[.func (.func F) #[] #[a, b]] 111) = A := ⟨_, rfl⟩
  obtain ⟨G0, hG0⟩ : ∃ G, w.heap.size = G := ⟨_, rfl⟩
  obtain ⟨G1, hG1⟩ : ∃ G, wB.heap.size = G := ⟨_, rfl⟩
  obtain ⟨G2, hG2⟩ : ∃ G, wC.heap.size = G := ⟨_, rfl⟩
  have HBB : Below w.heap.size w wB := by rw [← hB]; exact (Below.refl _ _).alloc (Nat.le_refl _) _
  have HBC : Below wB.heap.size wB wC := by rw [← hC]; exact (Below.refl _ _).alloc (Nat.le_refl _) _
  have HBD : Below wC.heap.size wC wA := by rw [← hA]; exact (Below.refl _ _).alloc (Nat.le_refl _) _
  have HBA : Hid (Below w.heap.size w wA) := Lib.hid (below_step (below_step HBB HBC) HBD)
  have HXA := Lib.hid (h.later HBA.out)
  have k0 : wA.cell? ⟨G0, 0, none⟩ = some (.pointer (some ⟨D, 0, none⟩)) := by
    refine cell_below (cell_below ?_ HBC) HBD
    rw [← hB, ← hG0]; exact cell_alloc1 _ _ _ rfl
  have k1 : wA.cell? ⟨G1, 0, none⟩ = some (.string s) := by
    refine cell_below ?_ HBD
    rw [← hC, ← hG1]; exact cell_alloc1 _ _ _ rfl
  have k2 : wA.cell? ⟨G2, 0, none⟩ = some (.func (.func F) #[] #[a, b]) := by
    rw [← hA, ← hG2]; exact cell_alloc1 _ _ _ rfl
  have hDl := h.lt
  have hMl := h.m.lt
  have s1 := HBB.size
  have s2 := HBC.size
  have hn0 : G0 ≠ D ∧ G0 ≠ M ∧ G1 ≠ D ∧ G1 ≠ M ∧ G2 ≠ D ∧ G2 ≠ M := by omega
  have HTO := Lib.hid (tick_ok ho)
  cases hd : downP d with
  | true =>
    rw [hd, if_pos rfl] at hr
    subst hr
    have HPD := Lib.hid (dperform_down HXA.out hd 86 #[.pointer (some ⟨G0, 0, none⟩), .pointer (some ⟨G1, 0, none⟩), .pointer (some ⟨G2, 0, none⟩)])
    clear h HC hE hd HBB HBC HBD hDl hMl s1 s2 hn0
    go_enter Tryz.func51, Tryz.ntmps51
    go_wp2_with (go_at_call 48; refine HPD.out.mono ?_; rintro e w2 ⟨rfl, hx2, hk2⟩; have HX2 := Lib.hid hx2; have HK2 := Lib.hid hk2; clear hx2 hk2)
    go_ret
    exact ⟨rfl, HX2.out, (Kp.of_below HBA.out).trans HK2.out⟩
  | false =>
    rw [hd, if_neg (by simp)] at hr
    subst hr
    have HPU := Lib.hid (dperform_up HXA.out ho (by omega) hd 86 (enters_of Tryz.func86 (by kernel_rfl) rfl) #[.pointer (some ⟨G0, 0, none⟩), .pointer (some ⟨G1, 0, none⟩), .pointer (some ⟨G2, 0, none⟩)]
      (fun e w' => e = .returned (.int .i64 (editP (tickP d) s gf).2) ∧ Dw w' D M (editP (tickP d) s gf).1 ∧ Kp D M w w') (fun e w' he => ⟨_, he.1⟩) (fun w1 fu1 hx1 hk1 => by
        refine (dedit1_any hx1 HTO.out (by omega) s hs F HEN.out a b gf (fun W y hW hy hi => HCC.out W fu1 y (hx1.later hW) (((Kp.of_below HBA.out).trans hk1).then_below hW) hy hi) G0 G1 G2 (cell_kp k0 hk1 hn0.1 hn0.2.1) (cell_kp k1 hk1 hn0.2.2.1 hn0.2.2.2.1) (cell_kp k2 hk1 hn0.2.2.2.2.1 hn0.2.2.2.2.2)).mono ?_
        rintro e w' ⟨rfl, hw, hk⟩
        exact ⟨rfl, hw, ((Kp.of_below HBA.out).trans hk1).trans hk⟩))
    clear h HC hE hd HBB HBC HBD hDl hMl s1 s2 hn0
    go_enter Tryz.func51, Tryz.ntmps51
    go_wp2_with (go_at_call 48; refine HPU.out.mono ?_; rintro e w2 ⟨rfl, hx2, hk2⟩; have HX2 := Lib.hid hx2; have HK2 := Lib.hid hk2; clear hx2 hk2)
    go_ret
    exact ⟨rfl, HX2.out, HK2.out⟩
end Go.Proofs.YtncbgddgkpaoeaaGreat

namespace Go.Proofs.YtncbgddgkpaoeaaGreat
set_option linter.unusedVariables false
open Go.RowKit Go.Lib Go.Maps

set_option maxRecDepth 100000 in
set_option maxHeartbeats 1000000 in
theorem dedit1_one {w : World} {D M m : Nat} {d : Dk} {x : Fo} {fu : Int} {g : Int → Option Ni} (h : Dx w D M d x fu g) (ho : d.Ok m) (hm : m ≤ 1048575) (s : ByteArray) (hs : s.size ≤ 1048576) (F : FuncId) (hE : ∀ args w, (callFunc F args).run Tryz.prog w = .ok (.enter F args) w) (a : Value) (gf : Fi → Fi × Int)
    (HC : ∀ w1 (y : Ni), Below w.heap.size w w1 → Ni.fit w1 y → (∃ i, y.fi = atK d.K i) → Calls Tryz.prog F #[y.v, a] w1 fun e w' => ∃ z : Ni, e = .returned (.tuple #[z.v, .int .i64 (gf y.fi).2]) ∧ Ni.fit w' z ∧ z.fi = (gf y.fi).1 ∧ Below w1.heap.size w1 w')
    (bd bn bc : Nat) (hbd : w.cell? ⟨bd, 0, none⟩ = some (.pointer (some ⟨D, 0, none⟩))) (hbn : w.cell? ⟨bn, 0, none⟩ = some (.string s)) (hbc : w.cell? ⟨bc, 0, none⟩ = some (.func (.func F) #[] #[a])) :
    Calls Tryz.prog 86 #[.pointer (some ⟨bd, 0, none⟩), .pointer (some ⟨bn, 0, none⟩), .pointer (some ⟨bc, 0, none⟩)] w fun e w' => e = .returned (.int .i64 (editP d s gf).2) ∧ Dw w' D M (editP d s gf).1 ∧ Kp D M w w' := by
  have HX := Lib.hid h
  have HCC := Lib.hid HC
  have HFI := Lib.hid fun W hW => ffind_any x s W hW (by rw [h.fd]; exact ho.fd hm) hs
  have HIN : Hid (∀ i, findP (nowQ d.F) s = some i → InI i ∧ i ∈ idK d.K) := Lib.hid fun i hi => by
    have h1 := ho.low i (find_ids hi)
    have h2 := ho.last
    exact ⟨by unfold InI; omega, by rw [ho.ids]; exact find_ids hi⟩
  have HOI := Lib.hid ho.rises
  have HKL := Lib.hid ho.klen
  have HEP : Hid (editP d s gf = match findP (nowQ d.F) s with | none => (d, 6) | some i => if (gf (atK d.K i)).2 = 0 then ({ d with K := setK d.K i (gf (atK d.K i)).1 }, 0) else (d, (gf (atK d.K i)).2)) := Lib.hid rfl
  rw [h.fd] at HFI
  generalize editP d s gf = B at *
  have HK : Hid (∀ W, Below w.heap.size w W → W.cell? ⟨bd, 0, none⟩ = some (.pointer (some ⟨D, 0, none⟩)) ∧ W.cell? ⟨bn, 0, none⟩ = some (.string s) ∧ W.cell? ⟨bc, 0, none⟩ = some (.func (.func F) #[] #[a]) ∧ W.cell? ⟨D, 2, none⟩ = some (.slice x.p x.n x.c) ∧ W.cell? ⟨D, 3, none⟩ = some (.slice x.q x.m x.d) ∧ W.cell? ⟨D, 4, none⟩ = some (.map (some M))) := Lib.hid fun W hW => by
    obtain ⟨_, _, c2, c3, c4, _⟩ := (h.later hW).cells
    have e : ∀ {k : Nat} {v : Value}, w.cell? ⟨k, 0, none⟩ = some v → W.cell? ⟨k, 0, none⟩ = some v := fun hv => by rw [hW.cell (World.block_lt_of_cell? w _ hv)]; exact hv
    exact ⟨e hbd, e hbn, e hbc, c2, c3, c4⟩
  obtain ⟨p, l, cc, q, mm, dd, L, Mc⟩ := x
  unfold Fo.v at HFI
  dsimp only at HFI HK
  have HD0 : Hid (Below w.heap.size w w.drew) := Lib.hid ((Below.refl _ _).drew)
  have k0 := HK.out _ (Below.refl _ _)
  have k1 := HK.out _ HD0.out
  clear h ho hbd hbn hbc HC
  cases hf : findP (nowQ d.F) s with
  | none =>
    rw [hf] at HEP HFI
    have HEP := Lib.hid HEP.out
    unfold fndV at HFI
    simp only [Option.getD_none, Option.isSome_none] at HFI
    clear hf
    go_enter Tryz.func86, Tryz.ntmps86
    go_wp2_with fail
    go_region_held3 (fun W => W.cell? ⟨bd, 0, none⟩ = some (.pointer (some ⟨D, 0, none⟩)) ∧ W.cell? ⟨bn, 0, none⟩ = some (.string s) ∧ W.cell? ⟨bc, 0, none⟩ = some (.func (.func F) #[] #[a]) ∧ W.cell? ⟨D, 2, none⟩ = some (.slice p l cc) ∧ W.cell? ⟨D, 3, none⟩ = some (.slice q mm dd) ∧ W.cell? ⟨D, 4, none⟩ = some (.map (some M))) (first | exact k0 | exact k1 | exact k2) (first
      | (go_at_call 87; refine (HFI.out _ (HX.out.f.later HD0.out)).mono ?_; rintro e w2 ⟨rfl, hb2⟩; have HB2 : Hid (Below w.heap.size w w2) := Lib.hid (below_step HD0.out hb2); have k2 := HK.out _ HB2.out; clear hb2))
    go_wp2
    go_ret
    rw [HEP.out]
    exact ⟨rfl, ⟨_, _, _, HX.out.later HB2.out⟩, Kp.of_below HB2.out⟩
  | some i =>
    rw [hf] at HEP HFI
    have HEP : Hid (B = if (gf (atK d.K i)).2 = 0 then ({ d with K := setK d.K i (gf (atK d.K i)).1 }, 0) else (d, (gf (atK d.K i)).2)) := Lib.hid HEP.out
    obtain ⟨hiI, hiK⟩ := HIN.out i hf
    have HI := Lib.hid hiI
    have HIK := Lib.hid hiK
    unfold fndV at HFI
    simp only [Option.getD_some, Option.isSome_some] at HFI
    have HNI := Lib.hid (HX.out.n.fit i)
    have HNF := Lib.hid (fi_at HX.out.k i)
    have HLK := Lib.hid fun W (hW : Below w.heap.size w W) => look_run (HX.out.m.later hW) i hiI
    have HCI := Lib.hid fun W (hW : Below w.heap.size w W) => HCC.out W ((g i).getD ni0) hW (HNI.out.later hW) ⟨i, HNF.out⟩
    rw [HNF.out] at HCI
    generalize (g i).getD ni0 = y0 at *
    obtain ⟨yp, yn, yc, yq, ym, yd, yz, yL⟩ := y0
    unfold Ni.v at HLK HCI
    dsimp only at HLK HCI
    obtain ⟨er, her⟩ : ∃ e, (gf (atK d.K i)).2 = e := ⟨_, rfl⟩
    obtain ⟨Z, hZ⟩ : ∃ e, (gf (atK d.K i)).1 = e := ⟨_, rfl⟩
    rw [her, hZ] at HEP HCI
    clear hf hiI hiK her hZ HIN HCC
    go_enter Tryz.func86, Tryz.ntmps86
    go_wp2_with fail
    go_region_held3 (fun W => W.cell? ⟨bd, 0, none⟩ = some (.pointer (some ⟨D, 0, none⟩)) ∧ W.cell? ⟨bn, 0, none⟩ = some (.string s) ∧ W.cell? ⟨bc, 0, none⟩ = some (.func (.func F) #[] #[a]) ∧ W.cell? ⟨D, 2, none⟩ = some (.slice p l cc) ∧ W.cell? ⟨D, 3, none⟩ = some (.slice q mm dd) ∧ W.cell? ⟨D, 4, none⟩ = some (.map (some M))) (first | exact k0 | exact k1 | exact k2) (first
      | (go_at_call 87; refine (HFI.out _ (HX.out.f.later HD0.out)).mono ?_; rintro e w2 ⟨rfl, hb2⟩; have HB2 : Hid (Below w.heap.size w w2) := Lib.hid (below_step HD0.out hb2); have k2 := HK.out _ HB2.out; clear hb2))
    clear k0 k1
    have HDa : Hid (Below w2.heap.size w2 w2.drew) := Lib.hid ((Below.refl _ _).drew)
    have HBa : Hid (Below w.heap.size w w2.drew) := Lib.hid (below_step HB2.out HDa.out)
    have HBb : Hid (Below w.heap.size w (w2.alloc (.cells #[.slice none 0 0, .slice none 0 0] 73)).drew) := Lib.hid ((HB2.out.alloc HB2.out.size _).drew)
    have HDb : Hid (Below w2.heap.size w2 (w2.alloc (.cells #[.slice none 0 0, .slice none 0 0] 73)).drew) := Lib.hid (((Below.refl _ _).alloc (Nat.le_refl _) _).drew)
    have HZa : Hid (Iw (w2.alloc (.cells #[.slice none 0 0, .slice none 0 0] 73)).drew w2.heap.size ni0) := Lib.hid (heap_alloc_new w2 _)
    have ka := HK.out _ HBa.out
    have kb := HK.out _ HBb.out
    have la := HLK.out _ HBa.out
    have lb := HLK.out _ HBb.out
    have HW2 : Hid (w.heap.size ≤ w2.heap.size) := Lib.hid HB2.out.size
    go_wp2_with fail
    go_upto_region 4 with fail
    go_cut [6, 7] (fun f e wx => ∃ (G : Nat) (y : Ni), f = .pointer (some ⟨G, 0, none⟩) ∧ e = .int .i64 er ∧ Hid (Iw wx G y) ∧ Hid (Ni.fit wx y) ∧ Hid (y.fi = Z) ∧ Hid (Below w.heap.size w wx) ∧ Hid (w.heap.size ≤ G))
    case first =>
      go_region_held3 (fun W => W.cell? ⟨bd, 0, none⟩ = some (.pointer (some ⟨D, 0, none⟩)) ∧ W.cell? ⟨bn, 0, none⟩ = some (.string s) ∧ W.cell? ⟨bc, 0, none⟩ = some (.func (.func F) #[] #[a]) ∧ W.cell? ⟨D, 2, none⟩ = some (.slice p l cc) ∧ W.cell? ⟨D, 3, none⟩ = some (.slice q mm dd) ∧ W.cell? ⟨D, 4, none⟩ = some (.map (some M))) (first | exact k2 | exact ka | exact kb | exact k3 | exact k3b | exact k3c | exact k3d) (first
        | (refine (HCI.out _ (by first | exact HBa.out | exact HBb.out)).mono ?_; rintro e w3 ⟨⟨zp, zn, zc, zq, zm, zd, zz, zL⟩, rfl, hf3, hz3, hb3⟩; have HF3 := Lib.hid hf3; have HZ3 := Lib.hid hz3; have HB3 : Hid (Below w.heap.size w w3) := Lib.hid (by first | exact below_step HBa.out hb3 | exact below_step HBb.out hb3); have HB3G : Hid (Below w2.heap.size w2 w3) := Lib.hid (by first | exact below_step HDa.out hb3 | exact below_step HDb.out hb3); have k3 := HK.out _ HB3.out; have k3b := HK.out _ (HB3.out.alloc HB3.out.size (.cells #[.slice none 0 0, .slice none 0 0] 73)); have k3c := HK.out _ (HB3.out.alloc HB3.out.size (.cells #[.slice zp zn zc, .slice zq zm zd] 73)); have k3d := HK.out _ ((HB3.out.setCell (p := ⟨w2.heap.size, 0, none⟩) HW2.out (.slice zp zn zc)).setCell (p := ⟨w2.heap.size, 1, none⟩) HW2.out (.slice zq zm zd)); (try (have HZ4 := Lib.hid (HZa.out.later hb3); obtain ⟨z0, z1⟩ := HZ4.out.cells; have f0 := HZ4.out.frozen 0; have f1 := HZ4.out.frozen 1)); clear hf3 hz3 hb3))
      all_goals (go_wp2_with fail)
      all_goals go_meet
      all_goals (first
        | exact ⟨_, ⟨zp, zn, zc, zq, zm, zd, zz, zL⟩, rfl, rfl, Lib.hid (heap_alloc_new _ _), Lib.hid (HF3.out.later ((Below.refl _ _).alloc (Nat.le_refl _) _)), HZ3, Lib.hid (HB3.out.alloc HB3.out.size _), Lib.hid HB3.out.size⟩
        | exact ⟨_, ⟨zp, zn, zc, zq, zm, zd, zz, zL⟩, rfl, rfl, Lib.hid (cells2_stored HZ4.out _ _), Lib.hid (HF3.out.stored HZ4.out.sl2 (stored2_keep _ _ _ _)), HZ3, Lib.hid ((HB3.out.setCell (p := ⟨w2.heap.size, 0, none⟩) HW2.out _).setCell (p := ⟨w2.heap.size, 1, none⟩) HW2.out _), HW2⟩)
    case rest =>
      obtain ⟨G, ⟨zp, zn, zc, zq, zm, zd, zz, zL⟩, rfl, rfl, HY, HFY, HYF, HB4, HAG⟩ := hcut
      have kc := HK.out _ HB4.out
      obtain ⟨i0, i1⟩ := HY.out.cells
      have HX4 := Lib.hid (HX.out.later HB4.out)
      have HD4 : Hid (Below wc.heap.size wc wc.drew) := Lib.hid ((Below.refl _ _).drew)
      have HX5 := Lib.hid (HX4.out.later HD4.out)
      have kd := HK.out _ (below_step HB4.out HD4.out)
      have HY5 := Lib.hid (HY.out.later HD4.out)
      obtain ⟨j0, j1⟩ := HY5.out.cells
      have HKN : Hid (d.K.length ≤ 4194304) := Lib.hid (by have := HKL.out; omega)
      clear HK k2 ka kb la lb HLK HCI HZa HBa HBb HDa HDb HKL
      by_cases he : er = 0
      · have HEP0 : Hid (B = ({ d with K := setK d.K i Z }, 0)) := Lib.hid (by rw [HEP.out, if_pos he])
        clear HEP
        subst he
        obtain ⟨w5, hrun, hm5, hg5⟩ := put_run HX5.out.m HKN.out i HI.out ⟨zp, zn, zc, zq, zm, zd, zz, zL⟩
        have HM5 := Lib.hid hm5
        have HG5 := Lib.hid hg5
        unfold Ni.v at hrun
        dsimp only at hrun
        clear hm5 hg5
        go_wp2_with fail
        go_region
        all_goals (try go_wp2)
        all_goals go_ret
        all_goals (
          rw [HEP0.out]
          have hput := HX5.out.put HOI.out HIK.out (y := ⟨zp, zn, zc, zq, zm, zd, zz, zL⟩) (HFY.out.later HD4.out) HM5.out HG5.out
          rw [HYF.out] at hput
          exact ⟨rfl, ⟨_, _, _, hput⟩, ((Kp.of_below HB4.out).drew).map HG5.out⟩)
      · have k : (er == 0) = false := by simpa using he
        have HEP : Hid (B = (d, er)) := Lib.hid (by rw [HEP.out, if_neg he])
        clear he
        go_wp2
        go_ret
        rw [HEP.out]
        exact ⟨rfl, ⟨_, _, _, HX4.out⟩, Kp.of_below HB4.out⟩
end Go.Proofs.YtncbgddgkpaoeaaGreat

namespace Go.Proofs.YtncbgddgkpaoeaaGreat
set_option linter.unusedVariables false
open Go.RowKit Go.Lib Go.Maps

set_option maxRecDepth 100000 in
set_option maxHeartbeats 1000000 in
theorem dedit_one {w : World} {D M m : Nat} {d : Dk} {x : Fo} {fu : Int} {g : Int → Option Ni} (h : Dx w D M d x fu g) (ho : d.Ok m) (hm : m ≤ 1048574) (s : ByteArray) (hs : s.size ≤ 1048576) (F : FuncId) (hE : ∀ args w, (callFunc F args).run Tryz.prog w = .ok (.enter F args) w) (a : Value) (gf : Fi → Fi × Int)
    (HC : ∀ w1 fu1 (y : Ni), Dx w1 D M (tickP d) x fu1 g → Kp D M w w1 → Ni.fit w1 y → (∃ i, y.fi = atK d.K i) → Calls Tryz.prog F #[y.v, a] w1 fun e w' => ∃ z : Ni, e = .returned (.tuple #[z.v, .int .i64 (gf y.fi).2]) ∧ Ni.fit w' z ∧ z.fi = (gf y.fi).1 ∧ Below w1.heap.size w1 w')
    (r : Dk × Int) (hr : r = if downP d = true then (offP d, 11) else editP (tickP d) s gf) :
    Calls Tryz.prog 51 #[.pointer (some ⟨D, 0, none⟩), .string s, .func (.func F) #[] #[a]] w fun e w' => e = .returned (.int .i64 r.2) ∧ Dw w' D M r.1 ∧ Kp D M w w' := by
  have HX := Lib.hid h
  have HCC := Lib.hid HC
  have HEN : Hid (∀ args w, (callFunc F args).run Tryz.prog w = .ok (.enter F args) w) := Lib.hid hE
  obtain ⟨wB, hB⟩ : ∃ A, w.alloc (.cells #[.pointer (some ⟨D, 0, none⟩)] 26) = A := ⟨_, rfl⟩
  obtain ⟨wC, hC⟩ : ∃ A, wB.alloc (.cells #[.string s] 9) = A := ⟨_, rfl⟩
  obtain ⟨wA, hA⟩ : ∃ A, wC.alloc (.cells #[.func (.func F) #[] #[a]] 111) = A := ⟨_, rfl⟩
  obtain ⟨G0, hG0⟩ : ∃ G, w.heap.size = G := ⟨_, rfl⟩
  obtain ⟨G1, hG1⟩ : ∃ G, wB.heap.size = G := ⟨_, rfl⟩
  obtain ⟨G2, hG2⟩ : ∃ G, wC.heap.size = G := ⟨_, rfl⟩
  have HBB : Below w.heap.size w wB := by rw [← hB]; exact (Below.refl _ _).alloc (Nat.le_refl _) _
  have HBC : Below wB.heap.size wB wC := by rw [← hC]; exact (Below.refl _ _).alloc (Nat.le_refl _) _
  have HBD : Below wC.heap.size wC wA := by rw [← hA]; exact (Below.refl _ _).alloc (Nat.le_refl _) _
  have HBA : Hid (Below w.heap.size w wA) := Lib.hid (below_step (below_step HBB HBC) HBD)
  have HXA := Lib.hid (h.later HBA.out)
  have k0 : wA.cell? ⟨G0, 0, none⟩ = some (.pointer (some ⟨D, 0, none⟩)) := by
    refine cell_below (cell_below ?_ HBC) HBD
    rw [← hB, ← hG0]; exact cell_alloc1 _ _ _ rfl
  have k1 : wA.cell? ⟨G1, 0, none⟩ = some (.string s) := by
    refine cell_below ?_ HBD
    rw [← hC, ← hG1]; exact cell_alloc1 _ _ _ rfl
  have k2 : wA.cell? ⟨G2, 0, none⟩ = some (.func (.func F) #[] #[a]) := by
    rw [← hA, ← hG2]; exact cell_alloc1 _ _ _ rfl
  have hDl := h.lt
  have hMl := h.m.lt
  have s1 := HBB.size
  have s2 := HBC.size
  have hn0 : G0 ≠ D ∧ G0 ≠ M ∧ G1 ≠ D ∧ G1 ≠ M ∧ G2 ≠ D ∧ G2 ≠ M := by omega
  have HTO := Lib.hid (tick_ok ho)
  cases hd : downP d with
  | true =>
    rw [hd, if_pos rfl] at hr
    subst hr
    have HPD := Lib.hid (dperform_down HXA.out hd 86 #[.pointer (some ⟨G0, 0, none⟩), .pointer (some ⟨G1, 0, none⟩), .pointer (some ⟨G2, 0, none⟩)])
    clear h HC hE hd HBB HBC HBD hDl hMl s1 s2 hn0
    go_enter Tryz.func51, Tryz.ntmps51
    go_wp2_with (go_at_call 48; refine HPD.out.mono ?_; rintro e w2 ⟨rfl, hx2, hk2⟩; have HX2 := Lib.hid hx2; have HK2 := Lib.hid hk2; clear hx2 hk2)
    go_ret
    exact ⟨rfl, HX2.out, (Kp.of_below HBA.out).trans HK2.out⟩
  | false =>
    rw [hd, if_neg (by simp)] at hr
    subst hr
    have HPU := Lib.hid (dperform_up HXA.out ho (by omega) hd 86 (enters_of Tryz.func86 (by kernel_rfl) rfl) #[.pointer (some ⟨G0, 0, none⟩), .pointer (some ⟨G1, 0, none⟩), .pointer (some ⟨G2, 0, none⟩)]
      (fun e w' => e = .returned (.int .i64 (editP (tickP d) s gf).2) ∧ Dw w' D M (editP (tickP d) s gf).1 ∧ Kp D M w w') (fun e w' he => ⟨_, he.1⟩) (fun w1 fu1 hx1 hk1 => by
        refine (dedit1_one hx1 HTO.out (by omega) s hs F HEN.out a gf (fun W y hW hy hi => HCC.out W fu1 y (hx1.later hW) (((Kp.of_below HBA.out).trans hk1).then_below hW) hy hi) G0 G1 G2 (cell_kp k0 hk1 hn0.1 hn0.2.1) (cell_kp k1 hk1 hn0.2.2.1 hn0.2.2.2.1) (cell_kp k2 hk1 hn0.2.2.2.2.1 hn0.2.2.2.2.2)).mono ?_
        rintro e w' ⟨rfl, hw, hk⟩
        exact ⟨rfl, hw, ((Kp.of_below HBA.out).trans hk1).trans hk⟩))
    clear h HC hE hd HBB HBC HBD hDl hMl s1 s2 hn0
    go_enter Tryz.func51, Tryz.ntmps51
    go_wp2_with (go_at_call 48; refine HPU.out.mono ?_; rintro e w2 ⟨rfl, hx2, hk2⟩; have HX2 := Lib.hid hx2; have HK2 := Lib.hid hk2; clear hx2 hk2)
    go_ret
    exact ⟨rfl, HX2.out, HK2.out⟩
end Go.Proofs.YtncbgddgkpaoeaaGreat

namespace Go.Proofs.YtncbgddgkpaoeaaGreat
set_option linter.unusedVariables false
open Go.RowKit Go.Lib Go.Maps

set_option maxRecDepth 100000 in
set_option maxHeartbeats 1000000 in
theorem dedit1_none {w : World} {D M m : Nat} {d : Dk} {x : Fo} {fu : Int} {g : Int → Option Ni} (h : Dx w D M d x fu g) (ho : d.Ok m) (hm : m ≤ 1048575) (s : ByteArray) (hs : s.size ≤ 1048576) (F : FuncId) (hE : ∀ args w, (callFunc F args).run Tryz.prog w = .ok (.enter F args) w) (gf : Fi → Fi × Int)
    (HC : ∀ w1 (y : Ni), Below w.heap.size w w1 → Ni.fit w1 y → (∃ i, y.fi = atK d.K i) → Calls Tryz.prog F #[y.v] w1 fun e w' => ∃ z : Ni, e = .returned (.tuple #[z.v, .int .i64 (gf y.fi).2]) ∧ Ni.fit w' z ∧ z.fi = (gf y.fi).1 ∧ Below w1.heap.size w1 w')
    (bd bn bc : Nat) (hbd : w.cell? ⟨bd, 0, none⟩ = some (.pointer (some ⟨D, 0, none⟩))) (hbn : w.cell? ⟨bn, 0, none⟩ = some (.string s)) (hbc : w.cell? ⟨bc, 0, none⟩ = some (.func (.func F) #[] #[])) :
    Calls Tryz.prog 86 #[.pointer (some ⟨bd, 0, none⟩), .pointer (some ⟨bn, 0, none⟩), .pointer (some ⟨bc, 0, none⟩)] w fun e w' => e = .returned (.int .i64 (editP d s gf).2) ∧ Dw w' D M (editP d s gf).1 ∧ Kp D M w w' := by
  have HX := Lib.hid h
  have HCC := Lib.hid HC
  have HFI := Lib.hid fun W hW => ffind_any x s W hW (by rw [h.fd]; exact ho.fd hm) hs
  have HIN : Hid (∀ i, findP (nowQ d.F) s = some i → InI i ∧ i ∈ idK d.K) := Lib.hid fun i hi => by
    have h1 := ho.low i (find_ids hi)
    have h2 := ho.last
    exact ⟨by unfold InI; omega, by rw [ho.ids]; exact find_ids hi⟩
  have HOI := Lib.hid ho.rises
  have HKL := Lib.hid ho.klen
  have HEP : Hid (editP d s gf = match findP (nowQ d.F) s with | none => (d, 6) | some i => if (gf (atK d.K i)).2 = 0 then ({ d with K := setK d.K i (gf (atK d.K i)).1 }, 0) else (d, (gf (atK d.K i)).2)) := Lib.hid rfl
  rw [h.fd] at HFI
  generalize editP d s gf = B at *
  have HK : Hid (∀ W, Below w.heap.size w W → W.cell? ⟨bd, 0, none⟩ = some (.pointer (some ⟨D, 0, none⟩)) ∧ W.cell? ⟨bn, 0, none⟩ = some (.string s) ∧ W.cell? ⟨bc, 0, none⟩ = some (.func (.func F) #[] #[]) ∧ W.cell? ⟨D, 2, none⟩ = some (.slice x.p x.n x.c) ∧ W.cell? ⟨D, 3, none⟩ = some (.slice x.q x.m x.d) ∧ W.cell? ⟨D, 4, none⟩ = some (.map (some M))) := Lib.hid fun W hW => by
    obtain ⟨_, _, c2, c3, c4, _⟩ := (h.later hW).cells
    have e : ∀ {k : Nat} {v : Value}, w.cell? ⟨k, 0, none⟩ = some v → W.cell? ⟨k, 0, none⟩ = some v := fun hv => by rw [hW.cell (World.block_lt_of_cell? w _ hv)]; exact hv
    exact ⟨e hbd, e hbn, e hbc, c2, c3, c4⟩
  obtain ⟨p, l, cc, q, mm, dd, L, Mc⟩ := x
  unfold Fo.v at HFI
  dsimp only at HFI HK
  have HD0 : Hid (Below w.heap.size w w.drew) := Lib.hid ((Below.refl _ _).drew)
  have k0 := HK.out _ (Below.refl _ _)
  have k1 := HK.out _ HD0.out
  clear h ho hbd hbn hbc HC
  cases hf : findP (nowQ d.F) s with
  | none =>
    rw [hf] at HEP HFI
    have HEP := Lib.hid HEP.out
    unfold fndV at HFI
    simp only [Option.getD_none, Option.isSome_none] at HFI
    clear hf
    go_enter Tryz.func86, Tryz.ntmps86
    go_wp2_with fail
    go_region_held3 (fun W => W.cell? ⟨bd, 0, none⟩ = some (.pointer (some ⟨D, 0, none⟩)) ∧ W.cell? ⟨bn, 0, none⟩ = some (.string s) ∧ W.cell? ⟨bc, 0, none⟩ = some (.func (.func F) #[] #[]) ∧ W.cell? ⟨D, 2, none⟩ = some (.slice p l cc) ∧ W.cell? ⟨D, 3, none⟩ = some (.slice q mm dd) ∧ W.cell? ⟨D, 4, none⟩ = some (.map (some M))) (first | exact k0 | exact k1 | exact k2) (first
      | (go_at_call 87; refine (HFI.out _ (HX.out.f.later HD0.out)).mono ?_; rintro e w2 ⟨rfl, hb2⟩; have HB2 : Hid (Below w.heap.size w w2) := Lib.hid (below_step HD0.out hb2); have k2 := HK.out _ HB2.out; clear hb2))
    go_wp2
    go_ret
    rw [HEP.out]
    exact ⟨rfl, ⟨_, _, _, HX.out.later HB2.out⟩, Kp.of_below HB2.out⟩
  | some i =>
    rw [hf] at HEP HFI
    have HEP : Hid (B = if (gf (atK d.K i)).2 = 0 then ({ d with K := setK d.K i (gf (atK d.K i)).1 }, 0) else (d, (gf (atK d.K i)).2)) := Lib.hid HEP.out
    obtain ⟨hiI, hiK⟩ := HIN.out i hf
    have HI := Lib.hid hiI
    have HIK := Lib.hid hiK
    unfold fndV at HFI
    simp only [Option.getD_some, Option.isSome_some] at HFI
    have HNI := Lib.hid (HX.out.n.fit i)
    have HNF := Lib.hid (fi_at HX.out.k i)
    have HLK := Lib.hid fun W (hW : Below w.heap.size w W) => look_run (HX.out.m.later hW) i hiI
    have HCI := Lib.hid fun W (hW : Below w.heap.size w W) => HCC.out W ((g i).getD ni0) hW (HNI.out.later hW) ⟨i, HNF.out⟩
    rw [HNF.out] at HCI
    generalize (g i).getD ni0 = y0 at *
    obtain ⟨yp, yn, yc, yq, ym, yd, yz, yL⟩ := y0
    unfold Ni.v at HLK HCI
    dsimp only at HLK HCI
    obtain ⟨er, her⟩ : ∃ e, (gf (atK d.K i)).2 = e := ⟨_, rfl⟩
    obtain ⟨Z, hZ⟩ : ∃ e, (gf (atK d.K i)).1 = e := ⟨_, rfl⟩
    rw [her, hZ] at HEP HCI
    clear hf hiI hiK her hZ HIN HCC
    go_enter Tryz.func86, Tryz.ntmps86
    go_wp2_with fail
    go_region_held3 (fun W => W.cell? ⟨bd, 0, none⟩ = some (.pointer (some ⟨D, 0, none⟩)) ∧ W.cell? ⟨bn, 0, none⟩ = some (.string s) ∧ W.cell? ⟨bc, 0, none⟩ = some (.func (.func F) #[] #[]) ∧ W.cell? ⟨D, 2, none⟩ = some (.slice p l cc) ∧ W.cell? ⟨D, 3, none⟩ = some (.slice q mm dd) ∧ W.cell? ⟨D, 4, none⟩ = some (.map (some M))) (first | exact k0 | exact k1 | exact k2) (first
      | (go_at_call 87; refine (HFI.out _ (HX.out.f.later HD0.out)).mono ?_; rintro e w2 ⟨rfl, hb2⟩; have HB2 : Hid (Below w.heap.size w w2) := Lib.hid (below_step HD0.out hb2); have k2 := HK.out _ HB2.out; clear hb2))
    clear k0 k1
    have HDa : Hid (Below w2.heap.size w2 w2.drew) := Lib.hid ((Below.refl _ _).drew)
    have HBa : Hid (Below w.heap.size w w2.drew) := Lib.hid (below_step HB2.out HDa.out)
    have HBb : Hid (Below w.heap.size w (w2.alloc (.cells #[.slice none 0 0, .slice none 0 0] 73)).drew) := Lib.hid ((HB2.out.alloc HB2.out.size _).drew)
    have HDb : Hid (Below w2.heap.size w2 (w2.alloc (.cells #[.slice none 0 0, .slice none 0 0] 73)).drew) := Lib.hid (((Below.refl _ _).alloc (Nat.le_refl _) _).drew)
    have HZa : Hid (Iw (w2.alloc (.cells #[.slice none 0 0, .slice none 0 0] 73)).drew w2.heap.size ni0) := Lib.hid (heap_alloc_new w2 _)
    have ka := HK.out _ HBa.out
    have kb := HK.out _ HBb.out
    have la := HLK.out _ HBa.out
    have lb := HLK.out _ HBb.out
    have HW2 : Hid (w.heap.size ≤ w2.heap.size) := Lib.hid HB2.out.size
    go_wp2_with fail
    go_upto_region 4 with fail
    go_cut [6, 7] (fun f e wx => ∃ (G : Nat) (y : Ni), f = .pointer (some ⟨G, 0, none⟩) ∧ e = .int .i64 er ∧ Hid (Iw wx G y) ∧ Hid (Ni.fit wx y) ∧ Hid (y.fi = Z) ∧ Hid (Below w.heap.size w wx) ∧ Hid (w.heap.size ≤ G))
    case first =>
      go_region_held3 (fun W => W.cell? ⟨bd, 0, none⟩ = some (.pointer (some ⟨D, 0, none⟩)) ∧ W.cell? ⟨bn, 0, none⟩ = some (.string s) ∧ W.cell? ⟨bc, 0, none⟩ = some (.func (.func F) #[] #[]) ∧ W.cell? ⟨D, 2, none⟩ = some (.slice p l cc) ∧ W.cell? ⟨D, 3, none⟩ = some (.slice q mm dd) ∧ W.cell? ⟨D, 4, none⟩ = some (.map (some M))) (first | exact k2 | exact ka | exact kb | exact k3 | exact k3b | exact k3c | exact k3d) (first
        | (refine (HCI.out _ (by first | exact HBa.out | exact HBb.out)).mono ?_; rintro e w3 ⟨⟨zp, zn, zc, zq, zm, zd, zz, zL⟩, rfl, hf3, hz3, hb3⟩; have HF3 := Lib.hid hf3; have HZ3 := Lib.hid hz3; have HB3 : Hid (Below w.heap.size w w3) := Lib.hid (by first | exact below_step HBa.out hb3 | exact below_step HBb.out hb3); have HB3G : Hid (Below w2.heap.size w2 w3) := Lib.hid (by first | exact below_step HDa.out hb3 | exact below_step HDb.out hb3); have k3 := HK.out _ HB3.out; have k3b := HK.out _ (HB3.out.alloc HB3.out.size (.cells #[.slice none 0 0, .slice none 0 0] 73)); have k3c := HK.out _ (HB3.out.alloc HB3.out.size (.cells #[.slice zp zn zc, .slice zq zm zd] 73)); have k3d := HK.out _ ((HB3.out.setCell (p := ⟨w2.heap.size, 0, none⟩) HW2.out (.slice zp zn zc)).setCell (p := ⟨w2.heap.size, 1, none⟩) HW2.out (.slice zq zm zd)); (try (have HZ4 := Lib.hid (HZa.out.later hb3); obtain ⟨z0, z1⟩ := HZ4.out.cells; have f0 := HZ4.out.frozen 0; have f1 := HZ4.out.frozen 1)); clear hf3 hz3 hb3))
      all_goals (go_wp2_with fail)
      all_goals go_meet
      all_goals (first
        | exact ⟨_, ⟨zp, zn, zc, zq, zm, zd, zz, zL⟩, rfl, rfl, Lib.hid (heap_alloc_new _ _), Lib.hid (HF3.out.later ((Below.refl _ _).alloc (Nat.le_refl _) _)), HZ3, Lib.hid (HB3.out.alloc HB3.out.size _), Lib.hid HB3.out.size⟩
        | exact ⟨_, ⟨zp, zn, zc, zq, zm, zd, zz, zL⟩, rfl, rfl, Lib.hid (cells2_stored HZ4.out _ _), Lib.hid (HF3.out.stored HZ4.out.sl2 (stored2_keep _ _ _ _)), HZ3, Lib.hid ((HB3.out.setCell (p := ⟨w2.heap.size, 0, none⟩) HW2.out _).setCell (p := ⟨w2.heap.size, 1, none⟩) HW2.out _), HW2⟩)
    case rest =>
      obtain ⟨G, ⟨zp, zn, zc, zq, zm, zd, zz, zL⟩, rfl, rfl, HY, HFY, HYF, HB4, HAG⟩ := hcut
      have kc := HK.out _ HB4.out
      obtain ⟨i0, i1⟩ := HY.out.cells
      have HX4 := Lib.hid (HX.out.later HB4.out)
      have HD4 : Hid (Below wc.heap.size wc wc.drew) := Lib.hid ((Below.refl _ _).drew)
      have HX5 := Lib.hid (HX4.out.later HD4.out)
      have kd := HK.out _ (below_step HB4.out HD4.out)
      have HY5 := Lib.hid (HY.out.later HD4.out)
      obtain ⟨j0, j1⟩ := HY5.out.cells
      have HKN : Hid (d.K.length ≤ 4194304) := Lib.hid (by have := HKL.out; omega)
      clear HK k2 ka kb la lb HLK HCI HZa HBa HBb HDa HDb HKL
      by_cases he : er = 0
      · have HEP0 : Hid (B = ({ d with K := setK d.K i Z }, 0)) := Lib.hid (by rw [HEP.out, if_pos he])
        clear HEP
        subst he
        obtain ⟨w5, hrun, hm5, hg5⟩ := put_run HX5.out.m HKN.out i HI.out ⟨zp, zn, zc, zq, zm, zd, zz, zL⟩
        have HM5 := Lib.hid hm5
        have HG5 := Lib.hid hg5
        unfold Ni.v at hrun
        dsimp only at hrun
        clear hm5 hg5
        go_wp2_with fail
        go_region
        all_goals (try go_wp2)
        all_goals go_ret
        all_goals (
          rw [HEP0.out]
          have hput := HX5.out.put HOI.out HIK.out (y := ⟨zp, zn, zc, zq, zm, zd, zz, zL⟩) (HFY.out.later HD4.out) HM5.out HG5.out
          rw [HYF.out] at hput
          exact ⟨rfl, ⟨_, _, _, hput⟩, ((Kp.of_below HB4.out).drew).map HG5.out⟩)
      · have k : (er == 0) = false := by simpa using he
        have HEP : Hid (B = (d, er)) := Lib.hid (by rw [HEP.out, if_neg he])
        clear he
        go_wp2
        go_ret
        rw [HEP.out]
        exact ⟨rfl, ⟨_, _, _, HX4.out⟩, Kp.of_below HB4.out⟩
end Go.Proofs.YtncbgddgkpaoeaaGreat

namespace Go.Proofs.YtncbgddgkpaoeaaGreat
set_option linter.unusedVariables false
open Go.RowKit Go.Lib Go.Maps

set_option maxRecDepth 100000 in
set_option maxHeartbeats 1000000 in
theorem dedit_none {w : World} {D M m : Nat} {d : Dk} {x : Fo} {fu : Int} {g : Int → Option Ni} (h : Dx w D M d x fu g) (ho : d.Ok m) (hm : m ≤ 1048574) (s : ByteArray) (hs : s.size ≤ 1048576) (F : FuncId) (hE : ∀ args w, (callFunc F args).run Tryz.prog w = .ok (.enter F args) w) (gf : Fi → Fi × Int)
    (HC : ∀ w1 fu1 (y : Ni), Dx w1 D M (tickP d) x fu1 g → Kp D M w w1 → Ni.fit w1 y → (∃ i, y.fi = atK d.K i) → Calls Tryz.prog F #[y.v] w1 fun e w' => ∃ z : Ni, e = .returned (.tuple #[z.v, .int .i64 (gf y.fi).2]) ∧ Ni.fit w' z ∧ z.fi = (gf y.fi).1 ∧ Below w1.heap.size w1 w')
    (r : Dk × Int) (hr : r = if downP d = true then (offP d, 11) else editP (tickP d) s gf) :
    Calls Tryz.prog 51 #[.pointer (some ⟨D, 0, none⟩), .string s, .func (.func F) #[] #[]] w fun e w' => e = .returned (.int .i64 r.2) ∧ Dw w' D M r.1 ∧ Kp D M w w' := by
  have HX := Lib.hid h
  have HCC := Lib.hid HC
  have HEN : Hid (∀ args w, (callFunc F args).run Tryz.prog w = .ok (.enter F args) w) := Lib.hid hE
  obtain ⟨wB, hB⟩ : ∃ A, w.alloc (.cells #[.pointer (some ⟨D, 0, none⟩)] 26) = A := ⟨_, rfl⟩
  obtain ⟨wC, hC⟩ : ∃ A, wB.alloc (.cells #[.string s] 9) = A := ⟨_, rfl⟩
  obtain ⟨wA, hA⟩ : ∃ A, wC.alloc (.cells #[.func (.func F) #[] #[]] 111) = A := ⟨_, rfl⟩
  obtain ⟨G0, hG0⟩ : ∃ G, w.heap.size = G := ⟨_, rfl⟩
  obtain ⟨G1, hG1⟩ : ∃ G, wB.heap.size = G := ⟨_, rfl⟩
  obtain ⟨G2, hG2⟩ : ∃ G, wC.heap.size = G := ⟨_, rfl⟩
  have HBB : Below w.heap.size w wB := by rw [← hB]; exact (Below.refl _ _).alloc (Nat.le_refl _) _
  have HBC : Below wB.heap.size wB wC := by rw [← hC]; exact (Below.refl _ _).alloc (Nat.le_refl _) _
  have HBD : Below wC.heap.size wC wA := by rw [← hA]; exact (Below.refl _ _).alloc (Nat.le_refl _) _
  have HBA : Hid (Below w.heap.size w wA) := Lib.hid (below_step (below_step HBB HBC) HBD)
  have HXA := Lib.hid (h.later HBA.out)
  have k0 : wA.cell? ⟨G0, 0, none⟩ = some (.pointer (some ⟨D, 0, none⟩)) := by
    refine cell_below (cell_below ?_ HBC) HBD
    rw [← hB, ← hG0]; exact cell_alloc1 _ _ _ rfl
  have k1 : wA.cell? ⟨G1, 0, none⟩ = some (.string s) := by
    refine cell_below ?_ HBD
    rw [← hC, ← hG1]; exact cell_alloc1 _ _ _ rfl
  have k2 : wA.cell? ⟨G2, 0, none⟩ = some (.func (.func F) #[] #[]) := by
    rw [← hA, ← hG2]; exact cell_alloc1 _ _ _ rfl
  have hDl := h.lt
  have hMl := h.m.lt
  have s1 := HBB.size
  have s2 := HBC.size
  have hn0 : G0 ≠ D ∧ G0 ≠ M ∧ G1 ≠ D ∧ G1 ≠ M ∧ G2 ≠ D ∧ G2 ≠ M := by omega
  have HTO := Lib.hid (tick_ok ho)
  cases hd : downP d with
  | true =>
    rw [hd, if_pos rfl] at hr
    subst hr
    have HPD := Lib.hid (dperform_down HXA.out hd 86 #[.pointer (some ⟨G0, 0, none⟩), .pointer (some ⟨G1, 0, none⟩), .pointer (some ⟨G2, 0, none⟩)])
    clear h HC hE hd HBB HBC HBD hDl hMl s1 s2 hn0
    go_enter Tryz.func51, Tryz.ntmps51
    go_wp2_with (go_at_call 48; refine HPD.out.mono ?_; rintro e w2 ⟨rfl, hx2, hk2⟩; have HX2 := Lib.hid hx2; have HK2 := Lib.hid hk2; clear hx2 hk2)
    go_ret
    exact ⟨rfl, HX2.out, (Kp.of_below HBA.out).trans HK2.out⟩
  | false =>
    rw [hd, if_neg (by simp)] at hr
    subst hr
    have HPU := Lib.hid (dperform_up HXA.out ho (by omega) hd 86 (enters_of Tryz.func86 (by kernel_rfl) rfl) #[.pointer (some ⟨G0, 0, none⟩), .pointer (some ⟨G1, 0, none⟩), .pointer (some ⟨G2, 0, none⟩)]
      (fun e w' => e = .returned (.int .i64 (editP (tickP d) s gf).2) ∧ Dw w' D M (editP (tickP d) s gf).1 ∧ Kp D M w w') (fun e w' he => ⟨_, he.1⟩) (fun w1 fu1 hx1 hk1 => by
        refine (dedit1_none hx1 HTO.out (by omega) s hs F HEN.out gf (fun W y hW hy hi => HCC.out W fu1 y (hx1.later hW) (((Kp.of_below HBA.out).trans hk1).then_below hW) hy hi) G0 G1 G2 (cell_kp k0 hk1 hn0.1 hn0.2.1) (cell_kp k1 hk1 hn0.2.2.1 hn0.2.2.2.1) (cell_kp k2 hk1 hn0.2.2.2.2.1 hn0.2.2.2.2.2)).mono ?_
        rintro e w' ⟨rfl, hw, hk⟩
        exact ⟨rfl, hw, ((Kp.of_below HBA.out).trans hk1).trans hk⟩))
    clear h HC hE hd HBB HBC HBD hDl hMl s1 s2 hn0
    go_enter Tryz.func51, Tryz.ntmps51
    go_wp2_with (go_at_call 48; refine HPU.out.mono ?_; rintro e w2 ⟨rfl, hx2, hk2⟩; have HX2 := Lib.hid hx2; have HK2 := Lib.hid hk2; clear hx2 hk2)
    go_ret
    exact ⟨rfl, HX2.out, HK2.out⟩
end Go.Proofs.YtncbgddgkpaoeaaGreat

namespace Go.Proofs.YtncbgddgkpaoeaaGreat
set_option linter.unusedVariables false
open Go.RowKit Go.Lib Go.Maps

/-- a file of an image: its name, and where its bytes lie -/
structure Fx where
  s : ByteArray
  p : Option Addr
  n : Nat
  c : Nat
  zs : List Int
def fx0 : Fx := ⟨⟨#[]⟩, none, 0, 0, []⟩
def Fx.pr (x : Fx) : ByteArray × List Int := (x.s, x.zs)
def encF : Ec Fx where
  f x := [.string x.s, .slice x.p x.n x.c]
  k := 2
  t := 68
  d := fx0
  len _ := rfl
  one x v hv := by
    simp only [List.mem_cons, List.not_mem_nil, or_false] at hv
    rcases hv with rfl | rfl <;> rfl
  pos := by decide
theorem infoF : (Tryz.prog.info? encF.t).map (fun i => (i.zero, i.size, i.bytes)) = some (some (.agg #[.string ⟨#[]⟩, .slice none 0 0]), encF.k, 40) := by kernel_rfl
theorem fieldV0 (p : Option Addr) (n c : Nat) (v1 : Value) (w : World) : (Instr.field 73 (.agg #[.slice p n c, v1]) 0).run Tryz.prog w = .ok (.slice p n c) w := by kernel_rfl
theorem image_step {d : Dk} {k : Nat} (h : k < d.F.l.length) : (imageP d).take (k + 1) = (imageP d).take k ++ [((d.F.l.getD k nd0).s, (atK d.K (d.F.l.getD k nd0).id).b)] := by
  unfold imageP
  rw [List.take_succ_eq_append_getElem (by simpa using h), List.getD_eq_getElem?_getD, List.getElem?_eq_getElem h]
  simp
theorem file_ne : encF.t ≠ 5 := by decide
/-- bytes of the call's own while a row of files grows -/
theorem Ob.grownF {w w' : World} {B B' : Nat} {v u : Value} {zs : List Int} {L : List Fx} (h : Ob w B 5 u zs) (ho : Gw encF w B' v L) (hg : w.grownBy w' v.ownBlock) : Ob w' B 5 u zs := by
  obtain ⟨h1, hl, h2⟩ := h
  refine ⟨h1, hl, ?_⟩
  rcases h2 with h2 | ⟨b, cap, cur, hv, hB, hb, r⟩
  · exact Or.inl h2
  · refine Or.inr ⟨b, cap, cur, hv, hB, ?_, r⟩
    rw [hg.block b (Array.getElem?_eq_some_iff.1 hb).1 (fun e => ?_)]
    · exact hb
    · rcases ho.2 with ⟨rfl, _⟩ | ⟨g, cap', cur', rfl, _, hg', _⟩
      · cases e
      · obtain rfl : b = g := by simpa [Value.ownBlock] using e
        rw [hb] at hg'
        simp only [Option.some.injEq, Obj.cells.injEq] at hg'
        exact file_ne hg'.2.1.symm

theorem grownF_other {w w' : World} {B k : Nat} {v : Value} {L : List Fx} {cs : Array Value} {t : TypeId} {fr : Nat × Nat} (ho : Gw encF w B v L) (hg : w.grownBy w' v.ownBlock) (hb : w.heap[k]? = some (.cells cs t fr)) (hne : t ≠ encF.t) : w'.heap[k]? = some (.cells cs t fr) := by
  rw [hg.block k (Array.getElem?_eq_some_iff.1 hb).1 (fun e => ?_)]
  · exact hb
  · rcases ho.2 with ⟨rfl, _⟩ | ⟨g, cap', cur', rfl, _, hg', _⟩
    · cases e
    · obtain rfl : k = g := by simpa [Value.ownBlock] using e
      rw [hb] at hg'
      simp only [Option.some.injEq, Obj.cells.injEq] at hg'
      exact hne hg'.2.1
theorem named_ne : 75 ≠ encF.t := by decide
theorem dimage_nil (w : World) : Calls Tryz.prog 23 #[.pointer none] w fun e w' => e = .returned (.slice none 0 0) ∧ w = w' := by
  go_enter Tryz.func23, Tryz.ntmps23
  go_wp2
  go_ret
  exact ⟨rfl, rfl⟩
set_option maxRecDepth 100000 in
set_option maxHeartbeats 2000000 in
theorem dimage_any {w : World} {D M m : Nat} {d : Dk} {x : Fo} {fu : Int} {g : Int → Option Ni} (h : Dx w D M d x fu g) (ho : d.Ok m) (hm : m ≤ 1048575) :
    Calls Tryz.prog 23 #[.pointer (some ⟨D, 0, none⟩)] w fun e w' => ∃ p k c L, e = .returned (.slice p k c) ∧ Gs encF w' p k L ∧ L.map Fx.pr = imageP d ∧ (∀ y ∈ L, Ob w' w.heap.size 5 (.slice y.p y.n y.c) y.zs) ∧ (p = none → c = 0) ∧ k ≤ c ∧ Below w.heap.size w w' := by
  have HX := Lib.hid h
  have HNI := Lib.hid fun i => h.n.fit i
  have HNF := Lib.hid fun i => fi_at h.k i
  have HNB := Lib.hid fun i => (ho.at' i).1
  have HIN : Hid (∀ y ∈ d.F.l, InI y.id) := Lib.hid fun y hy => (ho.l y hy).2
  have HST := Lib.hid fun k hk => image_step (d := d) (k := k) hk
  have HIL : Hid ((imageP d).length = d.F.l.length) := Lib.hid (by simp [imageP])
  have HLL := Lib.hid (show d.F.l.length ≤ 1048576 by have := ho.len; omega)
  have HFD := Lib.hid (show x.L = d.F.l by rw [← h.fd]; rfl)
  have HRN := Lib.hid (show Gs encN w x.p x.n x.L from h.f.1)
  obtain ⟨p, l, cc, q, mm, dd, L, Mc⟩ := x
  dsimp only at HFD HRN
  rw [HFD.out] at HRN
  generalize hDl : d.F.l = DL at *
  have hll : DL.length = l := HRN.out.len
  have HLQ := Lib.hid hll
  have hl1 : l ≤ 1048576 := by have := HLL.out; omega
  obtain ⟨_, _, c2, c3, c4, _⟩ := h.cells
  generalize imageP d = IM at *
  clear h ho hDl hll
  go_enter Tryz.func23, Tryz.ntmps23
  go_wp2
  clear c3
  go_loopw [3, 14] (fun v i wr => ∃ (j : Nat) (T : List Fx), j ≤ l ∧ i = .int .i64 (j : Int) ∧ Hid (Gw encF wr w.heap.size v T) ∧ Hid (T.map Fx.pr = IM.take j) ∧ Hid (∀ y ∈ T, Ob wr w.heap.size 5 (.slice y.p y.n y.c) y.zs) ∧ Hid (Below w.heap.size w wr)) (fun _ i _ => l - (intOf i).toNat)
  case atStart => exact ⟨0, [], by omega, rfl, Lib.hid (Gw.nil _ _ _), Lib.hid rfl, Lib.hid (fun y hy => by cases hy), Lib.hid (Below.refl _ _)⟩
  case round =>
    obtain ⟨j, T, hj, rfl, HO, HT, HOB, HB⟩ := hrel
    by_cases hlt : j < l
    · obtain ⟨b', off, rfl, c0, c1⟩ := (HRN.out.later HB.out).nd j hlt
      have HS := Lib.hid (HST.out j (by rw [HLQ.out]; exact hlt))
      have hII := Lib.hid (HIN.out (DL.getD j nd0) (by rw [List.getD_eq_getElem?_getD, List.getElem?_eq_getElem (by rw [HLQ.out]; exact hlt)]; exact List.getElem_mem _))
      have hkn : (j : Int) < (l : Int) := by omega
      have hk0 : (0 : Int) ≤ (j : Int) := by omega
      have HTL : Hid (T.length = j) := Lib.hid (by
        have := congrArg List.length HT.out
        rw [List.length_map, List.length_take, HIL.out, HLQ.out] at this
        omega)
      generalize DL.getD j nd0 = y at *
      obtain ⟨ys, yi⟩ := y
      dsimp only at c0 c1 HS hII
      obtain ⟨wB, hwB⟩ : ∃ W, wr.alloc (.cells #[.string ys, .int .i64 yi] 75) = W := ⟨_, rfl⟩
      obtain ⟨GB, hGB⟩ : ∃ G, wr.heap.size = G := ⟨_, rfl⟩
      have HBB : Hid (Below wr.heap.size wr wB) := Lib.hid (by rw [← hwB]; exact (Below.refl _ _).alloc (Nat.le_refl _) _)
      have HBW := Lib.hid (below_step HB.out HBB.out)
      have HBD : Hid (Below w.heap.size w wB.drew) := Lib.hid (HBW.out.drew)
      have hcB : wB.heap[GB]? = some (.cells #[.string ys, .int .i64 yi] 75 (0, 0)) := by rw [← hwB, ← hGB]; exact heap_alloc_new _ _
      have b0 : wB.cell? ⟨GB, 0, none⟩ = some (.string ys) := by rw [cell_of_row _ _ _ _ _ _ hcB]; rfl
      have b1 : wB.cell? ⟨GB, 1, none⟩ = some (.int .i64 yi) := by rw [cell_of_row _ _ _ _ _ _ hcB]; rfl
      have d4 : wB.cell? ⟨D, 4, none⟩ = some (.map (some M)) := (HX.out.later HBW.out).cells.2.2.2.2.1
      have hlk := look_run (HX.out.later HBD.out).m yi hII.out
      have HFI := Lib.hid ((HNI.out yi).later HBD.out)
      have HFF := Lib.hid (HNF.out yi)
      have HBN := Lib.hid (HNB.out yi)
      obtain ⟨z, hz⟩ : ∃ z, (g yi).getD ni0 = z := ⟨_, rfl⟩
      rw [hz] at hlk HFI HFF
      generalize atK d.K yi = Z at *
      obtain ⟨zp, zn, zc, zq, zm, zd, zz, zL⟩ := z
      have HGZ : Hid (((g yi).getD ni0).v = .agg #[.slice zp zn zc, .slice zq zm zd]) := Lib.hid (by rw [hz]; rfl)
      clear hz
      have HZZ : Hid (zz = Z.b) := Lib.hid (by rw [← HFF.out]; rfl)
      unfold Ni.v at hlk
      dsimp only at hlk
      have hfd := fieldV0
      have HOD := Lib.hid (HO.out.later (HBB.out.drew))
      have HOBD : Hid (∀ y ∈ T, Ob wB.drew w.heap.size 5 (.slice y.p y.n y.c) y.zs) := Lib.hid fun y hy => (HOB.out y hy).later (HBB.out.drew)
      have HZN : Hid (zn ≤ 2097152) := Lib.hid (by
        have h1 := HFI.out.1.1
        have h2 := HBN.out
        rw [← HZZ.out] at h2
        dsimp only at h1
        omega)
      have HLK : Hid (∀ W, Below w.heap.size w W → W.heap[GB]? = some (.cells #[.string ys, .int .i64 yi] 75 (0, 0)) → W.cell? ⟨GB, 0, none⟩ = some (.string ys) ∧ W.cell? ⟨GB, 1, none⟩ = some (.int .i64 yi) ∧ W.cell? ⟨D, 4, none⟩ = some (.map (some M)) ∧ (Instr.lookup TD (.map (some M)) (.int .i64 yi) false).run Tryz.prog W = .ok (.agg #[.slice zp zn zc, .slice zq zm zd]) W) := Lib.hid fun W hW hG => by
        have e := look_run (HX.out.later hW).m yi hII.out
        rw [HGZ.out] at e
        exact ⟨by rw [cell_of_row _ _ _ _ _ _ hG]; rfl, by rw [cell_of_row _ _ _ _ _ _ hG]; rfl, (HX.out.later hW).cells.2.2.2.2.1, e⟩
      have HCB := Lib.hid hcB
      have k0 := HLK.out _ HBW.out hcB
      have k1 := HLK.out _ HBD.out hcB
      clear hcB hlk d4 b0 b1
      go_wp2_with fail
      go_region_held3 (fun W => W.cell? ⟨GB, 0, none⟩ = some (.string ys) ∧ W.cell? ⟨GB, 1, none⟩ = some (.int .i64 yi) ∧ W.cell? ⟨D, 4, none⟩ = some (.map (some M)) ∧ (Instr.lookup TD (.map (some M)) (.int .i64 yi) false).run Tryz.prog W = .ok (.agg #[.slice zp zn zc, .slice zq zm zd]) W) (first | exact k0 | exact k1 | exact k5 | exact k5c | exact k6) (first
        | (go_at_call 28; refine (wclone_any zp zn zc zz _ HFI.out.1 HFI.out.2.1 HZN.out).mono ?_; rintro e5 w5 ⟨v5, rfl, ho5, hb5⟩; obtain ⟨p5, c5, hv5, _⟩ := ho5.open; subst hv5; have HB5 := Lib.hid (below_step HBD.out hb5); have HO5 := Lib.hid (ho5.mono HBD.out.size); have HR5 := Lib.hid (HOD.out.later hb5); have HT5 : Hid (∀ y ∈ T, Ob w5 w.heap.size 5 (.slice y.p y.n y.c) y.zs) := Lib.hid (fun y hy => (HOBD.out y hy).later hb5); have HC5 : Hid (w5.heap[GB]? = some (.cells #[.string ys, .int .i64 yi] 75 (0, 0))) := Lib.hid (by rw [hb5.block GB (Array.getElem?_eq_some_iff.1 HCB.out).1]; exact HCB.out); have k5 := HLK.out _ HB5.out HC5.out; obtain ⟨wC, hwC⟩ : ∃ W, w5.alloc (.cells #[.string ys, .slice p5 zz.length c5] 68) = W := ⟨_, rfl⟩; obtain ⟨GC, hGC⟩ : ∃ G, w5.heap.size = G := ⟨_, rfl⟩; have HBC : Hid (Below w5.heap.size w5 wC) := Lib.hid (by rw [← hwC]; exact (Below.refl _ _).alloc (Nat.le_refl _) _); have HGC : Hid (Gs encF wC (some ⟨GC, 0, none⟩) 1 [⟨ys, p5, zz.length, c5, zz⟩]) := Lib.hid (by rw [← hwC, ← hGC]; exact Gs.one encF _ ⟨ys, p5, zz.length, c5, zz⟩ _ rfl _ _); have HRC := Lib.hid (HR5.out.later HBC.out); have HBX := Lib.hid (below_step HB5.out HBC.out); have HOC := Lib.hid (HO5.out.later HBC.out); have HTC : Hid (∀ y ∈ T, Ob wC w.heap.size 5 (.slice y.p y.n y.c) y.zs) := Lib.hid (fun y hy => (HT5.out y hy).later HBC.out); have HCC : Hid (wC.heap[GB]? = some (.cells #[.string ys, .int .i64 yi] 75 (0, 0))) := Lib.hid (by rw [HBC.out.block GB (Array.getElem?_eq_some_iff.1 HC5.out).1]; exact HC5.out); have k5c := HLK.out _ HBX.out HCC.out; clear ho5 hb5)
        | (refine step_append_gen encF rfl (.tmp 18) (.tmp 31) 24 rfl Tryz.underlying24 (.agg #[.string ⟨#[]⟩, .slice none 0 0]) 40 infoF rfl (by decide) w.heap.size _ T rfl HRC.out _ 1 1 [⟨ys, p5, zz.length, c5, zz⟩] rfl HGC.out (fun h => by cases h) (by rw [HTL.out]; omega) HBX.out.size ?_; intro v6 w6 ho6 hg6; have HO6 := Lib.hid ho6; have HG6 := Lib.hid hg6; have HB6 := Lib.hid (below_new_gw HBX.out HRC.out hg6 HBX.out.size); have k6 := HLK.out _ HB6.out (grownF_other HRC.out hg6 HCC.out named_ne); clear ho6 hg6))
      have HT6 : Hid ((T ++ [(⟨ys, p5, zz.length, c5, zz⟩ : Fx)]).map Fx.pr = IM.take (j + 1)) := Lib.hid (by
        rw [List.map_append, HT.out, HS.out, ← HZZ.out]; rfl)
      have HOB6 : Hid (∀ y ∈ T ++ [(⟨ys, p5, zz.length, c5, zz⟩ : Fx)], Ob w6 w.heap.size 5 (.slice y.p y.n y.c) y.zs) := Lib.hid fun y hy => by
        rcases List.mem_append.1 hy with hy | hy
        · exact (HTC.out y hy).grownF HRC.out HG6.out
        · obtain rfl := List.mem_singleton.1 hy
          exact HOC.out.grownF HRC.out HG6.out
      clear k0 k1 k5 k5c k6 hwB hGB hwC hGC hfd
      go_wp2
      refine ⟨?_, by simp [intOf] <;> omega⟩
      first
        | exact ⟨j + 1, _, by omega, by go_num, HO6, HT6, HOB6, HB6⟩
        | ((repeat apply Exists.intro); refine ⟨?_, rfl⟩; exact ⟨j + 1, _, by omega, by go_num, HO6, HT6, HOB6, HB6⟩)
    · obtain rfl : j = l := by omega
      obtain ⟨q1, cp, hv, hlc, _, hgs, hpn⟩ := HO.out.open
      subst hv
      have HLC := Lib.hid hlc
      have HGS := Lib.hid hgs
      have HPN := Lib.hid hpn
      have HT6 : Hid (T.map Fx.pr = IM) := Lib.hid (by rw [HT.out]; exact List.take_of_length_le (by rw [HIL.out, HLQ.out]; exact Nat.le_refl _))
      clear hgs hpn hlc
      go_wp2
      go_ret
      exact ⟨q1, _, cp, T, rfl, HGS.out, HT6.out, HOB.out, HPN.out, HLC.out, HB.out⟩
end Go.Proofs.YtncbgddgkpaoeaaGreat
