/- Layer 12, the program: Cut's, Sync's functions; Layer 12, the program: Append's function; Layer 12, the program: Append, Cut, Sync -/
import Derived.Test.YtncbgddgkpaoeaaGreatDd29
import Derived.Test.YtncbgddgkpaoeaaGreatDd33
set_option linter.unusedSimpArgs false
set_option linter.unusedVariables false
namespace Go.Proofs.YtncbgddgkpaoeaaGreat
set_option linter.unusedVariables false
open Go.RowKit Go.Lib Go.Maps

set_option maxRecDepth 100000 in
set_option maxHeartbeats 1000000 in
theorem dcut1_any (w : World) (y : Ni) (hy : Ni.fit w y) (ho : y.fi.ok) (n : Int) (hn : InI n) (bn : Nat) (hbn : w.cell? ⟨bn, 0, none⟩ = some (.int .i64 n)) :
    Calls Tryz.prog 69 #[y.v, .pointer (some ⟨bn, 0, none⟩)] w fun e w' => ∃ z : Ni, e = .returned (.tuple #[z.v, .int .i64 (cutX n y.fi).2]) ∧ Ni.fit w' z ∧ z.fi = (cutX n y.fi).1 ∧ Below w.heap.size w w' := by
  have HC := Lib.hid fun W hW => icut_any y n W hW ho (by unfold InI64; unfold InI at hn; omega)
  have HY := Lib.hid hy
  unfold cutX
  dsimp only
  obtain ⟨p, l, cc, q, m, d, zs, L⟩ := y
  generalize Ni.fi ⟨p, l, cc, q, m, d, zs, L⟩ = F at *
  unfold Ni.v at HC ⊢
  dsimp only at HC ⊢
  obtain ⟨wA, hA⟩ : ∃ A, (w.alloc (.cells #[.slice p l cc, .slice q m d] 73)).alloc (.cells #[.slice none 0 0, .slice none 0 0] 73) = A := ⟨_, rfl⟩
  have HBA : Hid (Below w.heap.size w wA) := Lib.hid (by rw [← hA]; exact ((Below.refl _ _).alloc (Nat.le_refl _) _).alloc (by simp) _)
  have HZA : Hid (Iw wA (w.heap.size + 1) ni0) := Lib.hid (by rw [← hA]; exact two_new _ _ _)
  have HIA : Hid (Iw wA w.heap.size ⟨p, l, cc, q, m, d, zs, L⟩) := Lib.hid (by rw [← hA]; exact Iw.later (heap_alloc_new _ _) ((Below.refl _ _).alloc (Nat.le_refl _) _))
  have hbA : wA.cell? ⟨bn, 0, none⟩ = some (.int .i64 n) := by rw [HBA.out.cell (World.block_lt_of_cell? w _ hbn)]; exact hbn
  obtain ⟨i0, i1⟩ := HIA.out.cells
  clear hy ho hbn
  go_enter Tryz.func69, Tryz.ntmps69
  go_wp2_with (go_at_call 70; refine (HC.out _ (HY.out.later HBA.out)).mono ?_; rintro e w2 ⟨⟨zp, zn, zc, zq, zm, zd, zz, zL⟩, rfl, hf2, hz2, hb2⟩; have HF2 := Lib.hid hf2; have HZ2 := Lib.hid hz2; have HB2 := Lib.hid (below_step HBA.out hb2); have HI2 := Lib.hid (HZA.out.later hb2); obtain ⟨z0, z1⟩ := HI2.out.cells; have f0 := HI2.out.frozen 0; have f1 := HI2.out.frozen 1; clear hf2 hz2 hb2)
  refine bodyPost_ret (Iw.results_tmp (y := ⟨zp, zn, zc, zq, zm, zd, zz, zL⟩) (cells2_stored HI2.out _ _) rfl _ rfl) rfl ?_
  exact ⟨_, rfl, HF2.out.stored HI2.out.sl2 (stored2_keep _ _ _ _), HZ2.out, (HB2.out.setCell (p := ⟨w.heap.size + 1, 0, none⟩) (Nat.le_succ _) _).setCell (p := ⟨w.heap.size + 1, 1, none⟩) (Nat.le_succ _) _⟩
set_option maxRecDepth 100000 in
set_option maxHeartbeats 1000000 in
theorem dsyn1_any (w : World) (y : Ni) (hy : Ni.fit w y) (ho : y.fi.ok) :
    Calls Tryz.prog 56 #[y.v] w fun e w' => ∃ z : Ni, e = .returned (.tuple #[z.v, .int .i64 (synX y.fi).2]) ∧ Ni.fit w' z ∧ z.fi = (synX y.fi).1 ∧ Below w.heap.size w w' := by
  have HC := Lib.hid fun W hW => isync_any y W hW ho
  have HY := Lib.hid hy
  unfold synX
  dsimp only
  obtain ⟨p, l, cc, q, m, d, zs, L⟩ := y
  generalize Ni.fi ⟨p, l, cc, q, m, d, zs, L⟩ = F at *
  unfold Ni.v at HC ⊢
  dsimp only at HC ⊢
  obtain ⟨wA, hA⟩ : ∃ A, (w.alloc (.cells #[.slice p l cc, .slice q m d] 73)).alloc (.cells #[.slice none 0 0, .slice none 0 0] 73) = A := ⟨_, rfl⟩
  have HBA : Hid (Below w.heap.size w wA) := Lib.hid (by rw [← hA]; exact ((Below.refl _ _).alloc (Nat.le_refl _) _).alloc (by simp) _)
  have HZA : Hid (Iw wA (w.heap.size + 1) ni0) := Lib.hid (by rw [← hA]; exact two_new _ _ _)
  have HIA : Hid (Iw wA w.heap.size ⟨p, l, cc, q, m, d, zs, L⟩) := Lib.hid (by rw [← hA]; exact Iw.later (heap_alloc_new _ _) ((Below.refl _ _).alloc (Nat.le_refl _) _))
  obtain ⟨i0, i1⟩ := HIA.out.cells
  clear hy ho
  go_enter Tryz.func56, Tryz.ntmps56
  go_wp2_with (go_at_call 57; refine (HC.out _ (HY.out.later HBA.out)).mono ?_; rintro e w2 ⟨⟨zp, zn, zc, zq, zm, zd, zz, zL⟩, rfl, hf2, hz2, hb2⟩; have HF2 := Lib.hid hf2; have HZ2 := Lib.hid hz2; have HB2 := Lib.hid (below_step HBA.out hb2); have HI2 := Lib.hid (HZA.out.later hb2); obtain ⟨z0, z1⟩ := HI2.out.cells; have f0 := HI2.out.frozen 0; have f1 := HI2.out.frozen 1; clear hf2 hz2 hb2)
  refine bodyPost_ret (Iw.results_tmp (y := ⟨zp, zn, zc, zq, zm, zd, zz, zL⟩) (cells2_stored HI2.out _ _) rfl _ rfl) rfl ?_
  exact ⟨_, rfl, HF2.out.stored HI2.out.sl2 (stored2_keep _ _ _ _), HZ2.out, (HB2.out.setCell (p := ⟨w.heap.size + 1, 0, none⟩) (Nat.le_succ _) _).setCell (p := ⟨w.heap.size + 1, 1, none⟩) (Nat.le_succ _) _⟩
end Go.Proofs.YtncbgddgkpaoeaaGreat

namespace Go.Proofs.YtncbgddgkpaoeaaGreat
set_option linter.unusedVariables false
open Go.RowKit Go.Lib Go.Maps

theorem roomP_app {x : Fi} (h : x.b.length ≤ 1048576) (b : List Int) : 0 ≤ roomP (appendP x b) ∧ roomP (appendP x b) ≤ 1048576 := by
  refine ⟨roomP_pos _, roomP_le ?_⟩
  unfold appendP
  split
  · exact h
  · split <;> exact h
theorem appX_one {d : Dk} {b : List Int} {x : Fi} : (appX d b x).1 = appendP x b := rfl
theorem appX_err {d : Dk} {b : List Int} {x : Fi} (h : appendE x b ≠ 0) : (appX d b x).2 = appendE x b := if_pos h
theorem appX_more {d : Dk} {b : List Int} {x : Fi} (h : appendE x b = 0) (h2 : ¬ roomP x < roomP (appendP x b)) : (appX d b x).2 = 0 := by
  show (if appendE x b ≠ 0 then appendE x b else if roomP x < roomP (appendP x b) ∧ d.lb < usedK d.K + (roomP (appendP x b) - roomP x) then 9 else 0) = 0
  rw [if_neg (fun e => e h), if_neg (fun e => h2 e.1)]
theorem appX_room {d : Dk} {b : List Int} {x : Fi} (h : appendE x b = 0) (h2 : roomP x < roomP (appendP x b)) : (appX d b x).2 = if d.lb < usedK d.K + (roomP (appendP x b) - roomP x) then 9 else 0 := by
  show (if appendE x b ≠ 0 then appendE x b else if roomP x < roomP (appendP x b) ∧ d.lb < usedK d.K + (roomP (appendP x b) - roomP x) then 9 else 0) = _
  rw [if_neg (fun e => e h)]
  by_cases h3 : d.lb < usedK d.K + (roomP (appendP x b) - roomP x)
  · rw [if_pos ⟨h2, h3⟩, if_pos h3]
  · rw [if_neg (fun e => h3 e.2), if_neg h3]

set_option maxRecDepth 100000 in
set_option maxHeartbeats 2000000 in
theorem dapp1_any {w : World} {D M m : Nat} {d : Dk} {x : Fo} {fu : Int} {g : Int → Option Ni} (h : Dx w D M d x fu g) (hd : d.Ok m) (hm : m ≤ 1048574) (y : Ni) (hy : Ni.fit w y) (hyb : y.fi.b.length ≤ 1048576) (ho : y.fi.ok) (hl : y.fi.l.length ≤ 1048574)
    (r : Option Addr) (l e : Nat) (bs : List Int) (hb : Bs w r l bs) (hr : r = none → e = 0) (hle : l ≤ e) (hll : l ≤ 1048576) (bb bd : Nat) (hbb : w.cell? ⟨bb, 0, none⟩ = some (.slice r l e)) (hbd : w.cell? ⟨bd, 0, none⟩ = some (.pointer (some ⟨D, 0, none⟩))) :
    Calls Tryz.prog 52 #[y.v, .pointer (some ⟨bb, 0, none⟩), .pointer (some ⟨bd, 0, none⟩)] w fun e w' => ∃ z : Ni, e = .returned (.tuple #[z.v, .int .i64 (appX d bs y.fi).2]) ∧ Ni.fit w' z ∧ z.fi = (appX d bs y.fi).1 ∧ Below w.heap.size w w' := by
  have HC := Lib.hid fun W (hW : Below w.heap.size w W) => iappend_any y r l e bs W (hy.later hW) ho (hb.later hW) hr hle (by omega)
  have HRX := Lib.hid fun W (hW : Below w.heap.size w W) => iroom_any y W (hy.later hW) ho
  have HAO := Lib.hid (appendP_ok ho (by have := hb.1; omega) hl : (appendP y.fi bs).ok)
  have HUS := Lib.hid fun W (hW : Below w.heap.size w W) => dused_any (h.later hW) hd (by omega)
  have hup := hd.used (by omega : m ≤ 1048575)
  have hr0 := roomP_pos y.fi
  have hr1 := roomP_le hyb
  have hq := roomP_app hyb bs
  have hlb := hd.lb
  unfold InI at hlb
  have HE1 := Lib.hid fun (e : appendE y.fi bs ≠ 0) => appX_err (d := d) e
  have HE2 := Lib.hid fun (e : appendE y.fi bs = 0) (e2 : ¬ roomP y.fi < roomP (appendP y.fi bs)) => appX_more (d := d) e e2
  have HE3 := Lib.hid fun (e : appendE y.fi bs = 0) (e2 : roomP y.fi < roomP (appendP y.fi bs)) => appX_room (d := d) e e2
  have HY := Lib.hid hy
  have HX := Lib.hid h
  rw [appX_one]
  obtain ⟨p, n, cc, q, mm, dd, zs, L⟩ := y
  generalize Ni.fi ⟨p, n, cc, q, mm, dd, zs, L⟩ = F at *
  generalize (appX d bs F).2 = eX at *
  generalize appendE F bs = eA at *
  generalize roomP F = R0 at *
  unfold Ni.v at HC HRX ⊢
  dsimp only at HC HRX ⊢
  obtain ⟨wA, hA⟩ : ∃ A, (w.alloc (.cells #[.slice p n cc, .slice q mm dd] 73)).alloc (.cells #[.slice none 0 0, .slice none 0 0] 73) = A := ⟨_, rfl⟩
  have HBA : Hid (Below w.heap.size w wA) := Lib.hid (by rw [← hA]; exact ((Below.refl _ _).alloc (Nat.le_refl _) _).alloc (by simp) _)
  have HSA : Hid (wA.heap.size = w.heap.size + 2) := Lib.hid (by rw [← hA]; simp)
  have HZA : Hid (Iw wA (w.heap.size + 1) ni0) := Lib.hid (by rw [← hA]; exact two_new _ _ _)
  have HIA : Hid (Iw wA w.heap.size ⟨p, n, cc, q, mm, dd, zs, L⟩) := Lib.hid (by rw [← hA]; exact Iw.later (heap_alloc_new _ _) ((Below.refl _ _).alloc (Nat.le_refl _) _))
  have hbA : wA.cell? ⟨bb, 0, none⟩ = some (.slice r l e) := by rw [HBA.out.cell (World.block_lt_of_cell? w _ hbb)]; exact hbb
  obtain ⟨i0, i1⟩ := HIA.out.cells
  have HBD := Lib.hid hbd
  clear h hd hy ho hl hb hbb hbd hyb
  go_enter Tryz.func52, Tryz.ntmps52
  go_wp2_with (go_at_call 53; refine (HC.out _ HBA.out).mono ?_; rintro e w2 ⟨⟨zp, zn, zc, zq, zm, zd, zz, zL⟩, rfl, hf2, hz2, hb2⟩; have HF2 := Lib.hid hf2; have HZ2 := Lib.hid hz2; have HB2 := Lib.hid (below_step HBA.out hb2); have HX2 := Lib.hid hb2; clear hf2 hz2 hb2 i0 i1 hbA)
  obtain ⟨w3, hw3⟩ : ∃ W, w2.alloc (.cells #[.slice zp zn zc, .slice zq zm zd] 73) = W := ⟨_, rfl⟩
  obtain ⟨G, hG⟩ : ∃ G, w2.heap.size = G := ⟨_, rfl⟩
  have HX3 : Hid (Below w2.heap.size w2 w3) := Lib.hid (by rw [← hw3]; exact (Below.refl _ _).alloc (Nat.le_refl _) _)
  have HB3 := Lib.hid (below_step HB2.out HX3.out)
  have HF3 := Lib.hid (HF2.out.later HX3.out)
  have HZ3 : Hid (Iw w3 G ⟨zp, zn, zc, zq, zm, zd, zz, zL⟩) := Lib.hid (by rw [← hw3, ← hG]; exact heap_alloc_new _ _)
  have HR3 := Lib.hid ((HZA.out.later HX2.out).later HX3.out)
  have HI3 := Lib.hid ((HIA.out.later HX2.out).later HX3.out)
  have HRZ := Lib.hid fun W (hW : Below w3.heap.size w3 W) => iroom_any ⟨zp, zn, zc, zq, zm, zd, zz, zL⟩ W (HF3.out.later hW) (by rw [HZ2.out]; exact HAO.out)
  rw [HZ2.out] at HRZ
  unfold Ni.v at HRZ
  dsimp only at HRZ
  generalize roomP (appendP F bs) = R1 at *
  obtain ⟨G0, hG0⟩ : ∃ G, w.heap.size = G := ⟨_, rfl⟩
  obtain ⟨G1, hG1⟩ : ∃ G, G0 + 1 = G := ⟨_, rfl⟩
  have HR3 : Hid (Iw w3 G1 ni0) := Lib.hid (by rw [← hG1, ← hG0]; exact HR3.out)
  have HI3 : Hid (Iw w3 G0 ⟨p, n, cc, q, mm, dd, zs, L⟩) := Lib.hid (by rw [← hG0]; exact HI3.out)
  have HG1 : Hid (w.heap.size ≤ G1) := Lib.hid (by omega)
  have HK : Hid (∀ W, Below w3.heap.size w3 W → W.cell? ⟨G, 0, none⟩ = some (.slice zp zn zc) ∧ W.cell? ⟨G, 1, none⟩ = some (.slice zq zm zd) ∧ W.cell? ⟨G0, 0, none⟩ = some (.slice p n cc) ∧ W.cell? ⟨G0, 1, none⟩ = some (.slice q mm dd) ∧ W.cell? ⟨bd, 0, none⟩ = some (.pointer (some ⟨D, 0, none⟩)) ∧ W.cell? ⟨D, 0, none⟩ = some (.int .i64 d.lb)) := Lib.hid fun W hW => by
    have hbw := below_step HB3.out hW
    exact ⟨(HZ3.out.later hW).cells.1, (HZ3.out.later hW).cells.2, (HI3.out.later hW).cells.1, (HI3.out.later hW).cells.2, by rw [hbw.cell (World.block_lt_of_cell? w _ HBD.out)]; exact HBD.out, (HX.out.later hbw).cells.1⟩
  have HD3 : Hid (Below w3.heap.size w3 w3.drew) := Lib.hid ((Below.refl _ _).drew)
  have hsub : IntKind.i64.wrap (R1 - R0) = R1 - R0 := by rw [IntKind.wrap_i64]; omega
  have k3 := HK.out _ (Below.refl _ _)
  have k3a := HK.out _ HD3.out
  simp only [hw3, hG, hG0, hG1]
  clear hw3 hG hG0 hG1 hA
  go_wp2_with fail
  go_region_held3 (fun W => W.cell? ⟨G, 0, none⟩ = some (.slice zp zn zc) ∧ W.cell? ⟨G, 1, none⟩ = some (.slice zq zm zd) ∧ W.cell? ⟨G0, 0, none⟩ = some (.slice p n cc) ∧ W.cell? ⟨G0, 1, none⟩ = some (.slice q mm dd) ∧ W.cell? ⟨bd, 0, none⟩ = some (.pointer (some ⟨D, 0, none⟩)) ∧ W.cell? ⟨D, 0, none⟩ = some (.int .i64 d.lb)) (first | exact k3 | exact k3a | exact k4 | exact k5) (first
    | (fail_if_success (have hh := HB4.out)
       go_at_call 54; refine (HRZ.out _ HD3.out).mono ?_; rintro e w4 ⟨rfl, hb4⟩; have HB4 := Lib.hid (below_step HD3.out hb4); have k4 := HK.out _ HB4.out; clear hb4)
    | (go_at_call 54; refine (HRX.out _ (below_step HB3.out HB4.out)).mono ?_; rintro e w5 ⟨rfl, hb5⟩; have HB5 := Lib.hid (below_step HB4.out hb5); have k5 := HK.out _ HB5.out; clear hb5))
  have HB5' := Lib.hid (below_step HB3.out HB5.out)
  have HF5 := Lib.hid (HF3.out.later HB5.out)
  have HR5 := Lib.hid (HR3.out.later HB5.out)
  have HD5 : Hid (Below w5.heap.size w5 w5.drew) := Lib.hid ((Below.refl _ _).drew)
  have HD5' := Lib.hid (below_step HB5'.out HD5.out)
  have HB5d := Lib.hid (below_step HB5.out HD5.out)
  have k5a := HK.out _ HB5d.out
  have HUS5 := Lib.hid (HUS.out _ HD5'.out)
  generalize usedK d.K = U at *
  clear k3 k3a k4 HC HRX HRZ HAO HUS hsub
  by_cases he : eA = 0
  · by_cases h2 : R0 < R1
    · have hadd : IntKind.i64.wrap (U + (R1 - R0)) = U + (R1 - R0) := by rw [IntKind.wrap_i64]; omega
      have h2b : decide (R1 - R0 > 0) = true := by simp; omega
      by_cases h3 : d.lb < U + (R1 - R0)
      · have HEX : Hid (eX = 9) := Lib.hid (by rw [HE3.out he h2, if_pos h3])
        have h3b : decide (U + (R1 - R0) > d.lb) = true := by simp; omega
        clear HE1 HE2 HE3
        subst he
        go_wp2_with fail
        go_region_held3 (fun W => W.cell? ⟨G, 0, none⟩ = some (.slice zp zn zc) ∧ W.cell? ⟨G, 1, none⟩ = some (.slice zq zm zd) ∧ W.cell? ⟨G0, 0, none⟩ = some (.slice p n cc) ∧ W.cell? ⟨G0, 1, none⟩ = some (.slice q mm dd) ∧ W.cell? ⟨bd, 0, none⟩ = some (.pointer (some ⟨D, 0, none⟩)) ∧ W.cell? ⟨D, 0, none⟩ = some (.int .i64 d.lb)) (first | exact k5 | exact k5a | exact k6) (first
          | (go_at_call 55; refine HUS5.out.mono ?_; rintro e w6 ⟨rfl, hb6⟩; have HB6 := Lib.hid (below_step HB5d.out hb6); have k6 := HK.out _ HB6.out; clear hb6))
        have HR6 := Lib.hid (HR3.out.later HB6.out)
        have HF6 := Lib.hid (HF3.out.later HB6.out)
        have HBW := Lib.hid (below_step HB3.out HB6.out)
        obtain ⟨z0, z1⟩ := HR6.out.cells
        have f0 := HR6.out.frozen 0
        have f1 := HR6.out.frozen 1
        go_wp2
        refine bodyPost_ret (Iw.results_tmp (y := ⟨zp, zn, zc, zq, zm, zd, zz, zL⟩) (cells2_stored HR6.out _ _) rfl _ rfl) rfl ?_
        exact ⟨_, by rw [HEX.out]; rfl, HF6.out.stored HR6.out.sl2 (stored2_keep _ _ _ _), HZ2.out, (HBW.out.setCell (p := ⟨G1, 0, none⟩) HG1.out _).setCell (p := ⟨G1, 1, none⟩) HG1.out _⟩
      · have HEX : Hid (eX = 0) := Lib.hid (by rw [HE3.out he h2, if_neg h3])
        have h3b : decide (U + (R1 - R0) > d.lb) = false := by simp; omega
        clear HE1 HE2 HE3
        subst he
        go_wp2_with fail
        go_region_held3 (fun W => W.cell? ⟨G, 0, none⟩ = some (.slice zp zn zc) ∧ W.cell? ⟨G, 1, none⟩ = some (.slice zq zm zd) ∧ W.cell? ⟨G0, 0, none⟩ = some (.slice p n cc) ∧ W.cell? ⟨G0, 1, none⟩ = some (.slice q mm dd) ∧ W.cell? ⟨bd, 0, none⟩ = some (.pointer (some ⟨D, 0, none⟩)) ∧ W.cell? ⟨D, 0, none⟩ = some (.int .i64 d.lb)) (first | exact k5 | exact k5a | exact k6) (first
          | (go_at_call 55; refine HUS5.out.mono ?_; rintro e w6 ⟨rfl, hb6⟩; have HB6 := Lib.hid (below_step HB5d.out hb6); have k6 := HK.out _ HB6.out; clear hb6))
        have HR6 := Lib.hid (HR3.out.later HB6.out)
        have HF6 := Lib.hid (HF3.out.later HB6.out)
        have HBW := Lib.hid (below_step HB3.out HB6.out)
        obtain ⟨z0, z1⟩ := HR6.out.cells
        have f0 := HR6.out.frozen 0
        have f1 := HR6.out.frozen 1
        go_wp2
        refine bodyPost_ret (Iw.results_tmp (y := ⟨zp, zn, zc, zq, zm, zd, zz, zL⟩) (cells2_stored HR6.out _ _) rfl _ rfl) rfl ?_
        exact ⟨_, by rw [HEX.out]; rfl, HF6.out.stored HR6.out.sl2 (stored2_keep _ _ _ _), HZ2.out, (HBW.out.setCell (p := ⟨G1, 0, none⟩) HG1.out _).setCell (p := ⟨G1, 1, none⟩) HG1.out _⟩
    · have HEX : Hid (eX = 0) := Lib.hid (HE2.out he (by omega))
      have h2b : decide (R0 < R1) = false := by simpa using h2
      clear HE1 HE2 HE3
      subst he
      go_wp2_with fail
      go_quiet (fail)
      have HBQ := Lib.hid (below_drewN HB5.out nq)
      generalize w5.drewN nq = w6 at *
      have HR6 := Lib.hid (HR3.out.later HBQ.out)
      have HF6 := Lib.hid (HF3.out.later HBQ.out)
      have HBW := Lib.hid (below_step HB3.out HBQ.out)
      have k6 := HK.out _ HBQ.out
      obtain ⟨z0, z1⟩ := HR6.out.cells
      have f0 := HR6.out.frozen 0
      have f1 := HR6.out.frozen 1
      go_wp2
      refine bodyPost_ret (Iw.results_tmp (y := ⟨zp, zn, zc, zq, zm, zd, zz, zL⟩) (cells2_stored HR6.out _ _) rfl _ rfl) rfl ?_
      exact ⟨_, by rw [HEX.out]; rfl, HF6.out.stored HR6.out.sl2 (stored2_keep _ _ _ _), HZ2.out, (HBW.out.setCell (p := ⟨G1, 0, none⟩) HG1.out _).setCell (p := ⟨G1, 1, none⟩) HG1.out _⟩
  · have HEX : Hid (eX = eA) := Lib.hid (HE1.out he)
    have hk : (eA == 0) = false := by simpa using he
    clear he
    clear HE1 HE2 HE3
    go_wp2_with fail
    go_quiet (fail)
    have HBQ := Lib.hid (below_drewN HB5.out nq)
    generalize w5.drewN nq = w6 at *
    have HR6 := Lib.hid (HR3.out.later HBQ.out)
    have HF6 := Lib.hid (HF3.out.later HBQ.out)
    have HBW := Lib.hid (below_step HB3.out HBQ.out)
    have k6 := HK.out _ HBQ.out
    obtain ⟨z0, z1⟩ := HR6.out.cells
    have f0 := HR6.out.frozen 0
    have f1 := HR6.out.frozen 1
    go_wp2
    refine bodyPost_ret (Iw.results_tmp (y := ⟨zp, zn, zc, zq, zm, zd, zz, zL⟩) (cells2_stored HR6.out _ _) rfl _ rfl) rfl ?_
    exact ⟨_, by rw [HEX.out]; rfl, HF6.out.stored HR6.out.sl2 (stored2_keep _ _ _ _), HZ2.out, (HBW.out.setCell (p := ⟨G1, 0, none⟩) HG1.out _).setCell (p := ⟨G1, 1, none⟩) HG1.out _⟩
end Go.Proofs.YtncbgddgkpaoeaaGreat

namespace Go.Proofs.YtncbgddgkpaoeaaGreat
set_option linter.unusedVariables false
open Go.RowKit Go.Lib Go.Maps

theorem Dk.Ok.atFi {m : Nat} {d : Dk} (h : d.Ok m) (hm : m ≤ 1048573) {F : Fi} (hF : ∃ i, F = atK d.K i) : F.ok ∧ F.b.length ≤ 1048576 ∧ F.l.length ≤ 1048574 := by
  obtain ⟨i, rfl⟩ := hF
  have h1 := h.at' i
  exact ⟨h.fi (by omega) i, h1.1, by omega⟩
set_option maxRecDepth 100000 in
set_option maxHeartbeats 1000000 in
theorem dappend_any {w : World} {D M m : Nat} {d : Dk} (h : Dw w D M d) (ho : d.Ok m) (hm : m ≤ 1048573) (s : ByteArray) (hs : s.size ≤ 1048576) (r : Option Addr) (l e : Nat) (bs : List Int) (hb : Bs w r l bs) (hr : r = none → e = 0) (hle : l ≤ e) (hll : l ≤ 1048576) :
    Calls Tryz.prog 16 #[.pointer (some ⟨D, 0, none⟩), .string s, .slice r l e] w fun e w' => e = .returned (.int .i64 (powP d (fun d => editP d s (appX d bs))).2) ∧ Dw w' D M (powP d (fun d => editP d s (appX d bs))).1 ∧ Kp D M w w' := by
  obtain ⟨x, fu, g, h⟩ := h
  obtain ⟨wb0, hA0⟩ : ∃ A, w.alloc (.cells #[.pointer (some ⟨D, 0, none⟩)] 26) = A := ⟨_, rfl⟩
  obtain ⟨G0, hG0⟩ : ∃ G, w.heap.size = G := ⟨_, rfl⟩
  have hB0 : Below w.heap.size w wb0 := by rw [← hA0]; exact (Below.refl _ _).alloc (Nat.le_refl _) _
  have hS0 := hB0.size
  obtain ⟨wA, hA1⟩ : ∃ A, wb0.alloc (.cells #[.slice r l e] 32) = A := ⟨_, rfl⟩
  obtain ⟨G1, hG1⟩ : ∃ G, wb0.heap.size = G := ⟨_, rfl⟩
  have hB1 : Below wb0.heap.size wb0 wA := by rw [← hA1]; exact (Below.refl _ _).alloc (Nat.le_refl _) _
  have hS1 := hB1.size
  have HBA : Hid (Below w.heap.size w wA) := Lib.hid (below_step hB0 hB1)
  have k0 : wA.cell? ⟨G0, 0, none⟩ = some (.pointer (some ⟨D, 0, none⟩)) := by
    refine cell_below (?_) hB1
    rw [← hA0, ← hG0]; exact cell_alloc1 _ _ _ rfl
  have k1 : wA.cell? ⟨G1, 0, none⟩ = some (.slice r l e) := by
    rw [← hA1, ← hG1]; exact cell_alloc1 _ _ _ rfl
  have HXA := Lib.hid (h.later HBA.out)
  have hDl := h.lt
  have hMl := h.m.lt
  have hn0 : G0 ≠ D ∧ G0 ≠ M ∧ G1 ≠ D ∧ G1 ≠ M := by omega
  have HTO := Lib.hid (tick_ok ho)
  have HBS := Lib.hid (hb.later HBA.out)
  have HE := Lib.hid (dedit_any HXA.out ho (by omega) s hs 52 (enters_of Tryz.func52 (by kernel_rfl) rfl) (.pointer (some ⟨G1, 0, none⟩)) (.pointer (some ⟨G0, 0, none⟩)) (appX (tickP d) bs) (fun w1 fu1 y hx1 hk1 hy hi => by
    obtain ⟨h1, h2, h3⟩ := ho.atFi hm hi
    exact dapp1_any hx1 HTO.out (by omega) y hy h2 h1 h3 r l e bs (HBS.out.kp hk1 HXA.out.nix.1 HXA.out.nix.2) hr hle hll G1 G0 (cell_kp k1 hk1 hn0.2.2.1 hn0.2.2.2) (cell_kp k0 hk1 hn0.1 hn0.2.1)) (powP d (fun d => editP d s (appX d bs))) rfl)
  generalize powP d (fun d => editP d s (appX d bs)) = R at *
  clear h hDl hMl hn0 hB0 hS0 hB1 hS1 hb
  go_enter Tryz.func16, Tryz.ntmps16
  go_wp2_with (go_at_call 51; refine HE.out.mono ?_; rintro e w2 ⟨rfl, hx2, hk2⟩; have HX2 := Lib.hid hx2; have HK2 := Lib.hid hk2; clear hx2 hk2)
  go_ret
  exact ⟨rfl, HX2.out, (Kp.of_below HBA.out).trans HK2.out⟩
set_option maxRecDepth 100000 in
set_option maxHeartbeats 1000000 in
theorem dcut_any {w : World} {D M m : Nat} {d : Dk} (h : Dw w D M d) (ho : d.Ok m) (hm : m ≤ 1048573) (s : ByteArray) (hs : s.size ≤ 1048576) (n : Int) (hn : InI n) :
    Calls Tryz.prog 35 #[.pointer (some ⟨D, 0, none⟩), .string s, .int .i64 n] w fun e w' => e = .returned (.int .i64 (powP d (fun d => editP d s (cutX n))).2) ∧ Dw w' D M (powP d (fun d => editP d s (cutX n))).1 ∧ Kp D M w w' := by
  obtain ⟨x, fu, g, h⟩ := h
  obtain ⟨wA, hA0⟩ : ∃ A, w.alloc (.cells #[.int .i64 n] 3) = A := ⟨_, rfl⟩
  obtain ⟨G0, hG0⟩ : ∃ G, w.heap.size = G := ⟨_, rfl⟩
  have hB0 : Below w.heap.size w wA := by rw [← hA0]; exact (Below.refl _ _).alloc (Nat.le_refl _) _
  have HBA := Lib.hid hB0
  have k0 : wA.cell? ⟨G0, 0, none⟩ = some (.int .i64 n) := by
    rw [← hA0, ← hG0]; exact cell_alloc1 _ _ _ rfl
  have HXA := Lib.hid (h.later HBA.out)
  have hDl := h.lt
  have hMl := h.m.lt
  have hn0 : G0 ≠ D ∧ G0 ≠ M := by omega
  have HE := Lib.hid (dedit_one HXA.out ho (by omega) s hs 69 (enters_of Tryz.func69 (by kernel_rfl) rfl) (.pointer (some ⟨G0, 0, none⟩)) (cutX n) (fun w1 fu1 y hx1 hk1 hy hi => by
    obtain ⟨h1, h2, h3⟩ := ho.atFi hm hi
    exact dcut1_any w1 y hy h1 n hn G0 (cell_kp k0 hk1 hn0.1 hn0.2)) (powP d (fun d => editP d s (cutX n))) rfl)
  generalize powP d (fun d => editP d s (cutX n)) = R at *
  clear h hDl hMl hn0 hB0
  go_enter Tryz.func35, Tryz.ntmps35
  go_wp2_with (go_at_call 51; refine HE.out.mono ?_; rintro e w2 ⟨rfl, hx2, hk2⟩; have HX2 := Lib.hid hx2; have HK2 := Lib.hid hk2; clear hx2 hk2)
  go_ret
  exact ⟨rfl, HX2.out, (Kp.of_below HBA.out).trans HK2.out⟩
set_option maxRecDepth 100000 in
set_option maxHeartbeats 1000000 in
theorem dsync_any {w : World} {D M m : Nat} {d : Dk} (h : Dw w D M d) (ho : d.Ok m) (hm : m ≤ 1048573) (s : ByteArray) (hs : s.size ≤ 1048576) :
    Calls Tryz.prog 17 #[.pointer (some ⟨D, 0, none⟩), .string s] w fun e w' => e = .returned (.int .i64 (powP d (fun d => editP d s synX)).2) ∧ Dw w' D M (powP d (fun d => editP d s synX)).1 ∧ Kp D M w w' := by
  obtain ⟨x, fu, g, h⟩ := h
  have HE := Lib.hid (dedit_none h ho (by omega) s hs 56 (enters_of Tryz.func56 (by kernel_rfl) rfl) synX (fun w1 fu1 y hx1 hk1 hy hi => by
    obtain ⟨h1, h2, h3⟩ := ho.atFi hm hi
    exact dsyn1_any w1 y hy h1) (powP d (fun d => editP d s synX)) rfl)
  generalize powP d (fun d => editP d s synX) = R at *
  clear h
  go_enter Tryz.func17, Tryz.ntmps17
  go_wp2_with (go_at_call 51; refine HE.out.mono ?_; rintro e w2 ⟨rfl, hx2, hk2⟩; have HX2 := Lib.hid hx2; have HK2 := Lib.hid hk2; clear hx2 hk2)
  go_ret
  exact ⟨rfl, HX2.out, HK2.out⟩
end Go.Proofs.YtncbgddgkpaoeaaGreat
