/- Layer 17, the program: literals of references; readManifest -/
import Derived.Test.YtahjofjblhpndaaDoorMn2
import Derived.Test.YtahjofjblhpndaaDoorMn5
import Derived.Test.YtahjofjblhpndaaDoorMn10
import Derived.Test.YtahjofjblhpndaaDoorMn15
import Derived.Test.YtahjofjblhpndaaDoorMn21
set_option linter.unusedSimpArgs false
set_option linter.unusedVariables false
namespace Go.Proofs.YtahjofjblhpndaaDoor
set_option linter.unusedVariables false
open Go.RowKit Go.Lib

theorem list32M {l : List Int} (h : l.length = 32) : l = [l.getD 0 0, l.getD 1 0, l.getD 2 0, l.getD 3 0, l.getD 4 0, l.getD 5 0, l.getD 6 0, l.getD 7 0, l.getD 8 0, l.getD 9 0, l.getD 10 0, l.getD 11 0, l.getD 12 0, l.getD 13 0, l.getD 14 0, l.getD 15 0, l.getD 16 0, l.getD 17 0, l.getD 18 0, l.getD 19 0, l.getD 20 0, l.getD 21 0, l.getD 22 0, l.getD 23 0, l.getD 24 0, l.getD 25 0, l.getD 26 0, l.getD 27 0, l.getD 28 0, l.getD 29 0, l.getD 30 0, l.getD 31 0] := by
  have e : l = (List.range 32).map (fun i => l.getD i 0) := by
    refine List.ext_getElem (by simp [h]) fun i h1 h2 => ?_
    simp [List.getD_eq_getElem?_getD, List.getElem?_eq_getElem h1]
  exact e
set_option maxRecDepth 100000 in
theorem built_rfm32 (m : Bool) (a0 a1 a2 a3 a4 a5 a6 a7 a8 a9 a10 a11 a12 a13 a14 a15 a16 a17 a18 a19 a20 a21 a22 a23 a24 a25 a26 a27 a28 a29 a30 a31 : Int) :
    Tryd.prog.built 41 [(0, .bool m), (1, .agg (bcs [a0, a1, a2, a3, a4, a5, a6, a7, a8, a9, a10, a11, a12, a13, a14, a15, a16, a17, a18, a19, a20, a21, a22, a23, a24, a25, a26, a27, a28, a29, a30, a31]))] = some (mixC [.bool m] [a0, a1, a2, a3, a4, a5, a6, a7, a8, a9, a10, a11, a12, a13, a14, a15, a16, a17, a18, a19, a20, a21, a22, a23, a24, a25, a26, a27, a28, a29, a30, a31] [.int .i64 0]) := by kernel_rfl
set_option maxRecDepth 100000 in
theorem built_rfz32 (z : Int) (a0 a1 a2 a3 a4 a5 a6 a7 a8 a9 a10 a11 a12 a13 a14 a15 a16 a17 a18 a19 a20 a21 a22 a23 a24 a25 a26 a27 a28 a29 a30 a31 : Int) :
    Tryd.prog.built 41 [(1, .agg (bcs [a0, a1, a2, a3, a4, a5, a6, a7, a8, a9, a10, a11, a12, a13, a14, a15, a16, a17, a18, a19, a20, a21, a22, a23, a24, a25, a26, a27, a28, a29, a30, a31])), (2, .int .i64 z)] = some (mixC [.bool false] [a0, a1, a2, a3, a4, a5, a6, a7, a8, a9, a10, a11, a12, a13, a14, a15, a16, a17, a18, a19, a20, a21, a22, a23, a24, a25, a26, a27, a28, a29, a30, a31] [.int .i64 z]) := by kernel_rfl
theorem built_rfm (m : Bool) (l : List Int) (h : l.length = 32) : Tryd.prog.built 41 [(0, .bool m), (1, .agg (bcs l))] = some (mixC (Rf.a ⟨m, l, 0⟩) (Rf.dg ⟨m, l, 0⟩) (Rf.t ⟨m, l, 0⟩)) := by
  have e := list32M h
  show _ = some (mixC [.bool m] l [.int .i64 0])
  rw [e]
  exact built_rfm32 m (l.getD 0 0) (l.getD 1 0) (l.getD 2 0) (l.getD 3 0) (l.getD 4 0) (l.getD 5 0) (l.getD 6 0) (l.getD 7 0) (l.getD 8 0) (l.getD 9 0) (l.getD 10 0) (l.getD 11 0) (l.getD 12 0) (l.getD 13 0) (l.getD 14 0) (l.getD 15 0) (l.getD 16 0) (l.getD 17 0) (l.getD 18 0) (l.getD 19 0) (l.getD 20 0) (l.getD 21 0) (l.getD 22 0) (l.getD 23 0) (l.getD 24 0) (l.getD 25 0) (l.getD 26 0) (l.getD 27 0) (l.getD 28 0) (l.getD 29 0) (l.getD 30 0) (l.getD 31 0)
theorem built_rfz (z : Int) (l : List Int) (h : l.length = 32) : Tryd.prog.built 41 [(1, .agg (bcs l)), (2, .int .i64 z)] = some (mixC (Rf.a ⟨false, l, z⟩) (Rf.dg ⟨false, l, z⟩) (Rf.t ⟨false, l, z⟩)) := by
  have e := list32M h
  show _ = some (mixC [.bool false] l [.int .i64 z])
  rw [e]
  exact built_rfz32 z (l.getD 0 0) (l.getD 1 0) (l.getD 2 0) (l.getD 3 0) (l.getD 4 0) (l.getD 5 0) (l.getD 6 0) (l.getD 7 0) (l.getD 8 0) (l.getD 9 0) (l.getD 10 0) (l.getD 11 0) (l.getD 12 0) (l.getD 13 0) (l.getD 14 0) (l.getD 15 0) (l.getD 16 0) (l.getD 17 0) (l.getD 18 0) (l.getD 19 0) (l.getD 20 0) (l.getD 21 0) (l.getD 22 0) (l.getD 23 0) (l.getD 24 0) (l.getD 25 0) (l.getD 26 0) (l.getD 27 0) (l.getD 28 0) (l.getD 29 0) (l.getD 30 0) (l.getD 31 0)
theorem Yw.alloc {w : World} {b : Nat} {t : TypeId} {l : List Int} (h : Yw w b t l) (o : Obj) : Yw (w.alloc o) b t l := h.later ((Below.refl _ _).alloc (Nat.le_refl _) o)
theorem row_below {B : Nat} {w W W' : World} {g : Nat} {cs : Array Value} (hb : Below B w W) (hg : B ≤ g) (h : W.setRow g cs = W') : Below B w W' := by
  rw [← h]
  exact below_setRow8 hb _ _ hg
/-- a digest that is laid and stored: what stands then -/
structure DgAt (B : Nat) (w wA w1 w3 : World) (x : Rf) (d : List Int) : Prop where
  y : Yw w3 w1.heap.size 39 d
  f : Fm w3 w.heap.size x
  b : Below B w w3
theorem DgAt.of {w wA w1 w3 : World} {x : Rf} {d : List Int} (hA : Below w.heap.size w wA) (hs : w.heap.size < wA.heap.size) (hF : Fm wA w.heap.size x) (hb : Below wA.heap.size wA w1)
    (h : (w1.alloc (.cells (bcs dzero) 39)).setRow w1.heap.size (bcs d) = w3) : DgAt w.heap.size w wA w1 w3 x d := by
  have hsz := hb.size
  have h1 : Yw (w1.alloc (.cells (bcs dzero) 39)) w1.heap.size 39 dzero := heap_alloc_new _ _
  have h2 : Below w.heap.size w (w1.alloc (.cells (bcs dzero) 39)) := (below_step hA hb).alloc (by omega) _
  have h3 : Fm (w1.alloc (.cells (bcs dzero) 39)) w.heap.size x := (hF.later hb).later ((Below.refl _ _).alloc (Nat.le_refl _) _)
  exact ⟨by rw [← h]; exact h1.row, h3.keep (rkeep_row h _ (by omega)), row_below h2 (by omega) h⟩
set_option maxRecDepth 100000 in
set_option maxHeartbeats 1000000 in
theorem mrman_any (s : ByteArray) (w : World) (hs : s.size ≤ 140737488355328) :
    Calls Tryd.prog 33 #[.string s] w fun e w' => e = .returned (.tuple #[((rmC (numsOf s)).getD rf0).v, .bool (rmC (numsOf s)).isSome]) ∧ Below w.heap.size w w' := by
  obtain ⟨wA, hA⟩ : ∃ W, w.alloc (.cells rf0C 41) = W := ⟨_, rfl⟩
  have HF0 := Lib.hid (Fm.zero hA)
  have HBA : Hid (Below w.heap.size w wA) := Lib.hid (by rw [← hA]; exact (Below.refl _ _).alloc (Nat.le_refl _) _)
  have HSA : Hid (w.heap.size < wA.heap.size) := Lib.hid HF0.out.lt
  have HRD := Lib.hid fun W => read_ok s W hs
  have HSZ := Lib.hid dzero_size
  rw [rf0C] at hA
  clear hs
  cases hd : drd (numsOf s) with
  | none =>
    have hR : rmC (numsOf s) = none := by unfold rmC; rw [hd]
    rw [(drd_none hd).1, (drd_none hd).2] at HRD
    rw [hR]
    clear hR hd
    go_enter Tryd.func33, Tryd.ntmps33
    go_wp2_with fail
    refine (HRD.out _).mono ?_
    rintro e w1 ⟨rfl, hb1⟩
    have HB1 := Lib.hid hb1
    clear hb1 HRD
    have HY1 : Hid (Yw (w1.alloc (.cells (bcs dzero) 39)) w1.heap.size 39 dzero) := Lib.hid (heap_alloc_new _ _)
    go_wp2_with (first
      | (refine wpList_store_row rfl 39 _ _ rfl w1.heap.size _ rfl rfl 39 _ HY1.out HSZ.out rfl (bcs_one _) ?_; generalize hw3 : World.setRow _ _ _ = w3; have HD3 := Lib.hid (DgAt.of HBA.out HSA.out HF0.out HB1.out hw3))
      | (refine wpList_build_is rfl 41 _ rfl (mixC rf0.a rf0.dg rf0.t) ?_ ?_; focus (kernel_rfl))
      | (refine wpList_store_row rfl 41 _ _ rfl w.heap.size _ rfl rfl 41 _ HD3.out.f (Rf.sizeOf rf0 rfl) (Rf.sizes rf0 rf0 rfl rfl) rf0.one ?_; generalize hw4 : World.setRow _ _ _ = w4; have HF4 : Hid (Fm w4 w.heap.size rf0) := Lib.hid (by rw [← hw4]; exact HD3.out.f.row); have HB4 := Lib.hid (row_below HD3.out.b (Nat.le_refl _) hw4)))
    refine bodyPost_ret (HF4.out.res2 rfl rfl _ rfl) rfl ⟨rfl, HB4.out⟩
  | some d =>
    have hR : rmC (numsOf s) = some ⟨true, d, 0⟩ := by unfold rmC; rw [hd]
    have HDL := Lib.hid (drd_ok hd)
    have HBL := Lib.hid (built_rfm true d HDL.out.1)
    have HZ1 : Hid ((Tryd.prog.info? 39).map (·.size) = some (bcs d).size) := Lib.hid (by rw [bcs_size, HDL.out.1]; exact size32)
    have HZ2 : Hid ((bcs dzero).size = (bcs d).size) := Lib.hid (by rw [bcs_size, bcs_size, HDL.out.1]; rfl)
    rw [(drd_some hd).1, (drd_some hd).2] at HRD
    rw [hR]
    obtain ⟨X, hX⟩ : ∃ X : Rf, (⟨true, d, 0⟩ : Rf) = X := ⟨_, rfl⟩
    have HXD : Hid (X.dg.length = 32) := Lib.hid (by rw [← hX]; exact HDL.out.1)
    rw [hX] at HBL ⊢
    clear hR hd hX
    go_enter Tryd.func33, Tryd.ntmps33
    go_wp2_with fail
    refine (HRD.out _).mono ?_
    rintro e w1 ⟨rfl, hb1⟩
    have HB1 := Lib.hid hb1
    clear hb1 HRD
    have HY1 : Hid (Yw (w1.alloc (.cells (bcs dzero) 39)) w1.heap.size 39 dzero) := Lib.hid (heap_alloc_new _ _)
    go_wp2_with (first
      | (refine wpList_store_row rfl 39 _ _ rfl w1.heap.size _ rfl rfl 39 _ HY1.out HZ1.out HZ2.out (bcs_one _) ?_; generalize hw3 : World.setRow _ _ _ = w3; have HD3 := Lib.hid (DgAt.of HBA.out HSA.out HF0.out HB1.out hw3))
      | (refine wpList_ld rfl 39 _ rfl _ rfl _ (yw_load HD3.out.y HDL.out.1) ?_)
      | (refine wpList_build_is rfl 41 _ rfl (mixC X.a X.dg X.t) ?_ ?_; focus (simp only [List.map_toArray, List.map_cons, List.map_nil]; exact HBL.out))
      | (refine wpList_store_row rfl 41 _ _ rfl w.heap.size _ rfl rfl 41 _ HD3.out.f (Rf.sizeOf X HXD.out) (Rf.sizes rf0 X rfl HXD.out) X.one ?_; generalize hw4 : World.setRow _ _ _ = w4; have HF4 : Hid (Fm w4 w.heap.size X) := Lib.hid (by rw [← hw4]; exact HD3.out.f.row); have HB4 := Lib.hid (row_below HD3.out.b (Nat.le_refl _) hw4)))
    refine bodyPost_ret (HF4.out.res2 HXD.out rfl _ rfl) rfl ⟨rfl, HB4.out⟩
end Go.Proofs.YtahjofjblhpndaaDoor
