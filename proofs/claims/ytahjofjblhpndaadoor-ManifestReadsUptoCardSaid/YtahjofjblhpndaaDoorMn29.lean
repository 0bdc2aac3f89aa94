/- Layer 17, the program: readBlob -/
import Derived.Test.YtahjofjblhpndaaDoorMn22
import Derived.Test.YtahjofjblhpndaaDoorMn23
import Derived.Test.YtahjofjblhpndaaDoorMn28
set_option linter.unusedSimpArgs false
set_option linter.unusedVariables false
namespace Go.Proofs.YtahjofjblhpndaaDoor
set_option linter.unusedVariables false
open Go.RowKit Go.Lib

theorem cutA_size (c : Int) (s : ByteArray) : (strOfNums (cutA c (numsOf s))).size ≤ s.size ∧ (strOfNums (cutB c (numsOf s))).size ≤ s.size := by
  have hl := numsOf_length s
  have sz : ∀ l : List Int, (strOfNums l).size = l.length := fun l => by
    have h : (strOfNums l).data.toList.length = l.length := by rw [strOfNums_data, List.length_map]
    simpa using h
  rw [sz, sz]
  cases hc : cutC c (numsOf s) with
  | none => unfold cutA cutB; rw [hc]; dsimp only; simp only [List.length_nil]; omega
  | some p =>
    obtain ⟨a, b⟩ := p
    have h := congrArg List.length (cutC_some hc).1
    rw [List.length_append, List.length_cons] at h
    unfold cutA cutB
    rw [hc]
    dsimp only
    omega
theorem cutA_nums (c : Int) (s : ByteArray) : numsOf (strOfNums (cutA c (numsOf s))) = cutA c (numsOf s) ∧ numsOf (strOfNums (cutB c (numsOf s))) = cutB c (numsOf s) := by
  cases hc : cutC c (numsOf s) with
  | none =>
    unfold cutA cutB
    rw [hc]
    dsimp only
    rw [strOfNums_numsOf]
    exact ⟨rfl, rfl⟩
  | some p =>
    obtain ⟨a, b⟩ := p
    have h := (cutC_some hc).1
    unfold cutA cutB
    rw [hc]
    dsimp only
    exact ⟨numsOf_strOfNums (numsOf_byte' (s := s) _ fun x hx => by rw [h]; exact List.mem_append_left _ hx), numsOf_strOfNums (numsOf_byte' (s := s) _ fun x hx => by rw [h]; exact List.mem_append_right _ (List.mem_cons_of_mem _ hx))⟩
set_option maxRecDepth 100000 in
set_option maxHeartbeats 1000000 in
theorem mrblob_any (s : ByteArray) (w : World) (hs : s.size ≤ 140737488355328) (hL : Lw w) :
    Calls Tryd.prog 32 #[.string s] w fun e w' => e = .returned (.tuple #[((rbC (numsOf s)).getD rf0).v, .bool (rbC (numsOf s)).isSome]) ∧ Below w.heap.size w w' := by
  obtain ⟨wA, hA⟩ : ∃ W, w.alloc (.cells rf0C 41) = W := ⟨_, rfl⟩
  have HF0 := Lib.hid (Fm.zero hA)
  have HBA : Hid (Below w.heap.size w wA) := Lib.hid (by rw [← hA]; exact (Below.refl _ _).alloc (Nat.le_refl _) _)
  have HSA : Hid (w.heap.size < wA.heap.size) := Lib.hid HF0.out.lt
  have HCU := Lib.hid fun W => scut_any s 32 W hs
  have hz := cutA_size 32 s
  have hn := cutA_nums 32 s
  have HLW := Lib.hid hL
  have HSZ := Lib.hid dzero_size
  rw [show (((32 : UInt8).toNat : Nat) : Int) = 32 from rfl] at HCU
  unfold cutV at HCU
  obtain ⟨B, hB⟩ : ∃ B, (cutC 32 (numsOf s)).isSome = B := ⟨_, rfl⟩
  rw [hB] at HCU
  have hRB : rbC (numsOf s) = match drd (cutA 32 (numsOf s)) with
      | none => none
      | some d => match szC (cutB 32 (numsOf s)) with
        | none => none
        | some z => some ⟨false, d, z⟩ := rfl
  obtain ⟨R, hR⟩ : ∃ R, rbC (numsOf s) = R := ⟨_, rfl⟩
  rw [hR] at hRB ⊢
  obtain ⟨t, ht⟩ : ∃ t, strOfNums (cutA 32 (numsOf s)) = t := ⟨_, rfl⟩
  obtain ⟨u, hu⟩ : ∃ u, strOfNums (cutB 32 (numsOf s)) = u := ⟨_, rfl⟩
  rw [ht, hu] at hz hn HCU
  rw [← hn.1, ← hn.2] at hRB
  have HRD := Lib.hid fun W => read_ok t W (by omega)
  have HRS := Lib.hid fun W hW => mrsz_any u W (by omega) hW
  rw [rf0C] at hA
  clear hs hz hn hB hR ht hu hL
  cases hd : drd (numsOf t) with
  | none =>
    rw [hd] at hRB
    dsimp only at hRB
    subst hRB
    rw [(drd_none hd).1, (drd_none hd).2] at HRD
    clear hd HRS
    go_enter Tryd.func32, Tryd.ntmps32
    go_wp2_with fail
    refine (HCU.out _).mono ?_
    rintro e w0 ⟨rfl, q0, hq0⟩
    have HB0 : Hid (Below wA.heap.size wA w0) := Lib.hid (by rw [hq0]; exact below_drewN (Below.refl _ _) _)
    clear hq0 HCU
    go_wp2_with fail
    refine (HRD.out _).mono ?_
    rintro e w1 ⟨rfl, hb1⟩
    have HB1 : Hid (Below wA.heap.size wA w1) := Lib.hid (below_step HB0.out hb1)
    clear hb1 HRD
    have HY1 : Hid (Yw (w1.alloc (.cells (bcs dzero) 39)) w1.heap.size 39 dzero) := Lib.hid (heap_alloc_new _ _)
    go_wp2_with (first
      | (refine wpList_store_row rfl 39 _ _ rfl w1.heap.size _ rfl rfl 39 _ HY1.out HSZ.out rfl (bcs_one _) ?_; generalize hw3 : World.setRow _ _ _ = w3; have HD3 := Lib.hid (DgAt.of HBA.out HSA.out HF0.out HB1.out hw3))
      | (refine wpList_build_is rfl 41 _ rfl (mixC rf0.a rf0.dg rf0.t) ?_ ?_; focus (kernel_rfl))
      | (refine wpList_store_row rfl 41 _ _ rfl w.heap.size _ rfl rfl 41 _ HD3.out.f (Rf.sizeOf rf0 rfl) (Rf.sizes rf0 rf0 rfl rfl) rf0.one ?_; generalize hw4 : World.setRow _ _ _ = w4; have HF4 : Hid (Fm w4 w.heap.size rf0) := Lib.hid (by rw [← hw4]; exact HD3.out.f.row); have HB4 := Lib.hid (row_below HD3.out.b (Nat.le_refl _) hw4)))
    refine bodyPost_ret (HF4.out.res2 rfl rfl _ rfl) rfl ⟨rfl, HB4.out⟩
  | some d =>
    rw [hd] at hRB
    dsimp only at hRB
    have HDL := Lib.hid (drd_ok hd)
    have HZ1 : Hid ((Tryd.prog.info? 39).map (·.size) = some (bcs d).size) := Lib.hid (by rw [bcs_size, HDL.out.1]; exact size32)
    have HZ2 : Hid ((bcs dzero).size = (bcs d).size) := Lib.hid (by rw [bcs_size, bcs_size, HDL.out.1]; rfl)
    rw [(drd_some hd).1, (drd_some hd).2] at HRD
    clear hd
    cases hsz : szC (numsOf u) with
    | none =>
      rw [hsz] at hRB HRS
      dsimp only at hRB
      subst hRB
      clear hsz
      go_enter Tryd.func32, Tryd.ntmps32
      go_wp2_with fail
      refine (HCU.out _).mono ?_
      rintro e w0 ⟨rfl, q0, hq0⟩
      have HB0 : Hid (Below wA.heap.size wA w0) := Lib.hid (by rw [hq0]; exact below_drewN (Below.refl _ _) _)
      clear hq0 HCU
      go_wp2_with fail
      refine (HRD.out _).mono ?_
      rintro e w1 ⟨rfl, hb1⟩
      have HB1 : Hid (Below wA.heap.size wA w1) := Lib.hid (below_step HB0.out hb1)
      clear hb1 HRD
      have HY1 : Hid (Yw (w1.alloc (.cells (bcs dzero) 39)) w1.heap.size 39 dzero) := Lib.hid (heap_alloc_new _ _)
      go_wp2_with (first
        | (refine wpList_store_row rfl 39 _ _ rfl w1.heap.size _ rfl rfl 39 _ HY1.out HZ1.out HZ2.out (bcs_one _) ?_; generalize hw3 : World.setRow _ _ _ = w3; have HD3 := Lib.hid (DgAt.of HBA.out HSA.out HF0.out HB1.out hw3))
        | (go_at_call 42; refine (HRS.out _ (HLW.out.later HD3.out.b)).mono ?_; rintro e w5 ⟨rfl, hb5⟩; have HF5 : Hid (Fm w5 w.heap.size rf0) := Lib.hid (HD3.out.f.later hb5); have HB5 := Lib.hid (below_step HD3.out.b hb5); clear hb5)
        | (refine wpList_build_is rfl 41 _ rfl (mixC rf0.a rf0.dg rf0.t) ?_ ?_; focus (kernel_rfl))
        | (refine wpList_store_row rfl 41 _ _ rfl w.heap.size _ rfl rfl 41 _ HF5.out (Rf.sizeOf rf0 rfl) (Rf.sizes rf0 rf0 rfl rfl) rf0.one ?_; generalize hw4 : World.setRow _ _ _ = w4; have HF4 : Hid (Fm w4 w.heap.size rf0) := Lib.hid (by rw [← hw4]; exact HF5.out.row); have HB4 := Lib.hid (row_below HB5.out (Nat.le_refl _) hw4)))
      refine bodyPost_ret (HF4.out.res2 rfl rfl _ rfl) rfl ⟨rfl, HB4.out⟩
    | some z =>
      rw [hsz] at hRB HRS
      dsimp only at hRB
      subst hRB
      clear hsz
      have HBL := Lib.hid (built_rfz z d HDL.out.1)
      obtain ⟨X, hX⟩ : ∃ X : Rf, (⟨false, d, z⟩ : Rf) = X := ⟨_, rfl⟩
      have HXD : Hid (X.dg.length = 32) := Lib.hid (by rw [← hX]; exact HDL.out.1)
      rw [hX] at HBL ⊢
      clear hX
      go_enter Tryd.func32, Tryd.ntmps32
      go_wp2_with fail
      refine (HCU.out _).mono ?_
      rintro e w0 ⟨rfl, q0, hq0⟩
      have HB0 : Hid (Below wA.heap.size wA w0) := Lib.hid (by rw [hq0]; exact below_drewN (Below.refl _ _) _)
      clear hq0 HCU
      go_wp2_with fail
      refine (HRD.out _).mono ?_
      rintro e w1 ⟨rfl, hb1⟩
      have HB1 : Hid (Below wA.heap.size wA w1) := Lib.hid (below_step HB0.out hb1)
      clear hb1 HRD
      have HY1 : Hid (Yw (w1.alloc (.cells (bcs dzero) 39)) w1.heap.size 39 dzero) := Lib.hid (heap_alloc_new _ _)
      go_wp2_with (first
        | (refine wpList_store_row rfl 39 _ _ rfl w1.heap.size _ rfl rfl 39 _ HY1.out HZ1.out HZ2.out (bcs_one _) ?_; generalize hw3 : World.setRow _ _ _ = w3; have HD3 := Lib.hid (DgAt.of HBA.out HSA.out HF0.out HB1.out hw3))
        | (go_at_call 42; refine (HRS.out _ (HLW.out.later HD3.out.b)).mono ?_; rintro e w5 ⟨rfl, hb5⟩; have HF5 : Hid (Fm w5 w.heap.size rf0) := Lib.hid (HD3.out.f.later hb5); have HY5 := Lib.hid (HD3.out.y.later hb5); have HB5 := Lib.hid (below_step HD3.out.b hb5); clear hb5)
        | (refine wpList_ld rfl 39 _ rfl _ rfl _ (yw_load HY5.out HDL.out.1) ?_)
        | (refine wpList_build_is rfl 41 _ rfl (mixC X.a X.dg X.t) ?_ ?_; focus (simp only [List.map_toArray, List.map_cons, List.map_nil]; exact HBL.out))
        | (refine wpList_store_row rfl 41 _ _ rfl w.heap.size _ rfl rfl 41 _ HF5.out (Rf.sizeOf X HXD.out) (Rf.sizes rf0 X rfl HXD.out) X.one ?_; generalize hw4 : World.setRow _ _ _ = w4; have HF4 : Hid (Fm w4 w.heap.size X) := Lib.hid (by rw [← hw4]; exact HF5.out.row); have HB4 := Lib.hid (row_below HB5.out (Nat.le_refl _) hw4)))
      refine bodyPost_ret (HF4.out.res2 HXD.out rfl _ rfl) rfl ⟨rfl, HB4.out⟩
end Go.Proofs.YtahjofjblhpndaaDoor
