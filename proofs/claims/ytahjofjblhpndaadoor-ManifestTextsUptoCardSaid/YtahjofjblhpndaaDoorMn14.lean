/- Walks of the reference of layer 6: Text, Read -/
import Derived.Test.YtahjofjblhpndaaDoorMn5
import Derived.Test.YtahjofjblhpndaaDoorMn13
set_option linter.unusedSimpArgs false
set_option linter.unusedVariables false
namespace Go.Proofs.YtahjofjblhpndaaDoor
set_option linter.unusedVariables false
open Go.RowKit Go.Lib

set_option maxRecDepth 100000 in
theorem rtext_any (d : List Int) (w : World) (hd : dok d) :
    Calls Tryd.prog 26 #[.agg (bcs d)] w fun e w' => e = .returned (.string (strOfNums (dtext d))) ∧ Below w.heap.size w w' := by
  have HD := Lib.hid hd
  have HB0 : Hid (Below w.heap.size w (w.alloc (.cells (bcs d) 39))) := Lib.hid ((Below.refl _ _).alloc (Nat.le_refl _) _)
  have HY0 : Hid (Yw (w.alloc (.cells (bcs d) 39)) w.heap.size 39 d) := Lib.hid (heap_alloc_new _ _)
  clear hd
  go_enter Tryd.func26, Tryd.ntmps26
  go_wp2_with fail
  refine (hreftext_any (some ⟨w.heap.size, 0, none⟩) 32 32 d _ (HY0.out.bs HD.out.2 32 HD.out.1) (by omega)).mono ?_
  rintro e w1 ⟨rfl, hb1⟩
  have HB1 := Lib.hid (below_step HB0.out hb1)
  clear hb1
  have HT : Hid (strOfNums (dtext d) = ⟨#[115, 104, 97, 50, 53, 54, 58]⟩ ++ strOfNums (hexs d)) := Lib.hid (by
    apply ByteArray.ext
    apply Array.toList_inj.1
    rw [ByteArray.data_append, Array.toList_append, strOfNums_data, strOfNums_data, dtext, List.map_append]
    rfl)
  have HZ : Hid ((strOfNums (hexs d)).size = 64) := Lib.hid (by
    have h : (strOfNums (hexs d)).data.toList.length = 64 := by rw [strOfNums_data, List.length_map, hexs_length, HD.out.1]
    simpa using h)
  have hz := HZ.out
  generalize strOfNums (hexs d) = tx at *
  go_wp2
  go_ret
  exact ⟨by rw [HT.out]; rfl, HB1.out⟩

set_option maxRecDepth 100000 in
set_option maxHeartbeats 1000000 in
theorem rread_any (s : ByteArray) (w : World) (hs : s.size ≤ 140737488355328) :
    Calls Tryd.prog 34 #[.string s] w fun e w' => e = .returned (.tuple #[.agg (bcs (dans (numsOf s))), .int .i64 (derr (numsOf s))]) ∧ Below w.heap.size w w' := by
  have HW0 : Hid (Yw ((w.alloc (.cells (bcs dzero) 39)).alloc (.cells (bcs dzero) 39)) (w.heap.size + 1) 39 dzero) := Lib.hid (by
    have h := heap_alloc_new (w.alloc (.cells (bcs dzero) 39)) (.cells (bcs dzero) 39)
    rw [World.size_alloc] at h
    exact h)
  have HV0 : Hid (Yw ((w.alloc (.cells (bcs dzero) 39)).alloc (.cells (bcs dzero) 39)) w.heap.size 39 dzero) := Lib.hid (Yw.later (w := w.alloc (.cells (bcs dzero) 39)) (heap_alloc_new _ _) ((Below.refl _ _).alloc (Nat.le_refl _) _))
  have HB0 : Hid (Below w.heap.size w ((w.alloc (.cells (bcs dzero) 39)).alloc (.cells (bcs dzero) 39))) := Lib.hid (((Below.refl _ _).alloc (Nat.le_refl _) _).alloc (by simp) _)
  have HLN : Hid ((numsOf s).length = s.size) := Lib.hid (numsOf_length s)
  have HSZ := Lib.hid dzero_size
  by_cases h71 : s.size = 71
  · by_cases hpre : (numsOf s).take 7 = shaPre
    · have ht : (!(s.extract 0 7).toList == [115, 104, 97, 50, 53, 54, 58]) = false := by
        rw [text_test _ _ shaPre rfl, numsOf_extract, List.drop_zero, hpre]; rfl
      have HD : Hid (drd (numsOf s) = hrd (numsOf (s.extract 7 71))) := Lib.hid (by
        rw [numsOf_extract, drd, if_pos ⟨by rw [numsOf_length, h71], hpre⟩, List.take_of_length_le (by rw [numsOf_length, h71]; omega)])
      have hxs : (s.extract 7 71).size ≤ 140737488355328 := by rw [ByteArray.size_extract]; omega
      clear hpre
      go_enter Tryd.func34, Tryd.ntmps34
      go_wp2_with fail
      refine (hrefread_any (s.extract 7 71) _ hxs).mono ?_
      rintro e w1 ⟨hres, hb1⟩
      have HB1 : Hid (Below w.heap.size w w1) := Lib.hid (below_step HB0.out hb1)
      have HW1 : Hid (Yw w1 (w.heap.size + 1) 39 dzero) := Lib.hid (HW0.out.later hb1)
      have HV1 : Hid (Yw w1 w.heap.size 39 dzero) := Lib.hid (HV0.out.later hb1)
      clear hb1
      rcases hres with ⟨hn, rfl⟩ | ⟨ys, v, hys, rfl, hob⟩
      · rw [hn] at HD
        have HA := Lib.hid (drd_none HD.out)
        clear hn
        go_wp2_with (first
          | (refine wpList_load_row rfl 39 _ rfl (w.heap.size + 1) rfl 39 _ (0, 0) _ HW1.out Tryd.underlying39 rfl HSZ.out ?_)
          | (refine wpList_store_row rfl 39 _ _ rfl w.heap.size _ rfl rfl 39 _ HV1.out HSZ.out rfl (bcs_one _) ?_))
        refine bodyPost_ret (Yw.results_tmp HV1.out.row rfl _ rfl _ Tryd.underlying39 rfl size32) rfl ⟨by rw [HA.out.1, HA.out.2]; rfl, below_setRow8 HB1.out _ _ (Nat.le_refl _)⟩
      · rw [hys] at HD
        have HA := Lib.hid (drd_some HD.out)
        have HOK := Lib.hid (drd_ok HD.out)
        have HOB : Hid (Ob w1 (w.heap.size + 2) 5 v ys) := Lib.hid (hob.mono (by simp))
        clear hob hys
        obtain ⟨p, c, rfl, _, _, _, _⟩ := HOB.out.open
        rw [HOK.out.1] at HOB ⊢
        obtain ⟨g, rfl⟩ := HOB.out.ptr (by omega)
        have HG : Hid (w.heap.size + 2 ≤ g) := Lib.hid HOB.out.block_own.1
        have HY := Lib.hid HOK.out.1
        go_wp2
        go_loopw [7] (fun i wr => ∃ k : Nat, k ≤ 32 ∧ i = .int .i64 (k : Int) ∧ Hid (Yw wr (w.heap.size + 1) 39 (cpK ys k)) ∧ Hid (Yw wr w.heap.size 39 dzero) ∧ Hid (Ob wr (w.heap.size + 2) 5 (.slice (some ⟨g, 0, none⟩) 32 c) ys) ∧ Hid (Below w.heap.size w wr)) (fun i _ => 32 - (intOf i).toNat)
        case atStart => exact ⟨0, by omega, rfl, by rw [cpK_zero]; exact HW1, HV1, HOB, HB1⟩
        case round =>
          clear HW1 HV1 HOB HB1
          obtain ⟨k, hk, rfl, HW1, HV1, HOB, HB1⟩ := hrel
          by_cases hlt : k < 32
          · obtain ⟨hc, hf⟩ := HOB.out.cell k hlt
            have hc2 := HW1.out.cell k (by rw [cpK_length HY.out k hk]; omega)
            have hf2 := HW1.out.frozen k
            have HS := Lib.hid (cpK_set HY.out k hlt)
            generalize ys.getD k 0 = y at *
            go_wp2
            refine ⟨⟨k + 1, by omega, by go_num, ?_, ?_, ?_, ?_⟩, by simp [intOf] <;> omega⟩
            · rw [← HS.out]; exact Lib.hid (HW1.out.set k y)
            · exact Lib.hid (HV1.out.other _ _ (by simp))
            · exact Lib.hid (HOB.out.moved (heap_setCell_other _ _ _ _ (by have := HG.out; simp; omega)))
            · exact Lib.hid (HB1.out.setCell (p := ⟨w.heap.size + 1, k, none⟩) (by simp) _)
          · obtain rfl : k = 32 := by omega
            rw [cpK_all HY.out] at HW1
            have HZ1 : Hid ((Tryd.prog.info? 39).map (·.size) = some (bcs ys).size) := Lib.hid (by rw [bcs_size, HY.out]; exact size32)
            have HZ2 : Hid ((bcs dzero).size = (bcs ys).size) := Lib.hid (by rw [bcs_size, bcs_size, HY.out]; rfl)
            go_wp2_with (first
              | (refine wpList_load_row rfl 39 _ rfl (w.heap.size + 1) rfl 39 _ (0, 0) _ HW1.out Tryd.underlying39 rfl HZ1.out ?_)
              | (refine wpList_store_row rfl 39 _ _ rfl w.heap.size _ rfl rfl 39 _ HV1.out HZ1.out HZ2.out (bcs_one _) ?_))
            refine bodyPost_ret (Yw.results_tmp HV1.out.row rfl _ rfl _ Tryd.underlying39 rfl (by rw [HY.out]; exact size32)) rfl ⟨by rw [HA.out.1, HA.out.2]; rfl, below_setRow8 HB1.out _ _ (Nat.le_refl _)⟩
    · have ht : (!(s.extract 0 7).toList == [115, 104, 97, 50, 53, 54, 58]) = true := by
        rw [text_test _ _ shaPre rfl, numsOf_extract, List.drop_zero, decide_eq_false hpre]; rfl
      have HA := Lib.hid (drd_none (show drd (numsOf s) = none by rw [drd, if_neg (fun h => hpre h.2)]))
      clear hpre
      go_enter Tryd.func34, Tryd.ntmps34
      go_wp2_with (first
        | (refine wpList_load_row rfl 39 _ rfl (w.heap.size + 1) rfl 39 _ (0, 0) _ HW0.out Tryd.underlying39 rfl HSZ.out ?_)
        | (refine wpList_store_row rfl 39 _ _ rfl w.heap.size _ rfl rfl 39 _ HV0.out HSZ.out rfl (bcs_one _) ?_))
      refine bodyPost_ret (Yw.results_tmp HV0.out.row rfl _ rfl _ Tryd.underlying39 rfl size32) rfl ⟨by rw [HA.out.1, HA.out.2]; rfl, below_setRow8 HB0.out _ _ (Nat.le_refl _)⟩
  · have HA := Lib.hid (drd_none (show drd (numsOf s) = none by rw [drd, if_neg (fun h => h71 (by rw [← HLN.out]; exact h.1))]))
    have hn71 : ((s.size : Int) != 71) = true := by rw [bne_iff_ne]; omega
    go_enter Tryd.func34, Tryd.ntmps34
    go_wp2_with (first
      | (refine wpList_load_row rfl 39 _ rfl (w.heap.size + 1) rfl 39 _ (0, 0) _ HW0.out Tryd.underlying39 rfl HSZ.out ?_)
      | (refine wpList_store_row rfl 39 _ _ rfl w.heap.size _ rfl rfl 39 _ HV0.out HSZ.out rfl (bcs_one _) ?_))
    refine bodyPost_ret (Yw.results_tmp HV0.out.row rfl _ rfl _ Tryd.underlying39 rfl size32) rfl ⟨by rw [HA.out.1, HA.out.2]; rfl, below_setRow8 HB0.out _ _ (Nat.le_refl _)⟩
end Go.Proofs.YtahjofjblhpndaaDoor
