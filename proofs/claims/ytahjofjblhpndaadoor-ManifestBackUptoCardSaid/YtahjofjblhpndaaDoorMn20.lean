/- Walks of package digest: Text; strings.CutPrefix -/
import Derived.Test.YtahjofjblhpndaaDoorMn12
import Derived.Test.YtahjofjblhpndaaDoorMn19
set_option linter.unusedSimpArgs false
set_option linter.unusedVariables false
namespace Go.Proofs.YtahjofjblhpndaaDoor
set_option linter.unusedVariables false
open Go.RowKit Go.Lib

set_option maxRecDepth 100000 in
theorem text_ok : TextOk := by
  intro d w hd
  have HD := Lib.hid hd
  have HB0 : Hid (Below w.heap.size w (w.alloc (.cells (bcs d) 39))) := Lib.hid ((Below.refl _ _).alloc (Nat.le_refl _) _)
  have HY0 : Hid (Yw (w.alloc (.cells (bcs d) 39)) w.heap.size 39 d) := Lib.hid (heap_alloc_new _ _)
  clear hd
  go_enter Tryd.func24, Tryd.ntmps24
  go_wp2_with fail
  refine (htext_any (some ⟨w.heap.size, 0, none⟩) 32 32 d _ (HY0.out.bs HD.out.2 32 HD.out.1) (by omega)).mono ?_
  rintro e w1 ⟨rfl, hb1⟩
  have HB1 := Lib.hid (below_step HB0.out hb1)
  clear hb1
  have HT : Hid (strOfNums (dtext d) = ⟨#[115, 104, 97, 50, 53, 54, 58]⟩ ++ strOfNums (hexs d)) := Lib.hid (by
    apply ByteArray.ext
    apply Array.toList_inj.1
    rw [ByteArray.data_append, Array.toList_append, strOfNums_data, strOfNums_data, dtext, List.map_append]
    rfl)
  have HZ : Hid ((strOfNums (hexs d)).size = 64) := Lib.hid (by
    have h : (strOfNums (hexs d)).data.toList.length = 64 := by rw [strOfNums_data, List.length_map, hexs_length, HD.out.1]
    simpa using h)
  have hz := HZ.out
  generalize strOfNums (hexs d) = tx at *
  go_wp2
  go_ret
  exact ⟨by rw [HT.out]; rfl, HB1.out⟩

set_option maxRecDepth 100000 in
theorem cut_yes (s : ByteArray) (w : World) (h7 : 7 ≤ s.size) (hp : (numsOf s).take 7 = shaPre) :
    Calls Tryd.prog 18 #[.string s, .string ⟨#[115, 104, 97, 50, 53, 54, 58]⟩] w fun e w' => e = .returned (.tuple #[.string (s.extract 7 s.size), .bool true]) ∧ w' = w := by
  have ht : (s.extract 0 7).toList == [115, 104, 97, 50, 53, 54, 58] := by
    rw [text_test _ _ shaPre rfl, numsOf_extract, List.drop_zero, hp]; simp
  have h7' : (7 : Int) ≤ (s.size : Int) := by omega
  have hd : decide ((7 : Int) ≤ (s.size : Int)) = true := decide_eq_true h7'
  clear hp
  go_enter Tryd.func18, Tryd.ntmps18
  go_wp2
  go_ret2
  exact ⟨rfl, rfl⟩
set_option maxRecDepth 100000 in
theorem cut_no (s : ByteArray) (w : World) (hp : ¬ (7 ≤ s.size ∧ (numsOf s).take 7 = shaPre)) :
    Calls Tryd.prog 18 #[.string s, .string ⟨#[115, 104, 97, 50, 53, 54, 58]⟩] w fun e w' => e = .returned (.tuple #[.string s, .bool false]) ∧ w' = w := by
  by_cases h7 : 7 ≤ s.size
  · have ht : ((s.extract 0 7).toList == [115, 104, 97, 50, 53, 54, 58]) = false := by
      rw [text_test _ _ shaPre rfl, numsOf_extract, List.drop_zero, decide_eq_false_iff_not]
      exact fun h => hp ⟨h7, h⟩
    clear hp
    go_enter Tryd.func18, Tryd.ntmps18
    go_wp2
    go_ret2
    exact ⟨rfl, rfl⟩
  · clear hp
    go_enter Tryd.func18, Tryd.ntmps18
    go_wp2
    go_ret2
    exact ⟨rfl, rfl⟩
end Go.Proofs.YtahjofjblhpndaaDoor
