/- Walks of package digest: Of, Text, Cmp; strings.CutPrefix. -/
import Derived.Test.YtlggbicjgddnaaaDoorDigC
namespace Go.Proofs.YtlggbicjgddnaaaDoor
set_option linter.unusedVariables false
open Go.RowKit Go.Lib

theorem of_ok : OfOk := by
  intro p len cap zs w h hpc hlc hcm hlen hK
  have H := Lib.hid h
  have HLC := Lib.hid hlc
  have HCM := Lib.hid hcm
  have HK := Lib.hid hK
  have HPOS := Lib.hid hK.pos
  have HB0 : Hid (Below w.heap.size w (w.alloc (.cells (bcs dzero) 24))) := Lib.hid ((Below.refl _ _).alloc (Nat.le_refl _) _)
  have HY0 : Hid (Yw (w.alloc (.cells (bcs dzero) 24)) w.heap.size 24 dzero) := Lib.hid (heap_alloc_new _ _)
  have HSO := Lib.hid (shaS_ok zs)
  clear h hpc hlc hcm hK
  go_enter Tryd.func9, Tryd.ntmps9
  go_wp2_with fail
  refine (ssha_any p len cap zs _ (H.out.later HB0.out) HLC.out HCM.out (HK.out.later HB0.out HPOS.out) (by omega)).mono ?_
  rintro e w1 ⟨rfl, hb1⟩
  have HB1 := Lib.hid (below_step HB0.out hb1)
  have HY1 := Lib.hid (HY0.out.later hb1)
  clear hb1
  obtain ⟨y, hy⟩ : ∃ y, shaS zs = y := ⟨_, rfl⟩
  rw [hy] at HSO ⊢
  have HYE := Lib.hid hy
  clear hy
  have HZ1 : Hid ((Tryd.prog.info? 24).map (·.size) = some (bcs y).size) := Lib.hid (by rw [bcs_size, HSO.out.1]; exact size32)
  have HZ2 : Hid ((bcs dzero).size = (bcs y).size) := Lib.hid (by rw [bcs_size, bcs_size, HSO.out.1]; rfl)
  go_wp2_with (refine wpList_store_row rfl 24 _ _ rfl w.heap.size _ rfl rfl 24 _ HY1.out HZ1.out HZ2.out (bcs_one _) ?_)
  refine bodyPost_ret (Yw.results HY1.out.row rfl _ rfl _ Tryd.underlying24 rfl (by rw [HSO.out.1]; exact size32)) rfl ⟨by rw [HYE.out], below_setRow8 HB1.out _ _ (Nat.le_refl _)⟩

set_option maxRecDepth 100000 in
theorem text_ok : TextOk := by
  intro d w hd
  have HD := Lib.hid hd
  have HB0 : Hid (Below w.heap.size w (w.alloc (.cells (bcs d) 24))) := Lib.hid ((Below.refl _ _).alloc (Nat.le_refl _) _)
  have HY0 : Hid (Yw (w.alloc (.cells (bcs d) 24)) w.heap.size 24 d) := Lib.hid (heap_alloc_new _ _)
  clear hd
  go_enter Tryd.func11, Tryd.ntmps11
  go_wp2_with fail
  refine (htext_any (some ⟨w.heap.size, 0, none⟩) 32 32 d _ (HY0.out.bs HD.out.2 32 HD.out.1) (by omega)).mono ?_
  rintro e w1 ⟨rfl, hb1⟩
  have HB1 := Lib.hid (below_step HB0.out hb1)
  clear hb1
  have HT : Hid (strOfNums (dtext d) = ⟨#[115, 104, 97, 50, 53, 54, 58]⟩ ++ strOfNums (hexs d)) := Lib.hid (by
    apply ByteArray.ext
    apply Array.toList_inj.1
    rw [ByteArray.data_append, Array.toList_append, strOfNums_data, strOfNums_data, dtext, List.map_append]
    rfl)
  have HZ : Hid ((strOfNums (hexs d)).size = 64) := Lib.hid (by
    have h : (strOfNums (hexs d)).data.toList.length = 64 := by rw [strOfNums_data, List.length_map, hexs_length, HD.out.1]
    simpa using h)
  have hz := HZ.out
  generalize strOfNums (hexs d) = tx at *
  go_wp2
  go_ret
  exact ⟨by rw [HT.out]; rfl, HB1.out⟩

theorem below_grow (w : World) (q : Nat) (os : Array Obj) : Below w.heap.size w (Go.Sort.grow (w.drewN q) os) :=
  (below_drewN (Below.refl _ _) _).grown (row := none) ⟨rfl, rfl, rfl, by simp [Go.Sort.grow], fun k hk hne => Go.Sort.heap_grow_old _ _ hk⟩ (Nat.le_refl _) (fun k hk => by cases hk)
theorem cmp_ok : CmpOk := fun a b w ha hb => (cmp_grow a b w ha hb).mono fun e w' ⟨he, q, os, hw⟩ => ⟨he, by rw [hw]; exact below_grow w q os⟩

set_option maxRecDepth 100000 in
theorem cut_yes (s : ByteArray) (w : World) (h7 : 7 ≤ s.size) (hp : (numsOf s).take 7 = shaPre) :
    Calls Tryd.prog 21 #[.string s, .string ⟨#[115, 104, 97, 50, 53, 54, 58]⟩] w fun e w' => e = .returned (.tuple #[.string (s.extract 7 s.size), .bool true]) ∧ w' = w := by
  have ht : (s.extract 0 7).toList == [115, 104, 97, 50, 53, 54, 58] := by
    rw [text_test _ _ shaPre rfl, numsOf_extract, List.drop_zero, hp]; simp
  have h7' : (7 : Int) ≤ (s.size : Int) := by omega
  have hd : decide ((7 : Int) ≤ (s.size : Int)) = true := decide_eq_true h7'
  clear hp
  go_enter Tryd.func21, Tryd.ntmps21
  go_wp2
  go_ret2
  exact ⟨rfl, rfl⟩
set_option maxRecDepth 100000 in
theorem cut_no (s : ByteArray) (w : World) (hp : ¬ (7 ≤ s.size ∧ (numsOf s).take 7 = shaPre)) :
    Calls Tryd.prog 21 #[.string s, .string ⟨#[115, 104, 97, 50, 53, 54, 58]⟩] w fun e w' => e = .returned (.tuple #[.string s, .bool false]) ∧ w' = w := by
  by_cases h7 : 7 ≤ s.size
  · have ht : ((s.extract 0 7).toList == [115, 104, 97, 50, 53, 54, 58]) = false := by
      rw [text_test _ _ shaPre rfl, numsOf_extract, List.drop_zero, decide_eq_false_iff_not]
      exact fun h => hp ⟨h7, h⟩
    clear hp
    go_enter Tryd.func21, Tryd.ntmps21
    go_wp2
    go_ret2
    exact ⟨rfl, rfl⟩
  · clear hp
    go_enter Tryd.func21, Tryd.ntmps21
    go_wp2
    go_ret2
    exact ⟨rfl, rfl⟩
end Go.Proofs.YtlggbicjgddnaaaDoor
