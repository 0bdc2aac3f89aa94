/- What the statements of layer 6 want of package digest, said of each function; and lives. -/
import Derived.Test.YtlggbicjgddnaaaDoorDigW2
import Derived.Test.YtlggbicjgddnaaaDoorDigW3
import Derived.Test.YtlggbicjgddnaaaDoorShaE
import Derived.Test.YtlggbicjgddnaaaDoorDigQ
namespace Go.Proofs.YtlggbicjgddnaaaDoor
set_option linter.unusedVariables false
open Go.RowKit Go.Lib


def CmpOk : Prop := ∀ (a b : List Int) (w : World), dok a → dok b → Calls Tryd.prog 14 #[.agg (bcs a), .agg (bcs b)] w fun e w' => e = .returned (.int .i64 (dcmp a b)) ∧ Below w.heap.size w w'
def OfOk : Prop := ∀ (p : Option Addr) (len cap : Nat) (zs : List Int) (w : World), Bs w p len zs → (p = none → cap = 0) → len ≤ cap → cap ≤ maxLen → len ≤ 1048576 → Kw w → Calls Tryd.prog 9 #[.slice p len cap] w fun e w' => e = .returned (.agg (bcs (shaS zs))) ∧ Below w.heap.size w w'
def TextOk : Prop := ∀ (d : List Int) (w : World), dok d → Calls Tryd.prog 11 #[.agg (bcs d)] w fun e w' => e = .returned (.string (strOfNums (dtext d))) ∧ Below w.heap.size w w'
def ReadOk : Prop := ∀ (s : ByteArray) (w : World), s.size ≤ 140737488355328 → Calls Tryd.prog 7 #[.string s] w fun e w' => e = .returned (.tuple #[.agg (bcs (dans (numsOf s))), .int .i64 (derr (numsOf s))]) ∧ Below w.heap.size w w'
def RowOk : Prop := ∀ (p : Option Addr) (n cap : Nat) (L : List (List Int)) (w : World), Ds w p n L → (p = none → cap = 0) → n ≤ cap → cap ≤ maxLen → n ≤ 1048576 → Calls Tryd.prog 16 #[.slice p n cap] w fun e w' => ∃ v, e = .returned v ∧ Od w' w.heap.size v (drow L) ∧ Below w.heap.size w w'
def HasOk : Prop := ∀ (p : Option Addr) (n cap : Nat) (L : List (List Int)) (d : List Int) (w : World), Ds w p n L → (p = none → cap = 0) → n ≤ cap → cap ≤ maxLen → n ≤ 1048576 → dok d → drises L → Calls Tryd.prog 19 #[.slice p n cap, .agg (bcs d)] w fun e w' => e = .returned (.bool (decide (d ∈ L))) ∧ Below w.heap.size w w'

theorem digest_refl (l : List Int) (h : dok l) (W : World) : (Op.equalIn 10000 24 (.agg (bcs l)) (.agg (bcs l))).run Tryd.prog W = .ok true W := by
  rw [digest_eq l l h h]; simp
/-- a digest laid in a new block -/
theorem lay_dig {w1 w2 : World} {l : List Int} (h : (w1.alloc (.cells (bcs dzero) 24)).setRow w1.heap.size (bcs l) = w2) : Yw w2 w1.heap.size 24 l ∧ Below w1.heap.size w1 w2 := by
  subst h
  exact ⟨setRow_heap _ _ _ _ _ _ (heap_alloc_new _ _), below_setRow8 ((Below.refl _ _).alloc (Nat.le_refl _) _) _ _ (Nat.le_refl _)⟩
theorem drd_dtext {d : List Int} (h : dok d) : drd (dtext d) = some d := by
  have hl : (dtext d).length = 71 := by rw [dtext, List.length_append, hexs_length, h.1]; rfl
  have ht : (dtext d).take 7 = shaPre := by rw [dtext, List.take_append_of_le_length (by decide)]; rfl
  have hd : (dtext d).drop 7 = hexs d := by rw [dtext, List.drop_append_of_le_length (by decide)]; rfl
  rw [drd, if_pos ⟨hl, ht⟩, hd, hrd_hexs h.2]
theorem dtext_drd {cs y : List Int} (h : drd cs = some y) : dtext y = cs := by
  unfold drd at h
  split at h
  · rename_i hg
    have := hexs_hrd h
    rw [dtext, this, ← hg.2, List.take_append_drop]
  · cases h
theorem dtext_byte {d : List Int} (h : dok d) : ∀ j, 0 ≤ (dtext d).getD j 0 ∧ (dtext d).getD j 0 < 256 := by
  refine bytes_append (fun j => ?_) (hexs_byte h.2)
  by_cases hj : j < 7
  · have : ∀ j : Fin 7, 0 ≤ shaPre.getD j.val 0 ∧ shaPre.getD j.val 0 < 256 := by decide
    exact this ⟨j, hj⟩
  · rw [List.getD_eq_getElem?_getD, List.getElem?_eq_none (by simp [shaPre]; omega)]
    simp
theorem dtext_size {d : List Int} (h : dok d) : (strOfNums (dtext d)).size = 71 := by
  have h1 : (strOfNums (dtext d)).data.toList.length = 71 := by rw [strOfNums_data, List.length_map, dtext, List.length_append, hexs_length, h.1]; rfl
  simpa using h1
theorem shaS_ok (zs : List Int) : dok (shaS zs) := ⟨shaS_length zs, dig_bytes _⟩
def emptyT : List Int := [115, 104, 97, 50, 53, 54, 58, 101, 51, 98, 48, 99, 52, 52, 50, 57, 56, 102, 99, 49, 99, 49, 52, 57, 97, 102, 98, 102, 52, 99, 56, 57, 57, 54, 102, 98, 57, 50, 52, 50, 55, 97, 101, 52, 49, 101, 52, 54, 52, 57, 98, 57, 51, 52, 99, 97, 52, 57, 53, 57, 57, 49, 98, 55, 56, 53, 50, 98, 56, 53, 53]
theorem emptyT_bytes : ∀ j, 0 ≤ emptyT.getD j 0 ∧ emptyT.getD j 0 < 256 := by
  intro j
  by_cases h : j < 71
  · have : ∀ j : Fin 71, 0 ≤ emptyT.getD j.val 0 ∧ emptyT.getD j.val 0 < 256 := by decide
    exact this ⟨j, h⟩
  · rw [List.getD_eq_getElem?_getD, List.getElem?_eq_none (by simp [emptyT]; omega)]
    simp
set_option maxRecDepth 100000 in
theorem shaS_nil : dtext (shaS []) = emptyT := by decide +kernel

set_option maxRecDepth 100000 in
theorem dlives_any (hOf : OfOk) (hText : TextOk) (w : World) (hK : Kw w) : Calls Tryd.prog 13 #[] w fun e w' => e = .returned (.bool true) ∧ Below w.heap.size w w' := by
  have HOF := Lib.hid hOf
  have HTX := Lib.hid hText
  have HK := Lib.hid hK
  have HE := Lib.hid shaS_nil
  have HS := Lib.hid (shaS_ok [])
  clear hK hOf hText
  go_enter Tryd.func13, Tryd.ntmps13
  go_wp2_with fail
  refine (HOF.out none 0 0 [] _ (Bs.empty _ _) (fun _ => rfl) (by omega) (by unfold maxLen; omega) (by omega) HK.out).mono ?_
  rintro e w1 ⟨rfl, hb1⟩
  have HB1 := Lib.hid hb1
  clear hb1
  go_wp2_with fail
  refine (HTX.out (shaS []) _ HS.out).mono ?_
  rintro e w2 ⟨rfl, hb2⟩
  have HB2 := Lib.hid (below_step HB1.out hb2)
  clear hb2
  rw [HE.out]
  generalize hT : strOfNums emptyT = T at *
  go_wp2
  go_ret
  refine ⟨ret_bool ?_, HB2.out⟩
  rw [text_test _ _ emptyT rfl, ← hT, numsOf_strOfNums emptyT_bytes]
  simp
end Go.Proofs.YtlggbicjgddnaaaDoor
