/- Walks of the statements of layer 3: what they share. -/
import Derived.Test.YtgmndmpkkloekaaHexW5
import Derived.Test.YtgmndmpkkloekaaLaw
namespace Go.Proofs.Ytgmndmpkkloekaa
set_option linter.unusedVariables false
open Go.RowKit Go.Lib

theorem numsOf_strOfNums {zs : List Int} (h : ∀ j, 0 ≤ zs.getD j 0 ∧ zs.getD j 0 < 256) : numsOf (strOfNums zs) = zs := by
  unfold numsOf
  rw [strOfNums_data, List.map_map]
  conv => rhs; rw [← List.map_id zs]
  apply List.map_congr_left
  intro z hz
  obtain ⟨j, hj, rfl⟩ := List.getElem_of_mem hz
  have := h j
  simp only [List.getD_eq_getElem?_getD, List.getElem?_eq_getElem hj, Option.getD_some] at this
  simp only [Function.comp, id]
  simp
  omega

theorem hl_text : strOfNums (hexs [0, 171]) = { data := #[48, 48, 97, 98] } := by decide
theorem hl_nums : numsOf { data := #[48, 48, 97, 98] } = [48, 48, 97, 98] := rfl
theorem hl_rd : hrd [48, 48, 97, 98] = some [0, 171] := by decide
theorem hl_two : ∀ j, 0 ≤ ([0, 171] : List Int).getD j 0 ∧ ([0, 171] : List Int).getD j 0 < 256 := by
  intro j
  rcases j with _ | _ | j <;> simp
theorem two_le : 2 ≤ maxLen := by unfold maxLen; omega

theorem hlives_any (w : World) : Calls Try.prog 8 #[] w fun e w' => e = .returned (.bool true) ∧ Below w.heap.size w w' := by
  have hsz : ByteArray.size { data := #[48, 48, 97, 98] } ≤ 281474976710656 := by decide
  go_enter Try.func8, Try.ntmps8
  go_wp2_with fail
  refine (hread_any _ _ hsz).mono ?_
  rintro e w1 ⟨h1, hb1⟩
  rw [hl_nums, hl_rd] at h1
  rcases h1 with ⟨h1, _⟩ | ⟨ys, v, hy, rfl, hob1⟩
  · cases h1
  simp only [Option.some.injEq] at hy
  subst hy
  obtain ⟨p1, c1, hv1, hlc1, hcm1, hbs1, hpc1⟩ := hob1.open
  subst hv1
  have HB1 := Lib.hid hb1
  have HX1 := Lib.hid hbs1
  clear hb1 hbs1 hob1 hlc1 hcm1 hpc1
  go_wp2_with fail
  refine (htext_any _ _ _ [0, 171] _ (bs_lit _ _ _ _ 2 rfl two_le hl_two rfl) (by omega)).mono ?_
  rintro e w2 ⟨rfl, hb2⟩
  rw [hl_text]
  have HB2 := Lib.hid (below_step (below_step HB1.out ((Below.refl _ _).alloc (Nat.le_refl _) _)) hb2)
  have HX2 := Lib.hid (HX1.out.later (((Below.refl _ _).alloc (Nat.le_refl _) _).trans (hb2.mono (by simp))))
  clear hb2
  go_wp2_with fail
  refine (same_any _ _ _ _ _ _ [0, 171] [0, 171] _ two_le two_le (HX2.out.later ((Below.refl _ _).alloc (Nat.le_refl _) _)) (bs_lit _ _ _ _ 2 rfl two_le hl_two rfl)).mono ?_
  rintro e w3 ⟨rfl, q, rfl⟩
  go_wp2
  go_ret
  exact ⟨rfl, below_drewN (HB2.out.alloc HB2.out.size _) _⟩
end Go.Proofs.Ytgmndmpkkloekaa
