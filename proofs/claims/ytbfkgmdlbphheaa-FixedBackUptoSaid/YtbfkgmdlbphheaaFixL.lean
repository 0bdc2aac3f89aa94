/- Walks of the statements of layer 1. -/
import Derived.Test.YtbfkgmdlbphheaaFixW6
import Derived.Test.YtbfkgmdlbphheaaLaw
namespace Go.Proofs.Ytbfkgmdlbphheaa
set_option linter.unusedVariables false
open Go.RowKit Go.Lib

theorem putS_258 : ([] : List Int) ++ putS 258 4 = [2, 1, 0, 0] := by decide
theorem takeN_258 : takeN [2, 1, 0, 0] 0 4 = 258 := by decide
theorem takeB_258 : takeB (([2, 1, 0, 0] : List Int).length : Int) 0 4 = true := by decide

theorem four_bytes : ∀ j, 0 ≤ ([2, 1, 0, 0] : List Int).getD j 0 ∧ ([2, 1, 0, 0] : List Int).getD j 0 < 256 := by
  intro j
  rcases j with _ | _ | _ | _ | j <;> simp
theorem four_le : 4 ≤ maxLen := by unfold maxLen; omega

theorem lives_any (w : World) : Calls Try.prog 9 #[] w fun e w' => e = .returned (.bool true) ∧ Below w.heap.size w w' := by
  go_enter Try.func9, Try.ntmps9
  go_wp2_with fail
  refine (put_any none 0 0 [] 258 4 _ (Bs.empty _ _) (by omega) (by omega) (by omega)).mono ?_
  rintro e w1 ⟨v, rfl, hob, hb1⟩
  rw [putS_258] at hob
  obtain ⟨p, cap, hv, hlc, hcm, hbs, hpc⟩ := hob.open
  have hv' : v = .slice p 4 cap := hv
  subst hv'
  have H1 := Lib.hid hbs
  have HB := Lib.hid hb1
  clear hob hb1 hv hlc hbs hpc
  go_wp2_with fail
  refine (take_any _ _ _ [2, 1, 0, 0] _ _ _ H1.out four_le (by omega)).mono ?_
  rintro e w' ⟨rfl, rfl⟩
  rw [takeN_258, takeB_258]
  go_wp2_with fail
  refine (same_any _ _ _ _ _ _ [2, 1, 0, 0] [2, 1, 0, 0] _ four_le four_le (H1.out.later ((Below.refl _ _).alloc (Nat.le_refl _) _)) (bs_lit _ _ _ _ 4 rfl four_le four_bytes rfl)).mono ?_
  rintro e w2 ⟨rfl, q, rfl⟩
  go_wp2
  go_ret
  exact ⟨rfl, below_drewN (HB.out.alloc HB.out.size _) _⟩
end Go.Proofs.Ytbfkgmdlbphheaa
