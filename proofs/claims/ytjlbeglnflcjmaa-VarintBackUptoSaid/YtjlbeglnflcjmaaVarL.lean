/- Walks of the statements of layer 2. -/
import Derived.Test.YtjlbeglnflcjmaaVarW4
import Derived.Test.YtjlbeglnflcjmaaLaw
namespace Go.Proofs.Ytjlbeglnflcjmaa
set_option linter.unusedVariables false
open Go.RowKit Go.Lib

theorem vput_300 : vput 300 = [172, 2] := by rw [vput_hi (by decide), vput_lo (by decide)]; rfl
theorem tk_300 : tk [172, 2] 0 = (300, 2, 0) := by decide
theorem two_bytes : ∀ j, 0 ≤ ([172, 2] : List Int).getD j 0 ∧ ([172, 2] : List Int).getD j 0 < 256 := by
  intro j
  rcases j with _ | _ | j <;> simp
theorem two_le : 2 ≤ maxLen := by unfold maxLen; omega

theorem vlives_any (w : World) : Calls Try.prog 10 #[] w fun e w' => e = .returned (.bool true) ∧ Below w.heap.size w w' := by
  go_enter Try.func10, Try.ntmps10
  go_wp2_with fail
  refine (vtake_any _ _ _ [172, 2] _ _ (bs_lit _ _ _ _ 2 rfl two_le two_bytes rfl) (Nat.le_refl _) two_le).mono ?_
  rintro e w' ⟨rfl, rfl⟩
  rw [tk_300]
  go_wp2_with fail
  refine (vput_walk none 0 0 [] 300 _ (Bs.empty _ _) (by omega) (by omega)).mono ?_
  rintro e w1 ⟨v, rfl, hob, hb1⟩
  rw [vput_300] at hob
  obtain ⟨p, cap, hv, hlc, hcm, hbs, hpc⟩ := hob.open
  have hv' : v = .slice p 2 cap := hv
  subst hv'
  have H1 := Lib.hid hbs
  have HB := Lib.hid (below_step ((Below.refl _ _).alloc (Nat.le_refl _) _) hb1)
  clear hob hb1 hv hlc hbs hpc
  go_wp2_with fail
  refine (same_any _ _ _ _ _ _ [172, 2] [172, 2] _ two_le two_le (H1.out.later ((Below.refl _ _).alloc (Nat.le_refl _) _)) (bs_lit _ _ _ _ 2 rfl two_le two_bytes rfl)).mono ?_
  rintro e w2 ⟨rfl, q, rfl⟩
  go_wp2
  go_ret
  exact ⟨rfl, below_drewN (HB.out.alloc HB.out.size _) _⟩
end Go.Proofs.Ytjlbeglnflcjmaa
