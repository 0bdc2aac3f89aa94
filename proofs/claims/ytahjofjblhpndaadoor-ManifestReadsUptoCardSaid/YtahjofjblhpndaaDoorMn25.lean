/- Decimal figures: what strconv.Itoa writes of a number that isn't below 0 -/
import Derived.Test.YtahjofjblhpndaaDoorMn5
import Derived.Test.YtahjofjblhpndaaDoorMn24
set_option linter.unusedSimpArgs false
set_option linter.unusedVariables false
namespace Go.Proofs.YtahjofjblhpndaaDoor
set_option linter.unusedVariables false
open Go.RowKit Go.Lib

theorem dgs_dec (n : Nat) : (Lib.decDigits n).map (fun c => (c.toNat : Int)) = dgs n := by
  induction n using dgs.induct with
  | case1 n h =>
    rw [dgs_small h, Lib.decDigits, dif_pos h]
    simp only [List.map_cons, List.map_nil, List.cons.injEq, and_true, UInt8.toNat_ofNat']
    omega
  | case2 n h ih =>
    rw [dgs_great h, Lib.decDigits, dif_neg h, List.map_append, ih]
    simp only [List.map_cons, List.map_nil, List.append_cancel_left_eq, List.cons.injEq, and_true, UInt8.toNat_ofNat']
    omega
theorem dgs_itoa (n : Nat) : numsOf ⟨(Lib.itoa (n : Int)).toArray⟩ = dgs n := by
  have e : Lib.itoa (n : Int) = Lib.decDigits n := by unfold Lib.itoa; rw [if_neg (by omega)]; rfl
  rw [e, ← dgs_dec]
  rfl
end Go.Proofs.YtahjofjblhpndaaDoor
