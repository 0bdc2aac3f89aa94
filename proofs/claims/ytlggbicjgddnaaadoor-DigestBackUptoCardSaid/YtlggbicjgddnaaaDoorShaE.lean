/- Digests compared. -/
import Derived.Test.YtlggbicjgddnaaaDoorShaW7
import Derived.Test.YtlggbicjgddnaaaDoorDig
namespace Go.Proofs.YtlggbicjgddnaaaDoor
set_option linter.unusedVariables false
open Go.RowKit Go.Lib

theorem digest_same (l : List Int) (hl : l.length = 32) (hb : ∀ j, 0 ≤ l.getD j 0 ∧ l.getD j 0 < 256) (W : World) : (Op.equalIn 10000 24 (.agg (bcs l)) (.agg (bcs l))).run Tryd.prog W = .ok true W := by
  rw [digest_eq l l ⟨hl, hb⟩ ⟨hl, hb⟩]; simp

theorem dig_bytes (S : St) : ∀ j, 0 ≤ (dig S).getD j 0 ∧ (dig S).getD j 0 < 256 := by
  intro j
  by_cases hj : j < 32
  · have h := dig_get S (j / 4) (j % 4) (by omega) (by omega)
    rw [show 4 * (j / 4) + j % 4 = j by omega] at h
    rw [h]
    omega
  · rw [List.getD_eq_getElem?_getD, List.getElem?_eq_none (by rw [dig_length]; omega)]
    simp
theorem sha_same (zs : List Int) (W : World) : (Op.equalIn 10000 24 (.agg (bcs (shaS zs))) (.agg (bcs (shaS zs)))).run Tryd.prog W = .ok true W := digest_same _ (shaS_length zs) (dig_bytes _) W

/-- the zero digest -/
def zD : List Int := List.replicate 32 0
theorem zD_same (W : World) : (Op.equalIn 10000 24 (.agg (bcs zD)) (.agg (bcs zD))).run Tryd.prog W = .ok true W := digest_same _ (by simp [zD]) (bytes_replicate 32) W
theorem ssum_nil' (w : World) : Calls Tryd.prog 40 #[.pointer none] w fun e w' => e = .returned (.agg (bcs zD)) ∧ Below w.heap.size w w' := ssum_nil w
end Go.Proofs.YtlggbicjgddnaaaDoor
