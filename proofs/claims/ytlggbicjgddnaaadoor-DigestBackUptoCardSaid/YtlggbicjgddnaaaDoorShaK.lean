/- The table of constants: what the row's list gives, and a world for the witnesses. -/
import Derived.Test.YtlggbicjgddnaaaDoorShaE
import Derived.Test.YtlggbicjgddnaaaDoorLaw
import Derived.Test.YtlggbicjgddnaaaDoorCards
import Derived.Test.YtlggbicjgddnaaaDoorTie
import Derived.Deep.DeepHandedRow
import Derived.Lib.LaidTab
namespace Go.Proofs.YtlggbicjgddnaaaDoor
set_option linter.unusedVariables false
open Go.RowKit Go.Lib Go.ChangeShapes Go.WideShapes Go.ChangeAt

def kZ : List Int := [1116352408, 1899447441, 3049323471, 3921009573, 961987163, 1508970993, 2453635748, 2870763221, 3624381080, 310598401, 607225278, 1426881987, 1925078388, 2162078206, 2614888103, 3248222580, 3835390401, 4022224774, 264347078, 604807628, 770255983, 1249150122, 1555081692, 1996064986, 2554220882, 2821834349, 2952996808, 3210313671, 3336571891, 3584528711, 113926993, 338241895, 666307205, 773529912, 1294757372, 1396182291, 1695183700, 1986661051, 2177026350, 2456956037, 2730485921, 2820302411, 3259730800, 3345764771, 3516065817, 3600352804, 4094571909, 275423344, 430227734, 506948616, 659060556, 883997877, 958139571, 1322822218, 1537002063, 1747873779, 1955562222, 2024104815, 2227730452, 2361852424, 2428436474, 2756734187, 3204031479, 3329325298]
theorem gTab : Tryd.prog.globalNamed "stillage/sha.constants" = some 1 := by kernel_rfl
theorem gTabType : (Tryd.prog.globals[1]?).map (·.type) = some 97 := by kernel_rfl
theorem cellsT64 : Tryd.prog.cellsOf 97 = 64 := by kernel_rfl
theorem cellsT32 : Tryd.prog.cellsOf 66 = 1 := by kernel_rfl
def laidK : List (String × DataW Unit) := [("stillage/sha.constants", Rows.laid_stillage_sha_constants)]
theorem tabK {W : World} (h : laidMetH Tryd.prog laidK W) : Lib.TabIs Tryd.prog W "stillage/sha.constants" .u32 kZ :=
  Lib.tabIs_of_head (rest := []) gTab gTabType Tryd.underlying97 Tryd.underlying66 cellsT32 cellsT64 h
theorem kZ_get : ∀ j : Nat, j < 64 → kZ.getD j 0 = ((kS.getD j 0 : Nat) : Int) := by
  have : ∀ j : Fin 64, kZ.getD j.val 0 = ((kS.getD j.val 0 : Nat) : Int) := by decide +kernel
  exact fun j h => this ⟨j, h⟩
theorem kw_of_laid {W : World} (h : laidMetH Tryd.prog laidK W) : Kw W := fun j hj => by
  rw [← kZ_get j hj]
  exact (tabK h).cell gTab j hj

/-- A world for the witnesses: the settled one, the table (block 0) holding what its initialiser lays. -/
noncomputable def laidWorld (os : Os) : World :=
  { World.holding Tryd.prog os ⟨#[], #[], []⟩ with heap := (World.holding Tryd.prog os ⟨#[], #[], []⟩).heap.modify 1 fun
      | .cells _ t frozen => .cells (kZ.map (Value.int .u32)).toArray t frozen
      | o => o }
end Go.Proofs.YtlggbicjgddnaaaDoor
