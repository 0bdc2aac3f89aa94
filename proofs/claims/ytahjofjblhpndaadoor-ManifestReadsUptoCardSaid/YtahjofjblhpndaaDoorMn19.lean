/- What others want of package digest: Text, Read -/
import Derived.Test.YtahjofjblhpndaaDoorMn2
import Derived.Test.YtahjofjblhpndaaDoorMn5
import Derived.Deep.Cut
import Derived.Deep.DeepCutAuto
import Derived.Deep.RegionLaw
import Derived.Great.BuildSlice
set_option linter.unusedSimpArgs false
set_option linter.unusedVariables false
namespace Go.Proofs.YtahjofjblhpndaaDoor
set_option linter.unusedVariables false
open Go.RowKit Go.Lib

def TextOk : Prop := ∀ (d : List Int) (w : World), dok d → Calls Tryd.prog 24 #[.agg (bcs d)] w fun e w' => e = .returned (.string (strOfNums (dtext d))) ∧ Below w.heap.size w w'
def ReadOk : Prop := ∀ (s : ByteArray) (w : World), s.size ≤ 140737488355328 → Calls Tryd.prog 41 #[.string s] w fun e w' => e = .returned (.tuple #[.agg (bcs (dans (numsOf s))), .int .i64 (derr (numsOf s))]) ∧ Below w.heap.size w w'
end Go.Proofs.YtahjofjblhpndaaDoor
