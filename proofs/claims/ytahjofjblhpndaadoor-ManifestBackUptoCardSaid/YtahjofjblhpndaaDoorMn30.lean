/- strings.CutPrefix, laid at this program -/
import Derived.Test.YtahjofjblhpndaaDoorMn2
import Derived.Test.YtahjofjblhpndaaDoorMn6
import Derived.Shelf.Small.Wraps
import Derived.Lib.SmallJoins
set_option linter.unusedSimpArgs false
set_option linter.unusedVariables false
namespace Go.Proofs.YtahjofjblhpndaaDoor
set_option linter.unusedVariables false
open Go.RowKit Go.Lib Go.Shelf

def layCut_ren : Go.Shelf.Ren := ⟨fun | 103 => 18 | 210 => 28 | 206 => 39 | n => n,
  fun | 9 => 9 | 4 => 4 | 24 => 47 | 3 => 3 | n => n,
  fun | n => n⟩
theorem layCut : Go.Proofs.Lays.n103 Tryd.prog layCut_ren := {
  mixed := by kernel_rfl,
  f103 := Tryd.func18.trans (congrArg some (by kernel_rfl)),
  f206 := Tryd.func39.trans (congrArg some (by kernel_rfl)),
  f210 := Tryd.func28.trans (congrArg some (by kernel_rfl)),
  t3 := Tryd.underlying3,
  a3 := Tryd.isAgg3,
  z3 := Tryd.sizeOf3,
  v3 := Tryd.zeroValue3,
  t4 := Tryd.underlying4,
  a4 := Tryd.isAgg4,
  z4 := Tryd.sizeOf4,
  v4 := Tryd.zeroValue4,
  t9 := Tryd.underlying9,
  a9 := Tryd.isAgg9,
  z9 := Tryd.sizeOf9,
  v9 := Tryd.zeroValue9,
  t24 := Tryd.underlying47,
  a24 := Tryd.isAgg47,
  z24 := Tryd.sizeOf47,
  v24 := Tryd.zeroValue47 }
theorem cut_any (s p : ByteArray) (w : World) :
    Calls Tryd.prog 18 #[.string s, .string p] w fun e w' => e = .returned (.tuple #[.string ⟨(Lib.trimPrefix s.data.toList p.data.toList).toArray⟩, .bool (Lib.hasPrefix s.data.toList p.data.toList)]) ∧ w = w' :=
  (Any.strings_CutPrefix layCut s p w).mono fun e w' ⟨he, hw⟩ => ⟨he, hw.symm⟩
end Go.Proofs.YtahjofjblhpndaaDoor
