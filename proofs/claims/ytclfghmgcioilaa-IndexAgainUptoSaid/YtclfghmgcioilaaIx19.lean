/- slices.BinarySearch, slices.Insert at rows of numbers: the kit's contracts, laid in plain words -/
import Derived.Test.YtclfghmgcioilaaIx9
import Derived.Shelf.SlicesG.SearchI
import Derived.Shelf.Spec.SlicesInsert
import Derived.Shelf.Spec.SlicesInsertGrow
set_option linter.unusedSimpArgs false
set_option linter.unusedVariables false
namespace Go.Proofs.Ytclfghmgcioilaa
set_option linter.unusedVariables false
open Go.RowKit Go.Lib Go.Shelf

def seaI_ren : Go.Shelf.Ren := ⟨fun | 49 => 44 | 59 => 53 | 60 => 54 | 68 => 69 | n => n,
  fun | 22 => 24 | 23 => 3 | 3 => 3 | 4 => 4 | 51 => 91 | 0 => 0 | n => n,
  fun | n => n⟩
theorem seaI : Go.Proofs.SlLaysN.n49 Try.prog seaI_ren := {
  mixed := by kernel_rfl,
  f49 := ⟨Try.f44.name, by decide, Try.func44.trans (congrArg some (by kernel_rfl))⟩,
  f59 := ⟨Try.f53.name, by decide, Try.func53.trans (congrArg some (by kernel_rfl))⟩,
  f60 := ⟨Try.f54.name, by decide, Try.func54.trans (congrArg some (by kernel_rfl))⟩,
  f68 := ⟨Try.f69.name, by decide, Try.func69.trans (congrArg some (by kernel_rfl))⟩,
  t0 := Try.underlying0,
  a0 := Try.isAgg0,
  z0 := Try.sizeOf0,
  v0 := Try.zeroValue0,
  t3 := Try.underlying3,
  a3 := Try.isAgg3,
  z3 := Try.sizeOf3,
  v3 := Try.zeroValue3,
  t4 := Try.underlying4,
  a4 := Try.isAgg4,
  z4 := Try.sizeOf4,
  v4 := Try.zeroValue4,
  t22 := Try.underlying24,
  a22 := Try.isAgg24,
  z22 := Try.sizeOf24,
  v22 := Try.zeroValue24,
  t23 := Try.underlying3,
  a23 := Try.isAgg3,
  z23 := Try.sizeOf3,
  v23 := Try.zeroValue3,
  t51 := Try.underlying91,
  a51 := Try.isAgg91,
  z51 := Try.sizeOf91,
  v51 := Try.zeroValue91 }

def insI_ren : Go.Shelf.Ren := ⟨fun | 21 => 56 | 27 => 70 | 28 => 71 | 35 => 85 | 39 => 90 | n => n,
  fun | 22 => 24 | 3 => 3 | 4 => 4 | 0 => 0 | n => n,
  fun | n => n⟩
theorem insI : Go.Proofs.Lays2.n21 Try.prog insI_ren := {
  mixed := by kernel_rfl,
  f21 := Try.func56.trans (congrArg some (by kernel_rfl)),
  f27 := Try.func70.trans (congrArg some (by kernel_rfl)),
  f28 := Try.func71.trans (congrArg some (by kernel_rfl)),
  f35 := Try.func85.trans (congrArg some (by kernel_rfl)),
  f39 := Try.func90.trans (congrArg some (by kernel_rfl)),
  t0 := Try.underlying0,
  a0 := Try.isAgg0,
  z0 := Try.sizeOf0,
  v0 := Try.zeroValue0,
  t3 := Try.underlying3,
  a3 := Try.isAgg3,
  z3 := Try.sizeOf3,
  v3 := Try.zeroValue3,
  t4 := Try.underlying4,
  a4 := Try.isAgg4,
  z4 := Try.sizeOf4,
  v4 := Try.zeroValue4,
  t22 := Try.underlying24,
  a22 := Try.isAgg24,
  z22 := Try.sizeOf24,
  v22 := Try.zeroValue24,
  i3 := by kernel_rfl }
end Go.Proofs.Ytclfghmgcioilaa
