/- slices.BinarySearch, slices.Insert at rows of numbers: the kit's contracts, laid in plain words -/
import Derived.Test.YthibllnpjjoehaaEn9
import Derived.Shelf.SlicesG.SearchI
import Derived.Shelf.Spec.SlicesInsert
import Derived.Shelf.Spec.SlicesInsertGrow
set_option linter.unusedSimpArgs false
set_option linter.unusedVariables false
namespace Go.Proofs.Ythibllnpjjoehaa
set_option linter.unusedVariables false
open Go.RowKit Go.Lib Go.Shelf

def seaI_ren : Go.Shelf.Ren := ⟨fun | 49 => 35 | 59 => 43 | 60 => 44 | 68 => 50 | n => n,
  fun | 22 => 26 | 23 => 3 | 3 => 3 | 4 => 4 | 51 => 61 | 0 => 0 | n => n,
  fun | n => n⟩
theorem seaI : Go.Proofs.SlLaysN.n49 Try.prog seaI_ren := {
  mixed := by kernel_rfl,
  f49 := ⟨Try.f35.name, by decide, Try.func35.trans (congrArg some (by kernel_rfl))⟩,
  f59 := ⟨Try.f43.name, by decide, Try.func43.trans (congrArg some (by kernel_rfl))⟩,
  f60 := ⟨Try.f44.name, by decide, Try.func44.trans (congrArg some (by kernel_rfl))⟩,
  f68 := ⟨Try.f50.name, by decide, Try.func50.trans (congrArg some (by kernel_rfl))⟩,
  t0 := Try.underlying0,
  a0 := Try.isAgg0,
  z0 := Try.sizeOf0,
  v0 := Try.zeroValue0,
  t3 := Try.underlying3,
  a3 := Try.isAgg3,
  z3 := Try.sizeOf3,
  v3 := Try.zeroValue3,
  t4 := Try.underlying4,
  a4 := Try.isAgg4,
  z4 := Try.sizeOf4,
  v4 := Try.zeroValue4,
  t22 := Try.underlying26,
  a22 := Try.isAgg26,
  z22 := Try.sizeOf26,
  v22 := Try.zeroValue26,
  t23 := Try.underlying3,
  a23 := Try.isAgg3,
  z23 := Try.sizeOf3,
  v23 := Try.zeroValue3,
  t51 := Try.underlying61,
  a51 := Try.isAgg61,
  z51 := Try.sizeOf61,
  v51 := Try.zeroValue61 }

def insI_ren : Go.Shelf.Ren := ⟨fun | 21 => 36 | 27 => 45 | 28 => 46 | 35 => 51 | 39 => 62 | n => n,
  fun | 22 => 26 | 3 => 3 | 4 => 4 | 0 => 0 | n => n,
  fun | n => n⟩
theorem insI : Go.Proofs.Lays2.n21 Try.prog insI_ren := {
  mixed := by kernel_rfl,
  f21 := Try.func36.trans (congrArg some (by kernel_rfl)),
  f27 := Try.func45.trans (congrArg some (by kernel_rfl)),
  f28 := Try.func46.trans (congrArg some (by kernel_rfl)),
  f35 := Try.func51.trans (congrArg some (by kernel_rfl)),
  f39 := Try.func62.trans (congrArg some (by kernel_rfl)),
  t0 := Try.underlying0,
  a0 := Try.isAgg0,
  z0 := Try.sizeOf0,
  v0 := Try.zeroValue0,
  t3 := Try.underlying3,
  a3 := Try.isAgg3,
  z3 := Try.sizeOf3,
  v3 := Try.zeroValue3,
  t4 := Try.underlying4,
  a4 := Try.isAgg4,
  z4 := Try.sizeOf4,
  v4 := Try.zeroValue4,
  t22 := Try.underlying26,
  a22 := Try.isAgg26,
  z22 := Try.sizeOf26,
  v22 := Try.zeroValue26,
  i3 := by kernel_rfl }
end Go.Proofs.Ythibllnpjjoehaa
