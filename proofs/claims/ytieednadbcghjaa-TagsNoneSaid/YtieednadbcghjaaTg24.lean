/- slices.BinarySearch, slices.Insert at rows of numbers: the kit's contracts, laid in plain words -/
import Derived.Test.YtieednadbcghjaaTg9
import Derived.Shelf.SlicesG.SearchI
import Derived.Shelf.Spec.SlicesInsert
import Derived.Shelf.Spec.SlicesInsertGrow
set_option linter.unusedSimpArgs false
set_option linter.unusedVariables false
namespace Go.Proofs.Ytieednadbcghjaa
set_option linter.unusedVariables false
open Go.RowKit Go.Lib Go.Shelf

def seaI_ren : Go.Shelf.Ren := ⟨fun | 49 => 51 | 59 => 56 | 60 => 57 | 68 => 62 | n => n,
  fun | 22 => 34 | 23 => 3 | 3 => 3 | 4 => 4 | 51 => 86 | 0 => 0 | n => n,
  fun | n => n⟩
theorem seaI : Go.Proofs.SlLaysN.n49 Try.prog seaI_ren := {
  mixed := by kernel_rfl,
  f49 := ⟨Try.f51.name, by decide, Try.func51.trans (congrArg some (by kernel_rfl))⟩,
  f59 := ⟨Try.f56.name, by decide, Try.func56.trans (congrArg some (by kernel_rfl))⟩,
  f60 := ⟨Try.f57.name, by decide, Try.func57.trans (congrArg some (by kernel_rfl))⟩,
  f68 := ⟨Try.f62.name, by decide, Try.func62.trans (congrArg some (by kernel_rfl))⟩,
  t0 := Try.underlying0,
  a0 := Try.isAgg0,
  z0 := Try.sizeOf0,
  v0 := Try.zeroValue0,
  t3 := Try.underlying3,
  a3 := Try.isAgg3,
  z3 := Try.sizeOf3,
  v3 := Try.zeroValue3,
  t4 := Try.underlying4,
  a4 := Try.isAgg4,
  z4 := Try.sizeOf4,
  v4 := Try.zeroValue4,
  t22 := Try.underlying34,
  a22 := Try.isAgg34,
  z22 := Try.sizeOf34,
  v22 := Try.zeroValue34,
  t23 := Try.underlying3,
  a23 := Try.isAgg3,
  z23 := Try.sizeOf3,
  v23 := Try.zeroValue3,
  t51 := Try.underlying86,
  a51 := Try.isAgg86,
  z51 := Try.sizeOf86,
  v51 := Try.zeroValue86 }

def insI_ren : Go.Shelf.Ren := ⟨fun | 21 => 52 | 27 => 58 | 28 => 59 | 35 => 63 | 39 => 74 | n => n,
  fun | 22 => 34 | 3 => 3 | 4 => 4 | 0 => 0 | n => n,
  fun | n => n⟩
theorem insI : Go.Proofs.Lays2.n21 Try.prog insI_ren := {
  mixed := by kernel_rfl,
  f21 := Try.func52.trans (congrArg some (by kernel_rfl)),
  f27 := Try.func58.trans (congrArg some (by kernel_rfl)),
  f28 := Try.func59.trans (congrArg some (by kernel_rfl)),
  f35 := Try.func63.trans (congrArg some (by kernel_rfl)),
  f39 := Try.func74.trans (congrArg some (by kernel_rfl)),
  t0 := Try.underlying0,
  a0 := Try.isAgg0,
  z0 := Try.sizeOf0,
  v0 := Try.zeroValue0,
  t3 := Try.underlying3,
  a3 := Try.isAgg3,
  z3 := Try.sizeOf3,
  v3 := Try.zeroValue3,
  t4 := Try.underlying4,
  a4 := Try.isAgg4,
  z4 := Try.sizeOf4,
  v4 := Try.zeroValue4,
  t22 := Try.underlying34,
  a22 := Try.isAgg34,
  z22 := Try.sizeOf34,
  v22 := Try.zeroValue34,
  i3 := by kernel_rfl }
end Go.Proofs.Ytieednadbcghjaa
