/- slices.BinarySearch, slices.Insert at rows of numbers: the kit's contracts, laid in plain words -/
import Derived.Test.YtclfghmgcioilaaGreatId9
import Derived.Shelf.SlicesG.SearchI
import Derived.Shelf.Spec.SlicesInsert
import Derived.Shelf.Spec.SlicesInsertGrow
set_option linter.unusedSimpArgs false
set_option linter.unusedVariables false
namespace Go.Proofs.YtclfghmgcioilaaGreat
set_option linter.unusedVariables false
open Go.RowKit Go.Lib Go.Shelf

def seaI_ren : Go.Shelf.Ren := ⟨fun | 49 => 57 | 59 => 66 | 60 => 67 | 68 => 82 | n => n,
  fun | 22 => 34 | 23 => 3 | 3 => 3 | 4 => 4 | 51 => 98 | 0 => 0 | n => n,
  fun | n => n⟩
theorem seaI : Go.Proofs.SlLaysN.n49 Tryz.prog seaI_ren := {
  mixed := by kernel_rfl,
  f49 := ⟨Tryz.f57.name, by decide, Tryz.func57.trans (congrArg some (by kernel_rfl))⟩,
  f59 := ⟨Tryz.f66.name, by decide, Tryz.func66.trans (congrArg some (by kernel_rfl))⟩,
  f60 := ⟨Tryz.f67.name, by decide, Tryz.func67.trans (congrArg some (by kernel_rfl))⟩,
  f68 := ⟨Tryz.f82.name, by decide, Tryz.func82.trans (congrArg some (by kernel_rfl))⟩,
  t0 := Tryz.underlying0,
  a0 := Tryz.isAgg0,
  z0 := Tryz.sizeOf0,
  v0 := Tryz.zeroValue0,
  t3 := Tryz.underlying3,
  a3 := Tryz.isAgg3,
  z3 := Tryz.sizeOf3,
  v3 := Tryz.zeroValue3,
  t4 := Tryz.underlying4,
  a4 := Tryz.isAgg4,
  z4 := Tryz.sizeOf4,
  v4 := Tryz.zeroValue4,
  t22 := Tryz.underlying34,
  a22 := Tryz.isAgg34,
  z22 := Tryz.sizeOf34,
  v22 := Tryz.zeroValue34,
  t23 := Tryz.underlying3,
  a23 := Tryz.isAgg3,
  z23 := Tryz.sizeOf3,
  v23 := Tryz.zeroValue3,
  t51 := Tryz.underlying98,
  a51 := Tryz.isAgg98,
  z51 := Tryz.sizeOf98,
  v51 := Tryz.zeroValue98 }

def insI_ren : Go.Shelf.Ren := ⟨fun | 21 => 69 | 27 => 83 | 28 => 84 | 35 => 98 | 39 => 103 | n => n,
  fun | 22 => 34 | 3 => 3 | 4 => 4 | 0 => 0 | n => n,
  fun | n => n⟩
theorem insI : Go.Proofs.Lays2.n21 Tryz.prog insI_ren := {
  mixed := by kernel_rfl,
  f21 := Tryz.func69.trans (congrArg some (by kernel_rfl)),
  f27 := Tryz.func83.trans (congrArg some (by kernel_rfl)),
  f28 := Tryz.func84.trans (congrArg some (by kernel_rfl)),
  f35 := Tryz.func98.trans (congrArg some (by kernel_rfl)),
  f39 := Tryz.func103.trans (congrArg some (by kernel_rfl)),
  t0 := Tryz.underlying0,
  a0 := Tryz.isAgg0,
  z0 := Tryz.sizeOf0,
  v0 := Tryz.zeroValue0,
  t3 := Tryz.underlying3,
  a3 := Tryz.isAgg3,
  z3 := Tryz.sizeOf3,
  v3 := Tryz.zeroValue3,
  t4 := Tryz.underlying4,
  a4 := Tryz.isAgg4,
  z4 := Tryz.sizeOf4,
  v4 := Tryz.zeroValue4,
  t22 := Tryz.underlying34,
  a22 := Tryz.isAgg34,
  z22 := Tryz.sizeOf34,
  v22 := Tryz.zeroValue34,
  i3 := by kernel_rfl }
end Go.Proofs.YtclfghmgcioilaaGreat
