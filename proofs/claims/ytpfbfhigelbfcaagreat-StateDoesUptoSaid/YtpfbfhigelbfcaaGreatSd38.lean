/- slices.BinarySearch, slices.Insert at rows of numbers: the kit's contracts, laid in plain words -/
import Derived.Test.YtpfbfhigelbfcaaGreatSd10
import Derived.Shelf.SlicesG.SearchI
import Derived.Shelf.Spec.SlicesInsert
import Derived.Shelf.Spec.SlicesInsertGrow
set_option linter.unusedSimpArgs false
set_option linter.unusedVariables false
namespace Go.Proofs.YtpfbfhigelbfcaaGreat
open Go.RowKit Go.Lib Go.Shelf
def seaI_ren : Go.Shelf.Ren := ⟨fun | 49 => 138 | 59 => 156 | 60 => 161 | 68 => 96 | n => n,
 fun | 22 => 40 | 23 => 3 | 3 => 3 | 4 => 4 | 51 => 177 | 0 => 0 | n => n,
 fun | n => n⟩
theorem seaI : Go.Proofs.SlLaysN.n49 Tryz.prog seaI_ren := {
 mixed := by kernel_rfl,
 f49 := ⟨Tryz.f138.name, by decide, Tryz.func138.trans (congrArg some (by kernel_rfl))⟩,
 f59 := ⟨Tryz.f156.name, by decide, Tryz.func156.trans (congrArg some (by kernel_rfl))⟩,
 f60 := ⟨Tryz.f161.name, by decide, Tryz.func161.trans (congrArg some (by kernel_rfl))⟩,
 f68 := ⟨Tryz.f96.name, by decide, Tryz.func96.trans (congrArg some (by kernel_rfl))⟩,
 t0 := Tryz.underlying0,
 a0 := Tryz.isAgg0,
 z0 := Tryz.sizeOf0,
 v0 := Tryz.zeroValue0,
 t3 := Tryz.underlying3,
 a3 := Tryz.isAgg3,
 z3 := Tryz.sizeOf3,
 v3 := Tryz.zeroValue3,
 t4 := Tryz.underlying4,
 a4 := Tryz.isAgg4,
 z4 := Tryz.sizeOf4,
 v4 := Tryz.zeroValue4,
 t22 := Tryz.underlying40,
 a22 := Tryz.isAgg40,
 z22 := Tryz.sizeOf40,
 v22 := Tryz.zeroValue40,
 t23 := Tryz.underlying3,
 a23 := Tryz.isAgg3,
 z23 := Tryz.sizeOf3,
 v23 := Tryz.zeroValue3,
 t51 := Tryz.underlying177,
 a51 := Tryz.isAgg177,
 z51 := Tryz.sizeOf177,
 v51 := Tryz.zeroValue177 }
def insI_ren : Go.Shelf.Ren := ⟨fun | 21 => 139 | 27 => 162 | 28 => 163 | 35 => 174 | 39 => 185 | n => n,
 fun | 22 => 40 | 3 => 3 | 4 => 4 | 0 => 0 | n => n,
 fun | n => n⟩
theorem insI : Go.Proofs.Lays2.n21 Tryz.prog insI_ren := {
 mixed := by kernel_rfl,
 f21 := Tryz.func139.trans (congrArg some (by kernel_rfl)),
 f27 := Tryz.func162.trans (congrArg some (by kernel_rfl)),
 f28 := Tryz.func163.trans (congrArg some (by kernel_rfl)),
 f35 := Tryz.func174.trans (congrArg some (by kernel_rfl)),
 f39 := Tryz.func185.trans (congrArg some (by kernel_rfl)),
 t0 := Tryz.underlying0,
 a0 := Tryz.isAgg0,
 z0 := Tryz.sizeOf0,
 v0 := Tryz.zeroValue0,
 t3 := Tryz.underlying3,
 a3 := Tryz.isAgg3,
 z3 := Tryz.sizeOf3,
 v3 := Tryz.zeroValue3,
 t4 := Tryz.underlying4,
 a4 := Tryz.isAgg4,
 z4 := Tryz.sizeOf4,
 v4 := Tryz.zeroValue4,
 t22 := Tryz.underlying40,
 a22 := Tryz.isAgg40,
 z22 := Tryz.sizeOf40,
 v22 := Tryz.zeroValue40,
 i3 := by kernel_rfl }
end Go.Proofs.YtpfbfhigelbfcaaGreat

