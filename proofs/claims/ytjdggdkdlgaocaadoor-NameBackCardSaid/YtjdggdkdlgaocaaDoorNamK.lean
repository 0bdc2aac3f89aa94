/- Layer 8: what the row's list gives of package strconv's variables, and a world for the witnesses. -/
import Derived.Test.YtjdggdkdlgaocaaDoorNamJ
import Derived.Test.YtjdggdkdlgaocaaDoorLaw
import Derived.Test.YtjdggdkdlgaocaaDoorCards
import Derived.Test.YtjdggdkdlgaocaaDoorTie
import Derived.Deep.DeepHandedRow
import Derived.Deep.DeepWitnessRowRef
import Derived.Lib.LaidTab
import Derived.LaidMore
import Derived.Stop.LaidErr
namespace Go.Proofs.YtjdggdkdlgaocaaDoor
set_option linter.unusedVariables false
open Go.RowKit Go.Lib Go.ChangeShapes Go.WideShapes Go.ChangeAt

theorem gPowType : (Tryd.prog.globals[2]?).map (·.type) = some 87 := by kernel_rfl
theorem gRangeType : (Tryd.prog.globals[1]?).map (·.type) = some 35 := by kernel_rfl
theorem gSyntaxType : (Tryd.prog.globals[0]?).map (·.type) = some 35 := by kernel_rfl
theorem cells20 : Tryd.prog.cellsOf 87 = 20 := by kernel_rfl
theorem cells64 : Tryd.prog.cellsOf 63 = 1 := by kernel_rfl
theorem cellsEs : Tryd.prog.cellsOf 84 = 1 := by kernel_rfl
theorem cellsStr : Tryd.prog.cellsOf 9 = 1 := by kernel_rfl
theorem starEs : "*" ++ "errors.errorString" = "*errors.errorString" := by decide
theorem rowEs (u : TypeId) (h : Tryd.prog.typeName? 3 u = some "*errors.errorString") : u = 82 :=
  typeName_ptr_named (nm := "errors.errorString") (by rw [starEs]; kernel_rfl) (by kernel_rfl) (by decide) u (by rw [starEs]; exact h)
theorem powTab : (Rows.laid_internal_strconv_uint64pow10 : DataW Unit) = Lib.tabData .u64 Lib.pow10Tab := by kernel_rfl
theorem lw_of_laid {W : World} (h : laidMetH Tryd.prog Rows.nameTagsRow.laid W) : Lw W := by
  have h0 : laidMet Tryd.prog [("math/bits.deBruijn32tab", Rows.laid_math_bits_deBruijn32tab), ("math/bits.deBruijn64tab", Rows.laid_math_bits_deBruijn64tab), ("internal/strconv.uint64pow10", Rows.laid_internal_strconv_uint64pow10), ("strconv.ErrRange", Rows.laid_strconv_ErrRange), ("strconv.ErrSyntax", Rows.laid_strconv_ErrSyntax)] W := h
  have h1 := h0.tail.tail
  rw [powTab] at h1
  have h2 := h1.tail
  have h3 := h2.tail
  obtain ⟨a0, s0, hv0, _, _, _⟩ := laid_sentinel h2 gRange gRangeType Tryd.underlying35 rowEs Tryd.underlying82 Tryd.underlying84 rfl rfl Tryd.underlying9 cellsEs cellsStr
  obtain ⟨a1, s1, hv1, _, _, _⟩ := laid_sentinel h3 gSyntax gSyntaxType Tryd.underlying35 rowEs Tryd.underlying82 Tryd.underlying84 rfl rfl Tryd.underlying9 cellsEs cellsStr
  exact ⟨Lib.tabIs_of_head gPow gPowType Tryd.underlying87 Tryd.underlying63 cells64 cells20 h1, ⟨_, _, hv0⟩, _, _, hv1⟩

/-- A world for the witnesses: the one that the initialisers leave. -/
noncomputable def laidWorld (os : Os) : World := World.doorLaid Tryd.prog 400 os
end Go.Proofs.YtjdggdkdlgaocaaDoor
