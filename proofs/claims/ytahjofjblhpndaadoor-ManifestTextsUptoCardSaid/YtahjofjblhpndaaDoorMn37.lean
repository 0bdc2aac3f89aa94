/- Layer 17: what the rows' list gives of package strconv's variables, and a world for the witnesses; what the laws want of package manifest -/
import Derived.Test.YtahjofjblhpndaaDoorMn8
import Derived.Test.YtahjofjblhpndaaDoorMn34
import Derived.Test.YtahjofjblhpndaaDoorMn36
import Derived.Test.YtahjofjblhpndaaDoorCards
import Derived.Test.YtahjofjblhpndaaDoorTie
import Derived.Deep.DeepHandedRow
import Derived.Deep.DeepWitnessRowRef
import Derived.Lib.LaidTab
import Derived.LaidMore
import Derived.Stop.LaidErr
set_option linter.unusedSimpArgs false
set_option linter.unusedVariables false
namespace Go.Proofs.YtahjofjblhpndaaDoor
set_option linter.unusedVariables false
open Go.RowKit Go.Lib Go.ChangeShapes Go.WideShapes Go.ChangeAt

theorem gPowType : (Tryd.prog.globals[1]?).map (·.type) = some 103 := by kernel_rfl
theorem gRangeType : (Tryd.prog.globals[3]?).map (·.type) = some 77 := by kernel_rfl
theorem gSyntaxType : (Tryd.prog.globals[2]?).map (·.type) = some 77 := by kernel_rfl
theorem cells20 : Tryd.prog.cellsOf 103 = 20 := by kernel_rfl
theorem cells64 : Tryd.prog.cellsOf 89 = 1 := by kernel_rfl
theorem cellsEs : Tryd.prog.cellsOf 125 = 1 := by kernel_rfl
theorem cellsStr : Tryd.prog.cellsOf 9 = 1 := by kernel_rfl
theorem starEs : "*" ++ "errors.errorString" = "*errors.errorString" := by decide
theorem rowEs (u : TypeId) (h : Tryd.prog.typeName? 3 u = some "*errors.errorString") : u = 123 :=
  typeName_ptr_named (nm := "errors.errorString") (by rw [starEs]; kernel_rfl) (by kernel_rfl) (by decide) u (by rw [starEs]; exact h)
theorem powTab : (Rows.laid_internal_strconv_uint64pow10 : DataW Unit) = Lib.tabData .u64 Lib.pow10Tab := by kernel_rfl
def laidL {H : Type} : List (String × DataW H) := [("math/bits.deBruijn32tab", Rows.laid_math_bits_deBruijn32tab), ("math/bits.deBruijn64tab", Rows.laid_math_bits_deBruijn64tab), ("internal/strconv.uint64pow10", Rows.laid_internal_strconv_uint64pow10), ("strconv.ErrRange", Rows.laid_strconv_ErrRange), ("strconv.ErrSyntax", Rows.laid_strconv_ErrSyntax)]
theorem lw_of_list {W : World} (h0 : laidMet Tryd.prog laidL W) : Lw W := by
  have h1 := h0.tail.tail
  unfold laidL at h1
  rw [powTab] at h1
  have h2 := h1.tail
  have h3 := h2.tail
  obtain ⟨a0, s0, hv0, _, _, _⟩ := laid_sentinel h2 gRange gRangeType Tryd.underlying77 rowEs Tryd.underlying123 Tryd.underlying125 rfl rfl Tryd.underlying9 cellsEs cellsStr
  obtain ⟨a1, s1, hv1, _, _, _⟩ := laid_sentinel h3 gSyntax gSyntaxType Tryd.underlying77 rowEs Tryd.underlying123 Tryd.underlying125 rfl rfl Tryd.underlying9 cellsEs cellsStr
  exact ⟨Lib.tabIs_of_head gPow gPowType Tryd.underlying103 Tryd.underlying89 cells64 cells20 h1, ⟨_, _, hv0⟩, _, _, hv1⟩
theorem lw_texts {W : World} (h : laidMetH Tryd.prog Rows.manifestTextsUptoRow.laid W) : Lw W := lw_of_list h
theorem lw_reads {W : World} (h : laidMetH Tryd.prog Rows.manifestReadsUptoRow.laid W) : Lw W := lw_of_list h
theorem lw_back {W : World} (h : laidMetH Tryd.prog Rows.manifestBackUptoRow.laid W) : Lw W := lw_of_list h
theorem lasts_lw : Lasts Lw := fun w w' h hb => h.later hb

/-- A world for the witnesses: the one that the initialisers leave. -/
noncomputable def laidWorld (os : Os) : World := World.doorLaid Tryd.prog 400 os
end Go.Proofs.YtahjofjblhpndaaDoor
