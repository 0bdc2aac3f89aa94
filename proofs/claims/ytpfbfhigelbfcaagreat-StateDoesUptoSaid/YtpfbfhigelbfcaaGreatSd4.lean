/- Facts on uint8, for layers without the reference's Same -/
import Derived.Test.YtpfbfhigelbfcaaGreatSd2
import Derived.Laws.Rows
set_option linter.unusedSimpArgs false
set_option linter.unusedVariables false
namespace Go.Proofs.YtpfbfhigelbfcaaGreat
open Go.RowKit Go.Lib
theorem cells8 : Tryz.prog.cellsOf 5 = 1 := by kernel_rfl
end Go.Proofs.YtpfbfhigelbfcaaGreat

