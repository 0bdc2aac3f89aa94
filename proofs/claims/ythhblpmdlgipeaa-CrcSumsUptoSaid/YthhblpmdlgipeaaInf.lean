/- Facts on uint8, for layers without the reference's Same. -/
import Derived.Test.YthhblpmdlgipeaaLib2
namespace Go.Proofs.Ythhblpmdlgipeaa
set_option linter.unusedVariables false
open Go.RowKit Go.Lib
theorem info8 : (Try.prog.info? 5).map (fun i => (i.zero, i.size, i.bytes)) = some (some (.int .u8 0), 1, 1) := by kernel_rfl
theorem size8 : (Try.prog.info? 5).map (·.size) = some 1 := by kernel_rfl
end Go.Proofs.Ythhblpmdlgipeaa
