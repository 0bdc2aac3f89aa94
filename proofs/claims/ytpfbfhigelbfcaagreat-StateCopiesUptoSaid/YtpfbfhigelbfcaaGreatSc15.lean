/- Layer 11, the reference: Ints: of equal rows it answers true -/
import Derived.Test.YtpfbfhigelbfcaaGreatSc3
import Derived.Test.YtpfbfhigelbfcaaGreatSc10
import Derived.Lib.SmallJoins
set_option linter.unusedSimpArgs false
set_option linter.unusedVariables false
namespace Go.Proofs.YtpfbfhigelbfcaaGreat
open Go.RowKit Go.Lib
end Go.Proofs.YtpfbfhigelbfcaaGreat

