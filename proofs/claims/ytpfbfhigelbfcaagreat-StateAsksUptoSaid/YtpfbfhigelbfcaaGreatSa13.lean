/- Layer 19, the reference: in, Add, Row, both, Others, Alive; Layer 19, the reference: Others, Alive -/
import Derived.Test.YtpfbfhigelbfcaaGreatSa3
import Derived.Test.YtpfbfhigelbfcaaGreatSa11
import Derived.Lib.SmallJoins
set_option linter.unusedSimpArgs false
set_option linter.unusedVariables false
namespace Go.Proofs.YtpfbfhigelbfcaaGreat
open Go.RowKit Go.Lib
end Go.Proofs.YtpfbfhigelbfcaaGreat

