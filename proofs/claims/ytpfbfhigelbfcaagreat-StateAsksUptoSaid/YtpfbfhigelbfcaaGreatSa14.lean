/- Layer 19, the reference: Put, Delete, Tag, Untag. (gen_entb.py); Layer 19, the reference: Tag, Untag. (gen_entb.py) -/
import Derived.Test.YtpfbfhigelbfcaaGreatSa1
import Derived.Test.YtpfbfhigelbfcaaGreatSa3
import Derived.Test.YtpfbfhigelbfcaaGreatSa11
import Derived.Test.YtpfbfhigelbfcaaGreatSa12
import Derived.Test.YtpfbfhigelbfcaaGreatSa13
import Derived.Deep.Cut
import Derived.Deep.DeepCutAuto
set_option linter.unusedSimpArgs false
set_option linter.unusedVariables false
namespace Go.Proofs.YtpfbfhigelbfcaaGreat
open Go.RowKit Go.Lib
end Go.Proofs.YtpfbfhigelbfcaaGreat

