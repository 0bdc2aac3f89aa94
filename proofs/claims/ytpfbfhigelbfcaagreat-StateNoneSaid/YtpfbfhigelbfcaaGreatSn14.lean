/- Layer 19, the reference: Put, Delete, Tag, Untag. (gen_entb.py); Layer 19, the reference: Tag, Untag. (gen_entb.py) -/
import Derived.Test.YtpfbfhigelbfcaaGreatSn1
import Derived.Test.YtpfbfhigelbfcaaGreatSn3
import Derived.Test.YtpfbfhigelbfcaaGreatSn11
import Derived.Test.YtpfbfhigelbfcaaGreatSn12
import Derived.Test.YtpfbfhigelbfcaaGreatSn13
import Derived.Deep.Cut
import Derived.Deep.DeepCutAuto
set_option linter.unusedSimpArgs false
set_option linter.unusedVariables false
namespace Go.Proofs.YtpfbfhigelbfcaaGreat
open Go.RowKit Go.Lib
end Go.Proofs.YtpfbfhigelbfcaaGreat

