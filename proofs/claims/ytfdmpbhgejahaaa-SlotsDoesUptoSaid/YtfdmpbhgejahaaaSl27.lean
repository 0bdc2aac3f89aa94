/- At commit 86bb190 the laws SlotsDoes, SlotsMany and SlotsNone answer true at every input; of SlotsDoes on the condition that its list is no bulkier than the statement UptoSaid allows (1048576). -/
import Derived.Test.YtfdmpbhgejahaaaSl14
import Derived.Test.YtfdmpbhgejahaaaSl24
import Derived.Test.YtfdmpbhgejahaaaSl26
set_option linter.unusedSimpArgs false
set_option linter.unusedVariables false
namespace Go.Proofs.Ytfdmpbhgejahaaa
end Go.Proofs.Ytfdmpbhgejahaaa
