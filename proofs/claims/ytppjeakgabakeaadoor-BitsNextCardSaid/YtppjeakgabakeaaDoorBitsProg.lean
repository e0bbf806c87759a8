/- The contracts of the program's package bits (layer 5), all of them. -/
import Derived.Test.YtppjeakgabakeaaDoorBitsPAdd
import Derived.Test.YtppjeakgabakeaaDoorBitsPList
set_option linter.unusedVariables false
namespace Go.Proofs.YtppjeakgabakeaaDoor

end Go.Proofs.YtppjeakgabakeaaDoor
