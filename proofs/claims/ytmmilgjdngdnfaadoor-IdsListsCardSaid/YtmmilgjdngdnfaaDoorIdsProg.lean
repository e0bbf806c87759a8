/- The contracts of the program's package ids (layer 4), together. -/
import Derived.Test.YtmmilgjdngdnfaaDoorIdsPSets
import Derived.Test.YtmmilgjdngdnfaaDoorIdsPHex
import Derived.Test.YtmmilgjdngdnfaaDoorIdsPParse
import Derived.Test.YtmmilgjdngdnfaaDoorIdsPTag
namespace Go.Proofs.YtmmilgjdngdnfaaDoor

end Go.Proofs.YtmmilgjdngdnfaaDoor
