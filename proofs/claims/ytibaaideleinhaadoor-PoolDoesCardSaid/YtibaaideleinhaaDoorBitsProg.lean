/- The contracts of the program's package bits (layer 5), all of them. -/
import Derived.Test.YtibaaideleinhaaDoorBitsPAdd
import Derived.Test.YtibaaideleinhaaDoorBitsPList
set_option linter.unusedVariables false
namespace Go.Proofs.YtibaaideleinhaaDoor

end Go.Proofs.YtibaaideleinhaaDoor
