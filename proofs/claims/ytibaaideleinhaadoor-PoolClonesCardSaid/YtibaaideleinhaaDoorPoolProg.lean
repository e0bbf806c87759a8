/- The contracts of the program's pool, that the laws of layer 11 stand on, all of them. -/
import Derived.Test.YtibaaideleinhaaDoorPoolPBecome
set_option linter.unusedVariables false
namespace Go.Proofs.YtibaaideleinhaaDoor

end Go.Proofs.YtibaaideleinhaaDoor
