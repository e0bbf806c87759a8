/- 'not' of a bool, as run equations. Plain lemmas; no statement is proved here. -/
import Derived.Test.YtibaaideleinhaaDoorLaw
set_option linter.unusedVariables false
namespace Go.Proofs.YtibaaideleinhaaDoor
open Go.RowKit

theorem Tryd.notFalse (w : World) : Sem.run Tryd.prog (Op.unary UnOp.not (Value.bool false)) w = Result.ok (Value.bool true) w := rfl
theorem Tryd.notTrue (w : World) : Sem.run Tryd.prog (Op.unary UnOp.not (Value.bool true)) w = Result.ok (Value.bool false) w := rfl
end Go.Proofs.YtibaaideleinhaaDoor
