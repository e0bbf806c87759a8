/- 'not' of a bool, as run equations. Plain lemmas; no statement is proved here. -/
import Derived.Test.YtepeoggacmaenaaMem
set_option linter.unusedVariables false
namespace Go.Proofs.Ytepeoggacmaenaa
open Go.RowKit

theorem Try.notFalse (w : World) : Sem.run Try.prog (Op.unary UnOp.not (Value.bool false)) w = Result.ok (Value.bool true) w := rfl
theorem Try.notTrue (w : World) : Sem.run Try.prog (Op.unary UnOp.not (Value.bool true)) w = Result.ok (Value.bool false) w := rfl
end Go.Proofs.Ytepeoggacmaenaa
