/- Lemmas under the proofs of this place: IdsPlain, Guard. No statement is proved here. -/
import Derived.Test.YtpcopmpmcjkamaaDoorBu00
import GoSem.Op.String
import Derived.StillTail
set_option linter.unusedVariables false
namespace Go.Proofs.YtpcopmpmcjkamaaDoor
section
open Go.Op
abbrev Bs := List UInt8
def rightB (a : Bs) : Bool := a.length == 32
end
section
open Go.RowKit
section
variable {P : Program} {Q : Exit → Act → World → Prop} {a : Act}
theorem wpAny_tail {md : Region.Mode} {l : List Oper} {fuel : Nat} {listed : Array Bool} {w : World} (n : Nat) (hf : fuel = (l.drop n).length)
    (hB : Region.seqB md l.toArray (l.drop n).length n listed = true) (h : wpList P l.toArray Q (l.drop n) a w) : wpAny P md l.toArray Q fuel listed a w := by
  subst hf
  exact wpAny_of_seq (l.drop n) n listed a w (fun j => by simp [List.getElem?_drop]) hB h
end
end
end Go.Proofs.YtpcopmpmcjkamaaDoor
