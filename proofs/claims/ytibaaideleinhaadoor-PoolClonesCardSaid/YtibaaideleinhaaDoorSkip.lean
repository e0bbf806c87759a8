/- A drawn region with guards, by hand: what is not wanted is taken first. General; nothing of the program. -/
import Derived.Test.YtibaaideleinhaaDoorTake
set_option linter.unusedVariables false
namespace Go.Proofs.YtibaaideleinhaaDoor
open Go.RowKit

/-- An operation that is not wanted is taken first. -/
theorem any_skip {P : Program} {ops : Array Oper} {Q : Exit → Act → World → Prop} {md : Region.Mode} {S : World → Prop} {T : Nat → Bool} {i fuel : Nat} {oi : Oper} {listed listed' : Array Bool} {a a' : Act} {w : World} (hi : ops[i]? = some oi) (hs : Region.noSelect ops = true) (hf : Region.free md ops listed i = true) (hr : (Region.ready md ops listed).contains i = true)
    (hT : T i = false) (hwt : waits_ md ops T i = true) (hw : Region.wanted oi (yielded ops a.tmps) = false) (hS : S w) (ha : a.put oi.dst undef = a') (hl : listed.setIfInBounds i true = listed') (hQ : ∀ c a w, Q (.panic c) (a.put oi.dst undef) w → Q (.panic c) a w)
    (h : wpAnyT P md ops Q S T fuel listed' a' w) : wpAnyT P md ops Q S T (fuel + 1) listed a w := by
  subst ha hl
  exact wpAnyT_first hi hwt hT (Region.noSelect_spec hs) hQ fuel listed a w (Region.free_spec hi hf) (by simpa using hr) (.inr ⟨hw, rfl⟩) hS h
theorem skip_d {P : Program} {ops : Array Oper} {Q : Exit → Act → World → Prop} {md : Region.Mode} {S : World → Prop} {T : Nat → Bool} {i fuel : Nat} {oi : Oper} {listed : Array Bool} {a : Act} {w : World} (d : Nat) (hi : ops[i]? = some oi) (hd : oi.dst = some d) (hs : Region.noSelect ops = true) (hf : Region.free md ops listed i = true) (hr : (Region.ready md ops listed).contains i = true)
    (hT : T i = false) (hwt : waits_ md ops T i = true) (hw : Region.wanted oi (yielded ops a.tmps) = false) (hS : S w) (hQ : ∀ c a w, Q (.panic c) (a.put oi.dst undef) w → Q (.panic c) a w)
    (h : wpAnyT P md ops Q S T fuel (listed.setIfInBounds i true) (a.put (some d) undef) w) : wpAnyT P md ops Q S T (fuel + 1) listed a w :=
  any_skip hi hs hf hr hT hwt hw hS (by rw [hd]) rfl hQ h
theorem take_d {P : Program} {ops : Array Oper} {Q : Exit → Act → World → Prop} {md : Region.Mode} {S : World → Prop} {T : Nat → Bool} {i fuel : Nat} {oi : Oper} {listed : Array Bool} {a : Act} {w : World} (v : Value) (d : Nat) (hi : ops[i]? = some oi) (hd : oi.dst = some d) (hs : Region.noSelect ops = true) (hf : Region.free md ops listed i = true) (hr : (Region.ready md ops listed).contains i = true)
    (hT : T i = false) (hwt : waits_ md ops T i = true) (hw : Region.wanted oi (yielded ops a.tmps) = true) (hy : ∀ w, S w → (execOp a.eval oi).run P w = .ok (.value v) w) (hS : S w) (hQ : ∀ c a w, Q (.panic c) (a.put oi.dst v) w → Q (.panic c) a w)
    (h : wpAnyT P md ops Q S T fuel (listed.setIfInBounds i true) (a.put (some d) v) w) : wpAnyT P md ops Q S T (fuel + 1) listed a w :=
  any_take v hi hs hf hr hT hwt hw hy hS (by rw [hd]) rfl hQ h
end Go.Proofs.YtibaaideleinhaaDoor
