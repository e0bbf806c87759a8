/- Lemmas under the proofs of this place: DiskHas. No statement is proved here. -/
import Derived.Test.YtghenhacndaelaaBu24
set_option linter.unusedVariables false
namespace Go.Proofs.Ytghenhacndaelaa
open Go.RowKit
structure Has (w0 w : World) (g : Nat) (F : Nat → Prop) (d : Dk) : Prop where
  disk : PDisk w g F d
  below : Below w0.heap.size w0 w
  own : ∀ k, F k → w0.heap.size ≤ k
section
variable {w0 w w' : World} {g : Nat} {F F' : Nat → Prop} {d d' : Dk}
theorem Has.turned (h : Has w0 w g F d) (hp : PDisk w' g F' d') (ht : Turns w w' F F') : Has w0 w' g F' d' :=
  ⟨hp, h.below.trans (ht.below h.own h.below.size), fun k hk => by
    rcases ht.foot k hk with h1 | h1
    · exact h.own k h1
    · exact Nat.le_trans h.below.size h1⟩
theorem Has.deeds (h : Has w0 w g F d) (hd : Deeds d' F w w' g) : Has w0 w' g F d' := h.turned hd.1 hd.2
theorem Has.more (h : Has w0 w g F d) (hb : Below w.heap.size w w') : Has w0 w' g F d := h.turned (h.disk.below hb) (Turns.of_below hb F)
theorem Has.gives {D : Dk} (hb : Below w0.heap.size w0 w) (h : GivesDisk D w w' g F) : Has w0 w' g F D :=
  ⟨h.1, hb.trans (h.2.1.mono hb.size), fun k hk => Nat.le_trans hb.size (h.2.2 k hk)⟩
theorem Has.flt (h : Has w0 w g F d) : ∀ k, F k → k < w.heap.size := h.disk.flt
end
end Go.Proofs.Ytghenhacndaelaa
