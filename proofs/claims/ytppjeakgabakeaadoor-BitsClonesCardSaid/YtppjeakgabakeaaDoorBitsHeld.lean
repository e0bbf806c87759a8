/- The set of the reference in its variable, beside the program's (layer 5). -/
import Derived.Test.YtppjeakgabakeaaDoorBitsAwake
import Derived.Deep.RegionHeldLaw
import Derived.Deep.RegionHeld3
import Derived.Deep.CutRange
import Derived.Deep.CutBlock
set_option linter.unusedVariables false
namespace Go.Proofs.YtppjeakgabakeaaDoor
open Go.RowKit

/-- The set of the reference in its variable, beside the program's. -/
structure Held (w : World) (lo gx N : Nat) (A : Option Addr) (c : Nat) (l : List Bool) : Prop where
  blk : Blk w gx 29 #[.slice A N c]
  bs : BS w w.heap.size A l
  low : ∀ ad, A = some ad → lo ≤ ad.block ∧ ad.block ≠ gx
  len : l.length = N
  cap : N ≤ c
  max : c ≤ 9223372036854775807
theorem Held.only {w w' : World} {lo gx N g : Nat} {A : Option Addr} {c : Nat} {l : List Bool} (h : Held w lo gx N A c l) (ho : Only w w' g) (hg : g < lo) (hx : lo ≤ gx) : Held w' lo gx N A c l :=
  ⟨h.blk.only ho (by omega), (Reads.only h.bs (Nat.le_refl _) ho (fun ad e => by have := (h.low ad e).1; omega)).more ho.size, h.low, h.len, h.cap, h.max⟩
theorem Held.below {w w' : World} {lo gx N : Nat} {A : Option Addr} {c : Nat} {l : List Bool} (h : Held w lo gx N A c l) (hb : Below w.heap.size w w') : Held w' lo gx N A c l :=
  ⟨h.blk.below hb h.blk.lt, (Reads.below h.bs hb).more hb.size, h.low, h.len, h.cap, h.max⟩
/-- Another set put into the variable. -/
theorem Held.put {w w' : World} {lo gx N : Nat} {A A' : Option Addr} {c c' : Nat} {l l' : List Bool} (h : Held w lo gx N A c l) (hb : Below w.heap.size w w') (hs : BS w' w'.heap.size A' l') (hl : l'.length = N) (hc : N ≤ c') (hm : c' ≤ 9223372036854775807) (hA : A' = A ∨ ∃ g, A' = some ⟨g, 0, none⟩ ∧ w.heap.size ≤ g) (hlo : lo ≤ w.heap.size) :
    Held (w'.setCell ⟨gx, 0, none⟩ (.slice A' N c')) lo gx N A' c' l' := by
  have hlt := h.blk.lt
  have hlow : ∀ ad, A' = some ad → lo ≤ ad.block ∧ ad.block ≠ gx := fun ad e => by
    rcases hA with rfl | ⟨g, rfl, hg⟩
    · exact h.low ad e
    · injection e with e; subst e; exact ⟨by show lo ≤ g; omega, by show g ≠ gx; omega⟩
  refine ⟨(h.blk.below hb hlt).set_ 0 _, ?_, hlow, hl, hc, hm⟩
  have := Reads.only (g := gx) hs (Nat.le_refl _) (only_set w' gx 0 (.slice A' N c')) (fun ad e => (hlow ad e).2)
  exact Reads.more this (by simp [World.setCell])
theorem addB_length (l : List Bool) (i : Int) : (addB l i).1.length = l.length := by
  unfold addB; split
  · split <;> simp
  · rfl
theorem dropB_length (l : List Bool) (i : Int) : (dropB l i).1.length = l.length := by
  unfold dropB; split
  · split <;> simp
  · rfl

end Go.Proofs.YtppjeakgabakeaaDoor
