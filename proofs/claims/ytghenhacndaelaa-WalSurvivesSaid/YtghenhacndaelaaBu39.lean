/- Lemmas under the proofs of this place: WalWeak. No statement is proved here. -/
import Derived.Test.YtghenhacndaelaaBu14
import Derived.Test.YtghenhacndaelaaBu38
set_option linter.unusedVariables false
namespace Go.Proofs.Ytghenhacndaelaa
open Go.RowKit
def BLw (w : World) (P : Nat → Prop) (A : Option Addr) (l : List (List UInt8)) : Prop :=
  0 < l.length → ∃ b off, A = some ⟨b, off, none⟩ ∧ b < w.heap.size ∧ P b ∧ ∀ i (hi : i < l.length), ∃ dA dc, RB w w.heap.size dA l[i] ∧ (0 < l[i].length → ∀ ad, dA = some ad → P ad.block) ∧ w.cell? ⟨b, off + i, none⟩ = some (.slice dA l[i].length dc)
theorem rb_block {w : World} {B : Nat} {A : Option Addr} {L : List UInt8} (h : RB w B A L) (h0 : 0 < L.length) : ∀ ad, A = some ad → ad.block < B := fun ad e => by
  obtain ⟨ad', e', hb, _⟩ := h.2 (by omega)
  rw [e] at e'
  injection e' with e'
  rw [e']
  exact hb
theorem rb_empty {w : World} {B : Nat} {A : Option Addr} {L : List UInt8} (h0 : ¬ 0 < L.length) : RB w B A L := by
  have e : L = [] := List.eq_nil_of_length_eq_zero (by omega)
  subst e
  exact ⟨rfl, fun h1 => absurd h1 (by simp)⟩
section
variable {w w' : World} {P P' : Nat → Prop} {A : Option Addr} {l : List (List UInt8)}
theorem BL.weak (h : BL w P A l) : BLw w P A l := fun h0 => by
  obtain ⟨b, off, e, hlt, hp, hc⟩ := h h0
  refine ⟨b, off, e, hlt, hp, fun i hi => ?_⟩
  obtain ⟨dA, dc, h1, h2, h3⟩ := hc i hi
  exact ⟨dA, dc, h1, fun _ ad e => (h2 ad e).1, h3⟩
theorem BLw.turns {E E' : Nat → Prop} (h : BLw w P A l) (ht : Turns w w' E E') (hn : ∀ k, P k → k < w.heap.size → ¬ E k) : BLw w' P A l := fun h0 => by
  obtain ⟨b, off, e, hlt, hp, hc⟩ := h h0
  refine ⟨b, off, e, Nat.lt_of_lt_of_le hlt ht.size, hp, fun i hi => ?_⟩
  obtain ⟨dA, dc, h1, h2, h3⟩ := hc i hi
  refine ⟨dA, dc, ?_, h2, (ht.cell (p := ⟨b, off + i, none⟩) hlt (hn b hp hlt)).trans h3⟩
  by_cases h5 : 0 < l[i].length
  · exact (Reads.turns h1 (Nat.le_refl _) ht fun ad e => hn _ (h2 h5 ad e) (rb_block h1 h5 ad e)).more ht.size
  · exact rb_empty h5
theorem BLw.wide (h : BLw w P A l) (hP : ∀ k, P k → P' k) : BLw w P' A l := fun h0 => by
  obtain ⟨b, off, e, hlt, hp, hc⟩ := h h0
  refine ⟨b, off, e, hlt, hP b hp, fun i hi => ?_⟩
  obtain ⟨dA, dc, h1, h2, h3⟩ := hc i hi
  exact ⟨dA, dc, h1, fun h5 ad e => hP _ (h2 h5 ad e), h3⟩
theorem BLw.up (h : BLw w P A l) (hb : Below w.heap.size w w') : BLw w' P A l := h.turns (Turns.of_below hb (fun _ => False)) (fun _ _ _ h => h)
theorem BLw.nil : BLw w P A [] := fun h => absurd h (by simp)
theorem BLw.lt (h : BLw w P A l) : BLw w (fun k => P k ∧ k < w.heap.size) A l := fun h0 => by
  obtain ⟨b, off, e, hlt, hp, hc⟩ := h h0
  refine ⟨b, off, e, hlt, ⟨hp, hlt⟩, fun i hi => ?_⟩
  obtain ⟨dA, dc, h1, h2, h3⟩ := hc i hi
  exact ⟨dA, dc, h1, fun h5 ad e => ⟨h2 h5 ad e, rb_block h1 h5 ad e⟩, h3⟩
theorem BLw.keep {X X' : Nat → Prop} (h : BLw w (fun k => ¬ X k) A l) (ht : Turns w w' X X') : BLw w' (fun k => ¬ X' k) A l :=
  (h.lt.turns ht fun k hk _ => hk.1).wide fun k hk hx' => by
    rcases ht.foot k hx' with h1 | h1
    · exact hk.1 h1
    · have := hk.2; omega
theorem BLw.front {x : List (List UInt8)} (h : BLw w P A (l ++ x)) : BLw w P A l := fun h0 => by
  obtain ⟨b, off, e, hlt, hp, hc⟩ := h (by rw [List.length_append]; omega)
  refine ⟨b, off, e, hlt, hp, fun i hi => ?_⟩
  have h1 := hc i (by rw [List.length_append]; omega)
  rw [List.getElem_append_left hi] at h1
  exact h1
end
end Go.Proofs.Ytghenhacndaelaa
