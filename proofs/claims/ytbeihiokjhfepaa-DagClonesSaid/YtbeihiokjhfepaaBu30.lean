/- Lemmas under the proofs of this place: DagHas. No statement is proved here. -/
import Derived.Test.YtbeihiokjhfepaaBu29
import Derived.Test.YtbeihiokjhfepaaBu18
set_option linter.unusedSimpArgs false
set_option linter.unusedVariables false
namespace Go.Proofs.Ytbeihiokjhfepaa
open Go.RowKit
theorem PDag.below {w w' : World} {p : Nat} {F : Nat → Prop} {g : Gr} (h : PDag w p F g) (hb : Below w.heap.size w w') : PDag w' p F g := h.turns (Turns.of_below hb (fun _ => False)) (fun _ _ h => h) (fun _ _ h => h)
structure DH (w0 w : World) (p : Nat) (F : Nat → Prop) (g : Gr) : Prop where
  dag : PDag w p F g
  own : ∀ k, F k → w0.heap.size ≤ k
  below : Below w0.heap.size w0 w
structure RH (w0 w : World) (E : Nat → Prop) (A : Option Addr) (n : Nat) (g : Gr) : Prop where
  row : ∃ r : List NdA, r.map (·.1) = g ∧ Reads w w.heap.size 2 A n (rowN r) ∧ NPreds w w0.heap.size r
  len : n = g.length
  far : ∀ ad, A = some ad → ¬ E ad.block ∧ ad.block < w.heap.size
section
variable {w0 w w' : World} {p : Nat} {F F' E E' : Nat → Prop} {g g' : Gr} {A : Option Addr} {n : Nat}
theorem DH.turned (h : DH w0 w p F g) (hp : PDagN w w' p F' g') (ht : Turns w w' F F') : DH w0 w' p F' g' :=
  ⟨hp.1, fun k hk => by
    rcases ht.foot k hk with h1 | h1
    · exact h.own k h1
    · exact Nat.le_trans h.below.size h1, h.below.trans (ht.below h.own h.below.size)⟩
theorem DH.up (h : DH w0 w p F g) (hb : Below w.heap.size w w') : DH w0 w' p F g := ⟨h.dag.below hb, h.own, h.below.trans (hb.mono h.below.size)⟩
theorem DH.flt (h : DH w0 w p F g) : ∀ k, F k → k < w.heap.size := h.dag.flt
theorem DH.other (h : DH w0 w p F g) (ht : Turns w w' E E') (hd : ∀ k, F k → ¬ E k) (hG : ∀ k, GP w p k → ¬ E k) (hE : ∀ k, E k → w0.heap.size ≤ k) : DH w0 w' p F g :=
  ⟨h.dag.turns ht hd hG, h.own, h.below.trans (ht.below hE h.below.size)⟩
theorem RH.turned (h : RH w0 w E A n g) (ht : Turns w w' F F') (hFE : ∀ k, F k → E k) (hE : ∀ k, E' k → E k ∨ F' k) (hF : ∀ k, F k → w0.heap.size ≤ k) (hb : w0.heap.size ≤ w.heap.size) : RH w0 w' E' A n g := by
  obtain ⟨r, h1, h2, h3⟩ := h.row
  refine ⟨⟨r, h1, (Reads.turns h2 (Nat.le_refl _) ht fun ad e hf => (h.far ad e).1 (hFE _ hf)).more ht.size, h3.below (ht.below hF hb)⟩, h.len, fun ad e => ⟨fun hf => ?_, Nat.lt_of_lt_of_le (h.far ad e).2 ht.size⟩⟩
  rcases hE _ hf with h4 | h4
  · exact (h.far ad e).1 h4
  · rcases ht.foot _ h4 with h5 | h5
    · exact (h.far ad e).1 (hFE _ h5)
    · have := (h.far ad e).2
      omega
theorem RH.up (h : RH w0 w E A n g) (hw : w0.heap.size ≤ w.heap.size) (hb : Below w.heap.size w w') : RH w0 w' E A n g :=
  h.turned (F := fun _ => False) (F' := fun _ => False) (Turns.of_below hb _) (fun _ h => h.elim) (fun _ h => .inl h) (fun _ h => h.elim) hw
theorem RH.nil (w0 w : World) (E : Nat → Prop) : RH w0 w E none 0 [] := ⟨⟨[], rfl, ⟨rfl, fun h => by omega⟩, fun x hx => by cases hx⟩, rfl, fun ad e => by cases e⟩
theorem RH.nl (h : RH w0 w E A n g) (hb : w0.heap.size ≤ w.heap.size) : NL w w.heap.size A g := by
  obtain ⟨r, h1, h2, h3⟩ := h.row
  have hl : r.length = n := by rw [h.len, ← h1, List.length_map]
  exact ⟨r, h1, by rw [hl]; exact h2, h3.more hb⟩
theorem addG_le (g : Gr) (x : Bs) (l : List Bs) : (addG g x l).1.length ≤ g.length + 1 ∧ g.length ≤ (addG g x l).1.length := by
  unfold addG
  split
  · split
    · exact ⟨Nat.le_succ _, Nat.le_refl _⟩
    · split
      · split
        · exact ⟨Nat.le_succ _, Nat.le_refl _⟩
        · simp
      · exact ⟨Nat.le_succ _, Nat.le_refl _⟩
  · exact ⟨Nat.le_succ _, Nat.le_refl _⟩
theorem addG_no {g : Gr} {x : Bs} {l : List Bs} (h : (addG g x l).2 ≠ 0) : (addG g x l).1 = g := by
  unfold addG at h ⊢
  split
  · split
    · rfl
    · split
      · split
        · rfl
        · rename_i h1 h2 h3 h4
          rw [if_pos h1, if_neg h2, if_pos h3, if_neg h4] at h
          exact absurd rfl h
      · rfl
  · rfl
theorem addG_is {g : Gr} {x : Bs} {l : List Bs} (h : (addG g x l).2 = 0) : (addG g x l).1 = g ++ [⟨x, l⟩] := by
  unfold addG at h ⊢
  split
  · rename_i h1
    rw [if_pos h1] at h
    split
    · rename_i h2
      rw [if_pos h2] at h
      cases h
    · rename_i h2
      rw [if_neg h2] at h
      split
      · rename_i h3
        rw [if_pos h3] at h
        split
        · rename_i h4
          rw [if_pos h4] at h
          cases h
        · rfl
      · rename_i h3
        rw [if_neg h3] at h
        cases h
  · rename_i h1
    rw [if_neg h1] at h
    cases h
def RAdds (w0 w : World) (E : Nat → Prop) (g : Gr) (x : Bs) (l : List Bs) (e : Ending) (w' : World) : Prop :=
  ∃ (A' : Option Addr) (n' c' : Nat), e = .returned (.tuple #[.agg #[.slice A' n' c'], .int .i64 (addG g x l).2]) ∧ Hid (RH w0 w' E A' n' (addG g x l).1) ∧ Hid (Below w.heap.size w w')
theorem radds_any (h : RH w0 w E A n g) (hb : Below w0.heap.size w0 w) (hE : ∀ k, E k → k < w.heap.size) (hg : g.length ≤ 1000) (c : Nat) (x : Bs) (l : List Bs) (pA : Option Addr) (m pc : Nat) (hm : m = l.length) (hP : SS w0 w0.heap.size pA l) (hml : m ≤ 1000) (hpc : m ≤ pc) (hpm : pc ≤ 9223372036854775807) :
    Calls Try.prog 11 #[.agg #[.slice A n c], .string (text x), .slice pA m pc] w (RAdds w0 w E g x l) := by
  obtain ⟨r, h1, h2, h3⟩ := h.row
  have hl : r.length = n := by rw [h.len, ← h1, List.length_map]
  have hnr : NR w w.heap.size A r := ⟨by rw [hl]; exact h2, h3.more hb.size⟩
  refine (radd_any g r x l A pA n c m pc w h1 h.len hm hnr ((hP.below hb).more hb.size) (by have := h.len; omega) (by omega)).mono fun e w' hh => ?_
  rcases hh with ⟨q1, q2, q3⟩ | ⟨q1, A', c', q2, q3, q4, q5⟩
  · refine ⟨A, n, c, q2, ?_, q3⟩
    rw [addG_no q1]
    exact h.up hb.size q3.out
  · refine ⟨A', n + 1, c', by rw [q2, q1], ?_, q5⟩
    rw [addG_is q1]
    refine ⟨⟨_, by rw [List.map_append, h1]; rfl, q3.out, NPreds.snoc (h3.below (q5.out.mono hb.size)) ⟨(hP.below (hb.trans (q5.out.mono hb.size))), by rw [← hm]; exact hpc, hpm⟩⟩, by rw [List.length_append, h.len]; rfl, fun ad e => ⟨fun hf => ?_, (q4.out ad e).2⟩⟩
    have h5 := hE _ hf
    have h6 := (q4.out ad e).1
    omega
end
end Go.Proofs.Ytbeihiokjhfepaa
