/- Plain mathematics of layer 5's laws: one behind the other, what is there and what is not. Nothing of the program. -/
import Derived.Test.YtibaaideleinhaaDoorBitsPlain
set_option linter.unusedVariables false
namespace Go.Proofs.YtibaaideleinhaaDoor

theorem firstB_cases (l : List Bool) (a : Int) (q : Bool) :
    (firstB l a q = -1 ∧ ∀ i, i < l.length → ¬ (a ≤ (i : Int) ∧ l.getD i false = q)) ∨
    ∃ j : Nat, firstB l a q = (j : Int) ∧ j < l.length ∧ a ≤ (j : Int) ∧ l.getD j false = q ∧ ∀ i, i < j → ¬ (a ≤ (i : Int) ∧ l.getD i false = q) := by
  unfold firstB
  cases h : firstK l a q l.length with
  | none => exact .inl ⟨rfl, (firstK_none l a q _).1 h⟩
  | some j => exact .inr ⟨j, rfl, (firstK_some l a q j _).1 h⟩
/-- Nothing is there from k up to m: the list does not grow. -/
theorem listK_skip (l : List Bool) (k : Nat) : ∀ m, k ≤ m → (∀ i, k ≤ i → i < m → l.getD i false = false) → listK l m = listK l k := by
  intro m
  induction m with
  | zero => intro h _; rw [show k = 0 by omega]
  | succ m ih =>
    intro h hf
    rcases Nat.lt_or_ge k (m + 1) with h1 | h1
    · rw [listK, hf m (by omega) (by omega), if_neg (by simp)]
      exact ih (by omega) fun i h2 h3 => hf i h2 (by omega)
    · rw [show k = m + 1 by omega]
/-- The next one is the list's next. -/
theorem listK_next (l : List Bool) (k j : Nat) (h : firstB l (k : Int) true = (j : Int)) : j < l.length ∧ k ≤ j ∧ listK l (j + 1) = listK l k ++ [j] := by
  rcases firstB_cases l (k : Int) true with ⟨h1, _⟩ | ⟨j', h1, h2, h3, h4, h5⟩
  · rw [h1] at h; omega
  · have : j' = j := by rw [h1] at h; omega
    subst this
    refine ⟨h2, by omega, ?_⟩
    rw [listK, h4, if_pos rfl, listK_skip l k j' (by omega) fun i hi1 hi2 => ?_]
    cases hb : l.getD i false with
    | false => rfl
    | true => exact absurd ⟨by omega, hb⟩ (h5 i hi2)
theorem listK_end (l : List Bool) (k : Nat) (hk : k ≤ l.length) (h : firstB l (k : Int) true = -1) : listB l = listK l k := by
  rcases firstB_cases l (k : Int) true with ⟨_, h1⟩ | ⟨j', h1, _⟩
  · refine listK_skip l k l.length hk fun i hi1 hi2 => ?_
    cases hb : l.getD i false with
    | false => rfl
    | true => exact absurd ⟨by omega, hb⟩ (h1 i hi2)
  · rw [h1] at h; omega
/-- Where what is there and what is not change places. -/
def notL (l : List Bool) : List Bool := l.map fun b => !b
theorem notL_length (l : List Bool) : (notL l).length = l.length := by simp [notL]
theorem notL_get (l : List Bool) (i : Nat) (h : i < l.length) : (notL l).getD i false = !l.getD i false := by
  simp [notL, List.getD, List.getElem?_eq_getElem h]
theorem firstB_not (l : List Bool) (a : Int) : firstB l a false = firstB (notL l) a true := by
  rcases firstB_cases l a false with ⟨h1, h2⟩ | ⟨j, h1, h2, h3, h4, h5⟩ <;> rcases firstB_cases (notL l) a true with ⟨g1, g2⟩ | ⟨m, g1, g2, g3, g4, g5⟩
  · rw [h1, g1]
  · rw [notL_length] at g2
    rw [notL_get l m g2] at g4
    exact absurd ⟨g3, by simpa using g4⟩ (h2 m g2)
  · exact absurd ⟨h3, by rw [notL_get l j h2, h4]; rfl⟩ (g2 j (by rw [notL_length]; exact h2))
  · rw [notL_length] at g2
    rw [notL_get l m g2] at g4
    rw [h1, g1]
    rcases Nat.lt_trichotomy j m with h | h | h
    · exact absurd ⟨h3, by rw [notL_get l j h2, h4]; rfl⟩ (g5 j h)
    · rw [h]
    · exact absurd ⟨g3, by simpa using g4⟩ (h5 m h)
theorem listK_not (l : List Bool) : ∀ k, k ≤ l.length → (listK l k).length + (listK (notL l) k).length = k := by
  intro k
  induction k with
  | zero => intro _; rfl
  | succ k ih =>
    intro hk
    have := ih (by omega)
    rw [listK, listK, notL_get l k (by omega)]
    cases l.getD k false <;> simp <;> omega
theorem listB_not (l : List Bool) : (listB l).length + (listB (notL l)).length = l.length := by
  have := listK_not l l.length (Nat.le_refl _)
  unfold listB
  rw [notL_length]; exact this

end Go.Proofs.YtibaaideleinhaaDoor
