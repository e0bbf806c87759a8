/- Plain mathematics of sets of numbers (layer 5): what is there, the next one, the next gap. Nothing of the program. -/
import Init.Data.List.Lemmas
set_option linter.unusedVariables false
namespace Go.Proofs.YtibaaideleinhaaDoor

/-- Is a number there? -/
def inB (l : List Bool) (i : Int) : Bool := decide (0 ≤ i ∧ i < l.length) && l.getD i.toNat false
def addB (l : List Bool) (i : Int) : List Bool × Int := if 0 ≤ i ∧ i < l.length then (if l.getD i.toNat false then (l, 7) else (l.set i.toNat true, 0)) else (l, 10)
def dropB (l : List Bool) (i : Int) : List Bool × Int := if 0 ≤ i ∧ i < l.length then (if l.getD i.toNat false then (l.set i.toNat false, 0) else (l, 6)) else (l, 10)
/-- The numbers below k that are there. -/
def listK (l : List Bool) : Nat → List Nat
  | 0 => []
  | k + 1 => if l.getD k false then listK l k ++ [k] else listK l k
def listB (l : List Bool) : List Nat := listK l l.length
/-- The least number below k, from 'a' on, that is there (or is not). -/
def firstK (l : List Bool) (a : Int) (b : Bool) : Nat → Option Nat
  | 0 => none
  | k + 1 => match firstK l a b k with
    | some j => some j
    | none => if a ≤ (k : Int) ∧ l.getD k false = b then some k else none
def firstB (l : List Bool) (a : Int) (b : Bool) : Int := match firstK l a b l.length with | some j => (j : Int) | none => -1
theorem listK_mem (l : List Bool) (x : Nat) : ∀ k, x ∈ listK l k ↔ x < k ∧ l.getD x false = true
  | 0 => by simp [listK]
  | k + 1 => by
    have ih := listK_mem l x k
    rw [listK]
    split
    · rename_i h
      rw [List.mem_append, List.mem_singleton, ih]
      constructor
      · rintro (⟨h1, h2⟩ | h1)
        · exact ⟨by omega, h2⟩
        · subst h1; exact ⟨by omega, h⟩
      · rintro ⟨h1, h2⟩
        rcases Nat.lt_or_ge x k with h3 | h3
        · exact .inl ⟨h3, h2⟩
        · exact .inr (by omega)
    · rename_i h
      rw [ih]
      constructor
      · rintro ⟨h1, h2⟩; exact ⟨by omega, h2⟩
      · rintro ⟨h1, h2⟩
        rcases Nat.lt_or_ge x k with h3 | h3
        · exact ⟨h3, h2⟩
        · rw [show x = k by omega] at h2; exact absurd h2 h
theorem listK_length (l : List Bool) : ∀ k, (listK l k).length ≤ k
  | 0 => by simp [listK]
  | k + 1 => by
    have ih := listK_length l k
    rw [listK]
    split
    · simp; omega
    · omega
theorem firstK_some (l : List Bool) (a : Int) (b : Bool) (j : Nat) : ∀ k, firstK l a b k = some j ↔ j < k ∧ a ≤ (j : Int) ∧ l.getD j false = b ∧ ∀ i, i < j → ¬ (a ≤ (i : Int) ∧ l.getD i false = b)
  | 0 => by simp [firstK]
  | k + 1 => by
    have ih := fun j => firstK_some l a b j k
    rw [firstK]
    cases h : firstK l a b k with
    | some j' =>
      simp only [Option.some.injEq]
      have h1 := (ih j').1 h
      constructor
      · rintro rfl; exact ⟨by omega, h1.2⟩
      · rintro ⟨h2, h3, h4, h5⟩
        rcases Nat.lt_trichotomy j j' with hlt | he | hgt
        · exact absurd ⟨h3, h4⟩ (h1.2.2.2 j hlt)
        · exact he.symm
        · exact absurd ⟨h1.2.1, h1.2.2.1⟩ (h5 j' hgt)
    | none =>
      have hn : ∀ j, ¬ (j < k ∧ a ≤ (j : Int) ∧ l.getD j false = b ∧ ∀ i, i < j → ¬ (a ≤ (i : Int) ∧ l.getD i false = b)) := fun j hj => by
        have := (ih j).2 hj
        rw [h] at this; cases this
      have hall : ∀ i, i < k → ¬ (a ≤ (i : Int) ∧ l.getD i false = b) := by
        intro i
        induction i using Nat.strongRecOn with
        | _ i ihh =>
          intro hi hb
          exact hn i ⟨hi, hb.1, hb.2, fun i' hi' => ihh i' hi' (by omega)⟩
      simp only
      split
      · rename_i hk
        simp only [Option.some.injEq]
        constructor
        · rintro rfl; exact ⟨by omega, hk.1, hk.2, hall⟩
        · rintro ⟨h2, h3, h4, h5⟩
          rcases Nat.lt_or_ge j k with h6 | h6
          · exact absurd ⟨h3, h4⟩ (hall j h6)
          · omega
      · rename_i hk
        constructor
        · intro h; cases h
        · rintro ⟨h2, h3, h4, h5⟩
          rcases Nat.lt_or_ge j k with h6 | h6
          · exact absurd ⟨h3, h4⟩ (hall j h6)
          · rw [show j = k by omega] at h3 h4; exact absurd ⟨h3, h4⟩ hk
theorem firstK_none (l : List Bool) (a : Int) (b : Bool) (k : Nat) : firstK l a b k = none ↔ ∀ i, i < k → ¬ (a ≤ (i : Int) ∧ l.getD i false = b) := by
  constructor
  · intro h i hi hb
    induction i using Nat.strongRecOn with
    | _ i ih =>
      by_cases hex : ∃ i', i' < i ∧ a ≤ (i' : Int) ∧ l.getD i' false = b
      · obtain ⟨i', h1, h2⟩ := hex
        exact ih i' h1 (by omega) h2
      · have := (firstK_some l a b i k).2 ⟨hi, hb.1, hb.2, fun i' hi' hb' => hex ⟨i', hi', hb'⟩⟩
        rw [h] at this; cases this
  · intro h
    cases hf : firstK l a b k with
    | none => rfl
    | some j =>
      have := (firstK_some l a b j k).1 hf
      exact absurd ⟨this.2.1, this.2.2.1⟩ (h j this.1)

theorem listK_sorted (l : List Bool) : ∀ k, (listK l k).Pairwise (· < ·)
  | 0 => List.Pairwise.nil
  | k + 1 => by
    rw [listK]
    split
    · refine List.pairwise_append.2 ⟨listK_sorted l k, List.pairwise_singleton _ _, fun a ha b hb => ?_⟩
      rw [List.mem_singleton] at hb
      have := (listK_mem l a k).1 ha
      omega
    · exact listK_sorted l k
theorem listB_mem (l : List Bool) (x : Nat) : x ∈ listB l ↔ x < l.length ∧ l.getD x false = true := listK_mem l x _
/-- Those that are there come one behind the other. -/
theorem list_next (l : List Bool) (m : Nat) (a : Int) (hm : m ≤ (listB l).length) (ha : a = if m = 0 then 0 else ((listB l).getD (m - 1) 0 : Int) + 1) :
    firstB l a true = if m < (listB l).length then ((listB l).getD m 0 : Int) else -1 := by
  have hs := List.pairwise_iff_getElem.1 (listK_sorted l l.length)
  have hget : ∀ i (h : i < (listB l).length), (listB l).getD i 0 = (listB l)[i] := fun i h => by simp [List.getD, List.getElem?_eq_getElem h]
  unfold firstB
  split <;> rename_i hlt
  · rename_i j
    have h1 := (firstK_some l a true _ l.length).1 hlt
    -- the one found stands in the list
    obtain ⟨q, hq, hqe⟩ := List.getElem_of_mem ((listB_mem l _).2 ⟨h1.1, h1.2.2.1⟩)
    have hqm : q = m := by
      rcases Nat.lt_trichotomy q m with h | h | h
      · exfalso
        have hm0 : m ≠ 0 := by omega
        rw [if_neg hm0, hget (m - 1) (by omega)] at ha
        have : (listB l)[q] ≤ (listB l)[m - 1]'(by omega) := by
          rcases Nat.lt_or_ge q (m - 1) with h2 | h2
          · exact Nat.le_of_lt (hs q (m - 1) hq (by show m - 1 < (listB l).length; omega) h2)
          · have : q = m - 1 := by omega
            subst this; exact Nat.le_refl _
        have := h1.2.1
        omega
      · exact h
      · exfalso
        have hml : m < (listB l).length := by omega
        have hmem := (listB_mem l _).1 (List.getElem_mem hml)
        have hlt2 : (listB l)[m] < (listB l)[q] := hs m q hml hq h
        refine h1.2.2.2 (listB l)[m] (by omega) ⟨?_, hmem.2⟩
        rw [ha]
        split
        · omega
        · rename_i hm0
          rw [hget (m - 1) (by omega)]
          have := hs (m - 1) m (by show m - 1 < (listB l).length; omega) hml (by omega)
          have : (listB l)[m - 1]'(by omega) < (listB l)[m] := this
          omega
    subst hqm
    rw [if_pos hq, hget q hq, hqe]
  · have h1 := (firstK_none l a true l.length).1 hlt
    rw [if_neg]
    intro hml
    have hmem := (listB_mem l _).1 (List.getElem_mem hml)
    refine h1 (listB l)[m] hmem.1 ⟨?_, hmem.2⟩
    rw [ha]
    split
    · omega
    · rename_i hm0
      rw [hget (m - 1) (by omega)]
      have : (listB l)[m - 1]'(by omega) < (listB l)[m] := hs (m - 1) m (by show m - 1 < (listB l).length; omega) hml (by omega)
      omega
theorem not_get (l : List Bool) (i : Nat) (h : i < l.length) : (l.map (!·)).getD i false = !l.getD i false := by
  simp [List.getD, List.getElem?_eq_getElem h]
theorem first_not (l : List Bool) (a : Int) : firstB l a false = firstB (l.map (!·)) a true := by
  have h : ∀ k, k ≤ l.length → firstK l a false k = firstK (l.map (!·)) a true k := by
    intro k
    induction k with
    | zero => intro _; rfl
    | succ k ih =>
      intro hk
      rw [firstK, firstK, ih (by omega), not_get l k (by omega)]
      cases l.getD k false <;> simp
  unfold firstB
  rw [h _ (Nat.le_refl _), List.length_map]
theorem list_both (l : List Bool) : (listB l).length + (listB (l.map (!·))).length = l.length := by
  have h : ∀ k, k ≤ l.length → (listK l k).length + (listK (l.map (!·)) k).length = k := by
    intro k
    induction k with
    | zero => intro _; rfl
    | succ k ih =>
      intro hk
      have := ih (by omega)
      rw [listK, listK, not_get l k (by omega)]
      cases l.getD k false <;> simp <;> omega
  unfold listB
  rw [List.length_map]
  exact h _ (Nat.le_refl _)

end Go.Proofs.YtibaaideleinhaaDoor
