/- Plain mathematics: the right ones of a list, sorted and each kept once, are what 'ofL' tells. Nothing of the program. -/
import Derived.Test.YtmmilgjdngdnfaaDoorIdsMerge
import Derived.Lib.SlicesCompact
import Derived.Sort.Walk0
set_option linter.unusedVariables false
namespace Go.Proofs.YtmmilgjdngdnfaaDoor
open Go.Op

/-- The order in which texts are sorted. -/
def leB (x y : Bs) : Bool := decide (x ≤ y)
theorem leB_eq (x y : Bs) : leB x y = !bytesLess y x := by
  unfold leB
  rw [Proofs.bytesLess_eq, Bool.eq_iff_iff, decide_eq_true_eq]
  simp only [Bool.not_eq_true', decide_eq_false_iff_not]
  exact Iff.rfl
theorem leB_trans (a b c : Bs) (h1 : leB a b = true) (h2 : leB b c = true) : leB a c = true := by
  rw [leB_eq] at h1 h2 ⊢
  simp only [Bool.not_eq_true'] at h1 h2 ⊢
  cases h : bytesLess c a with
  | false => rfl
  | true =>
    by_cases e : b = a
    · rw [e, h] at h2; cases h2
    · rcases less_total b a e with h3 | h3
      · rw [h3] at h1; cases h1
      · have := less_trans _ _ _ h h3; rw [this] at h2; cases h2
theorem leB_total (a b : Bs) : (leB a b || leB b a) = true := by
  rw [leB_eq, leB_eq]
  cases h : bytesLess a b with
  | false => simp
  | true => rw [less_asymm h]; rfl
theorem leB_lt {a b : Bs} (h : leB a b = true) (hne : b ≠ a) : bytesLess a b = true := by
  rw [leB_eq, Bool.not_eq_true'] at h
  rcases less_total b a hne with h3 | h3
  · rw [h] at h3; cases h3
  · exact h3
theorem le_lt_trans {a b c : Bs} (h : leB a b = true) (h2 : bytesLess b c = true) : bytesLess a c = true := by
  by_cases e : b = a
  · rw [← e]; exact h2
  · exact less_trans _ _ _ (leB_lt h e) h2
/-- Of a list that does not fall, what is kept rises, and holds all of it. -/
theorem compactUpTo_up (d : Array Bs) (hd : ∀ i j, i < j → j < d.size → leB d[i]! d[j]! = true) : ∀ m, m ≤ d.size →
    Up (Lib.compactUpTo d m) ∧ (∀ x, x ∈ Lib.compactUpTo d m ↔ ∃ j, j < m ∧ d[j]! = x) := by
  intro m
  induction m with
  | zero => intro _; exact ⟨by simp [Lib.compactUpTo, Up], by simp [Lib.compactUpTo]⟩
  | succ m ih =>
    intro hm
    obtain ⟨hu, hmem⟩ := ih (by omega)
    rw [Lib.compactUpTo_succ]
    by_cases hk : Lib.keeps d m = true
    · rw [if_pos hk]
      refine ⟨?_, fun x => ?_⟩
      · refine List.pairwise_append.2 ⟨hu, List.pairwise_singleton _ _, fun x hx y hy => ?_⟩
        rw [List.mem_singleton] at hy
        subst hy
        obtain ⟨j, hj, rfl⟩ := (hmem x).1 hx
        have h0 : m ≠ 0 := by omega
        have hne : d[m]! ≠ d[m - 1]! := by
          have := hk; simp only [Lib.keeps, decide_eq_true_eq] at this
          exact this.resolve_left h0
        have h1 : bytesLess d[m - 1]! d[m]! = true := leB_lt (hd (m - 1) m (by omega) (by omega)) hne
        rcases Nat.lt_or_ge j (m - 1) with h2 | h2
        · exact le_lt_trans (hd j (m - 1) h2 (by omega)) h1
        · rw [show j = m - 1 by omega]; exact h1
      · rw [List.mem_append, hmem, List.mem_singleton]
        constructor
        · rintro (⟨j, hj, rfl⟩ | rfl)
          · exact ⟨j, by omega, rfl⟩
          · exact ⟨m, by omega, rfl⟩
        · rintro ⟨j, hj, rfl⟩
          rcases Nat.lt_or_ge j m with h | h
          · exact .inl ⟨j, h, rfl⟩
          · right; rw [show j = m by omega]
    · rw [if_neg hk, List.append_nil]
      refine ⟨hu, fun x => ?_⟩
      rw [hmem]
      have hk' : ¬ (m = 0 ∨ d[m]! ≠ d[m - 1]!) := by
        intro h; exact hk (by simp only [Lib.keeps, decide_eq_true_eq]; exact h)
      have h0 : m ≠ 0 := fun h => hk' (.inl h)
      have he : d[m]! = d[m - 1]! := Classical.byContradiction fun h => hk' (.inr h)
      constructor
      · rintro ⟨j, hj, rfl⟩; exact ⟨j, by omega, rfl⟩
      · rintro ⟨j, hj, rfl⟩
        rcases Nat.lt_or_ge j m with h | h
        · exact ⟨j, h, rfl⟩
        · rw [show j = m by omega]; exact ⟨m - 1, by omega, he.symm⟩
theorem compact_up (l : List Bs) (h : l.Pairwise fun a b => leB a b = true) : Up (Lib.compact l) ∧ ∀ x, x ∈ Lib.compact l ↔ x ∈ l := by
  have hg : ∀ i, (hi : i < l.length) → l.toArray[i]! = l[i] := fun i hi => by simp [getElem!_pos, hi]
  have := compactUpTo_up l.toArray (fun i j hij hj => by
    have hj' : j < l.length := by simpa using hj
    rw [hg i (by omega), hg j hj']
    exact List.pairwise_iff_getElem.1 h i j (by omega) hj' hij) l.length (by simp)
  refine ⟨this.1, fun x => ?_⟩
  show x ∈ Lib.compactUpTo l.toArray l.length ↔ _
  rw [this.2]
  constructor
  · rintro ⟨j, hj, rfl⟩; rw [hg j hj]; exact List.getElem_mem _
  · intro hx
    obtain ⟨j, hj, rfl⟩ := List.mem_iff_getElem.1 hx
    exact ⟨j, hj, hg j hj⟩
/-- The right ones of a list, sorted, each once. -/
theorem sort_ofL (l : List Bs) : Lib.compact ((l.filter rightB).mergeSort fun x y => decide (x ≤ y)) = ofL l := by
  have hs : ((l.filter rightB).mergeSort fun x y => decide (x ≤ y)).Pairwise fun a b => leB a b = true := List.pairwise_mergeSort (le := fun x y => decide (x ≤ y)) (fun a b c h1 h2 => leB_trans a b c h1 h2) (fun a b => leB_total a b) _
  obtain ⟨hu, hm⟩ := compact_up _ hs
  refine ofL_unique hu fun x => ?_
  rw [hm, List.mem_mergeSort, List.mem_filter]
theorem compact_sort_length (l : List Bs) : (l.mergeSort fun x y => decide (x ≤ y)).length = l.length := List.length_mergeSort l

end Go.Proofs.YtmmilgjdngdnfaaDoor
