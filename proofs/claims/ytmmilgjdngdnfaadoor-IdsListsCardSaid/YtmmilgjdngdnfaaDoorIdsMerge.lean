/- Plain mathematics of two rising lists gone through at once, told what to keep; sorted lists. Nothing of the program. -/
import Derived.Test.YtmmilgjdngdnfaaDoorIdsPlain
set_option linter.unusedVariables false
namespace Go.Proofs.YtmmilgjdngdnfaaDoor
open Go.Op

/-- Two rising lists gone through at once: 'keep inA inB' says what is kept. -/
def mergeF (keep : Bool → Bool → Bool) : List Bs → List Bs → List Bs
  | [], [] => []
  | a :: x, [] => if keep true false then a :: mergeF keep x [] else mergeF keep x []
  | [], b :: y => if keep false true then b :: mergeF keep [] y else mergeF keep [] y
  | a :: x, b :: y =>
    if bytesLess a b then (if keep true false then a :: mergeF keep x (b :: y) else mergeF keep x (b :: y))
    else if bytesLess b a then (if keep false true then b :: mergeF keep (a :: x) y else mergeF keep (a :: x) y)
    else (if keep true true then a :: mergeF keep x y else mergeF keep x y)
termination_by x y => x.length + y.length
/-- What stands in the merged list. -/
theorem mergeF_mem (keep : Bool → Bool → Bool) (z : Bs) : ∀ (k : Nat) (a b : List Bs), a.length + b.length = k → Up a → Up b → (z ∈ mergeF keep a b ↔ (z ∈ a ∨ z ∈ b) ∧ keep (decide (z ∈ a)) (decide (z ∈ b)) = true) := by
  intro k
  induction k using Nat.strongRecOn with
  | _ k ih =>
    intro a b hk ha hb
    match a, b, hk, ha, hb with
    | [], [], _, _, _ => simp [mergeF]
    | a :: x, [], hk, ha, hb =>
      have hx := List.pairwise_cons.1 ha
      have hax : ¬ a ∈ x := fun h => by have := hx.1 a h; rw [less_irrefl] at this; cases this
      have i := ih (x.length + 0) (by simp at hk ⊢; omega) x [] (by simp) hx.2 hb
      rw [mergeF]
      by_cases hz : z = a
      · subst hz
        split <;> simp_all
      · split <;> simp_all
    | [], b :: y, hk, ha, hb =>
      have hy := List.pairwise_cons.1 hb
      have hby : ¬ b ∈ y := fun h => by have := hy.1 b h; rw [less_irrefl] at this; cases this
      have i := ih (0 + y.length) (by simp at hk ⊢; omega) [] y (by simp) ha hy.2
      rw [mergeF]
      by_cases hz : z = b
      · subst hz
        split <;> simp_all
      · split <;> simp_all
    | a :: x, b :: y, hk, ha, hb =>
      have hx := List.pairwise_cons.1 ha
      have hy := List.pairwise_cons.1 hb
      have hax : ¬ a ∈ x := fun h => by have := hx.1 a h; rw [less_irrefl] at this; cases this
      have hby : ¬ b ∈ y := fun h => by have := hy.1 b h; rw [less_irrefl] at this; cases this
      have i1 := ih (x.length + (b :: y).length) (by simp at hk ⊢; omega) x (b :: y) rfl hx.2 hb
      have i2 := ih ((a :: x).length + y.length) (by simp at hk ⊢; omega) (a :: x) y rfl ha hy.2
      have i3 := ih (x.length + y.length) (by simp at hk ⊢; omega) x y rfl hx.2 hy.2
      rw [mergeF]
      cases h1 : bytesLess a b with
      | true =>
        have hab : a ≠ b := less_ne h1
        have hay : ¬ a ∈ y := fun h => by have := less_trans _ _ _ h1 (hy.1 a h); rw [less_irrefl] at this; cases this
        simp only [if_true]
        by_cases hz : z = a
        · subst hz
          split <;> simp_all
        · split <;> simp_all
      | false =>
        simp only [Bool.false_eq_true, if_false]
        cases h2 : bytesLess b a with
        | true =>
          have hab : b ≠ a := less_ne h2
          have hbx : ¬ b ∈ x := fun h => by have := less_trans _ _ _ h2 (hx.1 b h); rw [less_irrefl] at this; cases this
          simp only [if_true]
          by_cases hz : z = b
          · subst hz
            split <;> simp_all
          · split <;> simp_all
        | false =>
          have hab : a = b := by
            rcases Classical.em (a = b) with h | h
            · exact h
            · rcases less_total a b h with h3 | h3
              · rw [h1] at h3; cases h3
              · rw [h2] at h3; cases h3
          subst hab
          simp only [Bool.false_eq_true, if_false]
          by_cases hz : z = a
          · subst hz
            split <;> simp_all
          · split <;> simp_all
theorem mergeF_up (keep : Bool → Bool → Bool) : ∀ (k : Nat) (a b : List Bs), a.length + b.length = k → Up a → Up b → Up (mergeF keep a b) := by
  intro k
  induction k using Nat.strongRecOn with
  | _ k ih =>
    intro a b hk ha hb
    match a, b, hk, ha, hb with
    | [], [], _, _, _ => rw [mergeF]; exact List.Pairwise.nil
    | a :: x, [], hk, ha, hb =>
      have hx := List.pairwise_cons.1 ha
      have i := ih (x.length + 0) (by simp at hk ⊢; omega) x [] (by simp) hx.2 hb
      rw [mergeF]
      split
      · refine List.pairwise_cons.2 ⟨fun z hz => ?_, i⟩
        have := (mergeF_mem keep z _ x [] rfl hx.2 hb).1 hz
        simp at this
        exact hx.1 z this.1
      · exact i
    | [], b :: y, hk, ha, hb =>
      have hy := List.pairwise_cons.1 hb
      have i := ih (0 + y.length) (by simp at hk ⊢; omega) [] y (by simp) ha hy.2
      rw [mergeF]
      split
      · refine List.pairwise_cons.2 ⟨fun z hz => ?_, i⟩
        have := (mergeF_mem keep z _ [] y rfl ha hy.2).1 hz
        simp at this
        exact hy.1 z this.1
      · exact i
    | a :: x, b :: y, hk, ha, hb =>
      have hx := List.pairwise_cons.1 ha
      have hy := List.pairwise_cons.1 hb
      have i1 := ih (x.length + (b :: y).length) (by simp at hk ⊢; omega) x (b :: y) rfl hx.2 hb
      have i2 := ih ((a :: x).length + y.length) (by simp at hk ⊢; omega) (a :: x) y rfl ha hy.2
      have i3 := ih (x.length + y.length) (by simp at hk ⊢; omega) x y rfl hx.2 hy.2
      rw [mergeF]
      split
      · rename_i h1
        split
        · refine List.pairwise_cons.2 ⟨fun z hz => ?_, i1⟩
          have := ((mergeF_mem keep z _ x (b :: y) rfl hx.2 hb).1 hz).1
          rcases this with h | h
          · exact hx.1 z h
          · rcases List.mem_cons.1 h with h | h
            · rw [h]; exact h1
            · exact less_trans _ _ _ h1 (hy.1 z h)
        · exact i1
      · split
        · rename_i h2
          split
          · refine List.pairwise_cons.2 ⟨fun z hz => ?_, i2⟩
            have := ((mergeF_mem keep z _ (a :: x) y rfl ha hy.2).1 hz).1
            rcases this with h | h
            · rcases List.mem_cons.1 h with h | h
              · rw [h]; exact h2
              · exact less_trans _ _ _ h2 (hx.1 z h)
            · exact hy.1 z h
          · exact i2
        · rename_i h1 h2
          have hab : a = b := by
            rcases Classical.em (a = b) with h | h
            · exact h
            · rcases less_total a b h with h3 | h3
              · exact absurd h3 h1
              · exact absurd h3 h2
          split
          · refine List.pairwise_cons.2 ⟨fun z hz => ?_, i3⟩
            have := ((mergeF_mem keep z _ x y rfl hx.2 hy.2).1 hz).1
            rcases this with h | h
            · exact hx.1 z h
            · rw [hab]; exact hy.1 z h
          · exact i3
/-- Through two rising lists of right ones: either, both, the first one alone. -/
theorem merge_union {a b : List Bs} : mergeF (fun _ _ => true) (ofL a) (ofL b) = unionL a b := by
  refine up_ext (mergeF_up _ _ _ _ rfl (ofL_up a) (ofL_up b)) (ofL_up _) fun z => ?_
  rw [mergeF_mem _ z _ _ _ rfl (ofL_up a) (ofL_up b), unionL_mem, ofL_mem, ofL_mem]
  by_cases h : rightB z = true <;> simp [h]
theorem merge_meet {a b : List Bs} : mergeF (fun p q => p && q) (ofL a) (ofL b) = meetL a b := by
  refine up_ext (mergeF_up _ _ _ _ rfl (ofL_up a) (ofL_up b)) (ofL_up _) fun z => ?_
  rw [mergeF_mem _ z _ _ _ rfl (ofL_up a) (ofL_up b), meetL_mem]
  simp only [ofL_mem]
  by_cases h : rightB z = true <;> by_cases h2 : z ∈ a <;> by_cases h3 : z ∈ b <;> simp [h, h2, h3]
theorem merge_less {a b : List Bs} : mergeF (fun p q => p && !q) (ofL a) (ofL b) = lessL a b := by
  refine up_ext (mergeF_up _ _ _ _ rfl (ofL_up a) (ofL_up b)) (ofL_up _) fun z => ?_
  rw [mergeF_mem _ z _ _ _ rfl (ofL_up a) (ofL_up b), lessL_mem]
  simp only [ofL_mem]
  by_cases h : rightB z = true <;> by_cases h2 : z ∈ a <;> by_cases h3 : z ∈ b <;> simp [h, h2, h3]

end Go.Proofs.YtmmilgjdngdnfaaDoor
