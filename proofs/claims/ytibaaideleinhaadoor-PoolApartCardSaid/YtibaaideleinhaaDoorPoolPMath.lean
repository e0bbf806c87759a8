/- A pool as a set whose first numbers are none of the pool's (layer 11). Plain mathematics; nothing of the program. -/
import Derived.Test.YtibaaideleinhaaDoorPoolPlain
import Derived.Test.YtibaaideleinhaaDoorBitsMath
set_option linter.unusedVariables false
namespace Go.Proofs.YtibaaideleinhaaDoor

namespace Pl
/-- All numbers from 0 on: those ahead of the pool's are not there. -/
def pad (p : Pl) : List Bool := List.replicate p.lo.toNat false ++ p.tk
section
variable {p : Pl}
theorem pad_length (h : 0 ≤ p.lo) : ((p.pad.length : Nat) : Int) = p.lo + (p.tk.length : Int) := by
  unfold pad
  rw [List.length_append, List.length_replicate]
  omega
theorem pad_len : p.pad.length = p.lo.toNat + p.tk.length := by
  unfold pad
  rw [List.length_append, List.length_replicate]
theorem pad_low {k : Nat} (h : k < p.lo.toNat) : p.pad.getD k false = false := by
  unfold pad
  rw [List.getD_eq_getElem?_getD, List.getElem?_append_left (by simpa using h)]
  simp [h]
theorem pad_get (j : Nat) : p.pad.getD (p.lo.toNat + j) false = p.tk.getD j false := by
  unfold pad
  rw [List.getD_eq_getElem?_getD, List.getElem?_append_right (by simp)]
  simp [List.getD_eq_getElem?_getD]
theorem pad_set (j : Nat) (v : Bool) : p.pad.set (p.lo.toNat + j) v = pad ⟨p.lo, p.tk.set j v⟩ := by
  unfold pad
  rw [List.set_append_right _ _ (by simp)]
  simp
theorem pad_has (h : 0 ≤ p.lo) (b : Int) : inB p.pad b = p.has b := by
  unfold inB has th
  have hl := pad_length h
  by_cases h1 : p.lo ≤ b ∧ b - p.lo < (p.tk.length : Int)
  · obtain ⟨j, rfl⟩ : ∃ j : Nat, b = p.lo + (j : Int) := ⟨(b - p.lo).toNat, by omega⟩
    rw [decide_eq_true (by omega), decide_eq_true h1.1, decide_eq_true h1.2, show (p.lo + (j : Int)).toNat = p.lo.toNat + j by omega, pad_get, show (p.lo + (j : Int) - p.lo).toNat = j by omega]
    rfl
  · by_cases h2 : 0 ≤ b ∧ b < ((p.pad.length : Nat) : Int)
    · have h3 : b < p.lo := by omega
      rw [decide_eq_true h2, pad_low (show b.toNat < p.lo.toNat by omega), decide_eq_false (show ¬ p.lo ≤ b by omega)]
      rfl
    · rw [decide_eq_false h2]
      by_cases h3 : p.lo ≤ b
      · rw [decide_eq_false (show ¬ b - p.lo < (p.tk.length : Int) by omega)]; simp
      · rw [decide_eq_false h3]; rfl
theorem pad_listK : ∀ k, (Go.Proofs.YtibaaideleinhaaDoor.listK p.pad (p.lo.toNat + k)).map (fun n : Nat => (n : Int)) = (p.listK true k).map fun z => if 0 ≤ p.lo then z else z - p.lo
  | 0 => by
    have h := listK_skip p.pad 0 p.lo.toNat (Nat.zero_le _) fun i _ hi => pad_low hi
    rw [Nat.add_zero, h]
    rfl
  | k + 1 => by
    have ih := pad_listK k
    rw [← Nat.add_assoc, Go.Proofs.YtibaaideleinhaaDoor.listK, listK, pad_get]
    cases hg : p.tk.getD k false with
    | false => simpa using ih
    | true =>
      rw [if_pos rfl, if_pos rfl, List.map_append, List.map_append, ih]
      congr 1
      simp only [List.map_cons, List.map_nil, List.cons.injEq, and_true]
      split <;> omega
theorem pad_list (h : 0 ≤ p.lo) : (listB p.pad).map (fun n : Nat => (n : Int)) = p.list true := by
  have := p.pad_listK p.tk.length
  rw [← pad_len] at this
  unfold listB list
  rw [this]
  simp [h]
theorem pad_count (h : 0 ≤ p.lo) : (listB p.pad).length = (p.list true).length := by
  rw [← pad_list h, List.length_map]
theorem pad_made {a b : Int} (h0 : 0 ≤ a) (h1 : a ≤ b) : (made a b).pad = List.replicate b.toNat false := by
  unfold pad made
  rw [List.replicate_append_replicate]
  congr 1
  show a.toNat + (b - a).toNat = b.toNat
  omega
theorem pad_add (h : 0 ≤ p.lo) {b : Int} (ht : p.th b = true) : addB p.pad b = if p.has b then (p.pad, 7) else (pad ⟨p.lo, p.tk.set (b - p.lo).toNat true⟩, 0) := by
  have hl := pad_length h
  have h1 := th_iff.1 ht
  obtain ⟨j, rfl⟩ : ∃ j : Nat, b = p.lo + (j : Int) := ⟨(b - p.lo).toNat, by omega⟩
  unfold addB has
  rw [if_pos (by omega), show (p.lo + (j : Int)).toNat = p.lo.toNat + j by omega, pad_get, show (p.lo + (j : Int) - p.lo).toNat = j by omega, ht, pad_set, Bool.true_and]
theorem pad_drop (h : 0 ≤ p.lo) {b : Int} (ht : p.th b = true) : dropB p.pad b = if p.has b then (pad ⟨p.lo, p.tk.set (b - p.lo).toNat false⟩, 0) else (p.pad, 6) := by
  have hl := pad_length h
  have h1 := th_iff.1 ht
  obtain ⟨j, rfl⟩ : ∃ j : Nat, b = p.lo + (j : Int) := ⟨(b - p.lo).toNat, by omega⟩
  unfold dropB has
  rw [if_pos (by omega), show (p.lo + (j : Int)).toNat = p.lo.toNat + j by omega, pad_get, show (p.lo + (j : Int) - p.lo).toNat = j by omega, ht, pad_set, Bool.true_and]
/-- What the first k of l make of one. -/
theorem turn_at {l : List Int} {v : Bool} {j : Nat} (hj : j < p.tk.length) : ∀ k, (∀ i, i < k → p.th (l.getD i 0) = true) → ((p.turnK l v k).getD j false = v ↔ p.tk.getD j false = v ∨ ∃ i, i < k ∧ l.getD i 0 = p.lo + (j : Int))
  | 0, _ => by
    rw [turnK]
    exact ⟨.inl, fun h => h.elim id fun ⟨i, hi, _⟩ => by omega⟩
  | k + 1, ht => by
    have ih := turn_at (l := l) (v := v) hj k fun i hi => ht i (by omega)
    have hk := th_iff.1 (ht k (by omega))
    rw [turnK]
    by_cases he : l.getD k 0 = p.lo + (j : Int)
    · rw [show (l.getD k 0 - p.lo).toNat = j by omega]
      have hs : j < (p.turnK l v k).length := by rw [turnK_length]; exact hj
      refine ⟨fun _ => .inr ⟨k, by omega, he⟩, fun _ => ?_⟩
      rw [List.getD_eq_getElem?_getD, List.getElem?_set_self hs]
      rfl
    · have hne : (l.getD k 0 - p.lo).toNat ≠ j := by omega
      rw [List.getD_eq_getElem?_getD, List.getElem?_set_ne hne, ← List.getD_eq_getElem?_getD, ih]
      constructor
      · rintro (h | ⟨i, hi, e⟩)
        · exact .inl h
        · exact .inr ⟨i, by omega, e⟩
      · rintro (h | ⟨i, hi, e⟩)
        · exact .inl h
        · rcases Nat.lt_or_ge i k with h1 | h1
          · exact .inr ⟨i, h1, e⟩
          · rw [show i = k by omega] at e; exact absurd e he
/-- Whether what is turned at k was odd. -/
theorem turn_odd {l : List Int} {v : Bool} {k : Nat} (hk : k < l.length) (ht : ∀ i, i < l.length → p.th (l.getD i 0) = true) : (Pl.has ⟨p.lo, p.turnK l v k⟩ (l.getD k 0) = !v) ↔ p.oddAt l (!v) k = true := by
  have h1 := th_iff.1 (ht k hk)
  obtain ⟨j, hj⟩ : ∃ j : Nat, l.getD k 0 = p.lo + (j : Int) := ⟨(l.getD k 0 - p.lo).toNat, by omega⟩
  have h2 := turn_at (p := p) (l := l) (v := v) (j := j) (by omega) k fun i hi => ht i (by omega)
  have e1 : Pl.has ⟨p.lo, p.turnK l v k⟩ (l.getD k 0) = (p.turnK l v k).getD j false := by
    unfold has
    rw [show Pl.th ⟨p.lo, p.turnK l v k⟩ (l.getD k 0) = true from th_iff.2 ⟨h1.1, by show _ < ((p.turnK l v k).length : Int); rw [turnK_length]; exact h1.2⟩, Bool.true_and]
    show (p.turnK l v k).getD (l.getD k 0 - p.lo).toNat false = _
    rw [show (l.getD k 0 - p.lo).toNat = j by omega]
  have e2 : p.has (l.getD k 0) = p.tk.getD j false := by
    unfold has
    rw [ht k hk, Bool.true_and, show (l.getD k 0 - p.lo).toNat = j by omega]
  have e3 : p.oddAt l (!v) k = true ↔ p.tk.getD j false = (!v) ∧ ∀ i, i < k → l.getD i 0 ≠ l.getD k 0 := by
    unfold oddAt
    rw [Bool.and_eq_true, beq_iff_eq, List.all_eq_true, e2]
    refine and_congr_right fun _ => ⟨fun h i hi => ?_, fun h i hi => ?_⟩
    · have := h i (List.mem_range.2 hi)
      simpa using this
    · have := h i (List.mem_range.1 hi)
      simpa using this
  have e4 : ∀ x : Bool, (x = !v) ↔ ¬ x = v := fun x => by cases x <;> cases v <;> decide
  rw [e1, e3, e4, h2, e4]
  constructor
  · intro h
    exact ⟨fun h3 => h (.inl h3), fun i hi e => h (.inr ⟨i, hi, by rw [e, hj]⟩)⟩
  · rintro ⟨h3, h4⟩ (h5 | ⟨i, hi, e⟩)
    · exact h3 h5
    · exact h4 i hi (by rw [e, hj])
/-- The next free one. -/
theorem free_next (h0 : 0 ≤ p.lo) {n k : Nat} (hn : n ≤ (p.list false).length) (hk : k < n) {at_ : Int} (ha : at_ = if k = 0 then p.lo else (p.list false).getD (k - 1) 0) :
    firstB (pad ⟨p.lo, p.turnK ((p.list false).take n) true k⟩) at_ false = (p.list false).getD k 0 ∧ p.th ((p.list false).getD k 0) = true := by
  have hl : k < (p.list false).length := by omega
  have hs := List.pairwise_iff_getElem.1 (p.list_sorted false)
  have hget : ∀ i (h : i < (p.list false).length), (p.list false).getD i 0 = (p.list false)[i] := fun i h => by simp [List.getD, List.getElem?_eq_getElem h]
  have htk : ∀ i, i < n → ((p.list false).take n).getD i 0 = (p.list false).getD i 0 := fun i h => by
    simp [List.getD, h]
  have hm : (p.list false).getD k 0 ∈ p.list false := by rw [hget k hl]; exact List.getElem_mem hl
  obtain ⟨j, hj, e, hf⟩ := (p.list_mem false _).1 hm
  have hth : p.th ((p.list false).getD k 0) = true := list_th hm
  have hall : ∀ i, i < k → p.th (((p.list false).take n).getD i 0) = true := fun i hi => by
    rw [htk i (by omega), hget i (by omega)]
    exact list_th (List.getElem_mem (by omega))
  refine ⟨?_, hth⟩
  rw [e]
  have hlen : (pad ⟨p.lo, p.turnK ((p.list false).take n) true k⟩).length = p.lo.toNat + p.tk.length := by
    rw [pad_len]
    show _ + (p.turnK _ _ _).length = _
    rw [turnK_length]
  have hpg : ∀ i, (pad ⟨p.lo, p.turnK ((p.list false).take n) true k⟩).getD (p.lo.toNat + i) false = (p.turnK ((p.list false).take n) true k).getD i false := fun i => pad_get (p := ⟨p.lo, p.turnK ((p.list false).take n) true k⟩) i
  have hlow : p.lo ≤ at_ ∧ (k = 0 ∨ at_ < p.lo + (j : Int)) := by
    rw [ha]
    split
    · exact ⟨Int.le_refl _, .inl (by assumption)⟩
    · rename_i h1
      have h2 := hs (k - 1) k (by omega) hl (by omega)
      have h3 := th_iff.1 (list_th (p := p) (q := false) (x := (p.list false)[k - 1]'(by omega)) (List.getElem_mem (by omega)))
      rw [hget (k - 1) (by omega)]
      rw [hget k hl] at e
      exact ⟨h3.1, .inr (by omega)⟩
  have hfree : (p.turnK ((p.list false).take n) true k).getD j false = false := by
    have h2 := turn_at (p := p) (l := (p.list false).take n) (v := true) hj k hall
    cases hc : (p.turnK ((p.list false).take n) true k).getD j false with
    | false => rfl
    | true =>
      rcases h2.1 hc with h3 | ⟨i, hi, h3⟩
      · rw [hf] at h3; cases h3
      · rw [htk i (by omega), hget i (by omega)] at h3
        have h4 := hs i k (by omega) hl hi
        rw [hget k hl] at e
        omega
  have hnone : ∀ i, i < p.lo.toNat + j → ¬ (at_ ≤ (i : Int) ∧ (pad ⟨p.lo, p.turnK ((p.list false).take n) true k⟩).getD i false = false) := fun i hi hc => by
    obtain ⟨h1, h2⟩ := hc
    obtain ⟨m, rfl⟩ : ∃ m, i = p.lo.toNat + m := ⟨i - p.lo.toNat, by omega⟩
    rw [hpg] at h2
    have h3 := turn_at (p := p) (l := (p.list false).take n) (v := true) (j := m) (by omega) k hall
    have h4 : p.tk.getD m false = false := by
      cases hc : p.tk.getD m false with
      | false => rfl
      | true => rw [h3.2 (.inl hc)] at h2; cases h2
    have h5 : p.lo + (m : Int) ∈ p.list false := (p.list_mem false _).2 ⟨m, by omega, rfl, h4⟩
    obtain ⟨q, hq, hqe⟩ := List.getElem_of_mem h5
    rcases Nat.lt_or_ge q k with h6 | h6
    · have h7 := h3.2 (.inr ⟨q, h6, by rw [htk q (by omega), hget q hq, hqe]⟩)
      rw [h7] at h2; cases h2
    · have h8 : (p.list false)[k] ≤ (p.list false)[q] := by
        rcases Nat.lt_or_ge k q with h9 | h9
        · exact Int.le_of_lt (hs k q hl hq h9)
        · have : q = k := by omega
          subst this; exact Int.le_refl _
      rw [hget k hl] at e
      omega
  rcases firstB_cases (pad ⟨p.lo, p.turnK ((p.list false).take n) true k⟩) at_ false with ⟨_, h2⟩ | ⟨x, h1, h2, h3, h4, h5⟩
  · exfalso
    refine h2 (p.lo.toNat + j) (by omega) ⟨?_, by rw [hpg]; exact hfree⟩
    rcases hlow.2 with h3 | h3
    · subst h3; rw [ha]; simp; omega
    · omega
  · rw [h1]
    have h6 : ¬ x < p.lo.toNat + j := fun h => hnone x h ⟨h3, h4⟩
    have h7 : ¬ p.lo.toNat + j < x := fun h => h5 _ h ⟨by
      rcases hlow.2 with h3 | h3
      · subst h3; rw [ha]; simp; omega
      · omega, by rw [hpg]; exact hfree⟩
    omega
/-- What Take turns, turn by turn. -/
theorem free_turn {n k : Nat} (hn : n ≤ (p.list false).length) (hk : k < n) : Pl.has ⟨p.lo, p.turnK ((p.list false).take n) true k⟩ ((p.list false).getD k 0) = false := by
  have hl : k < (p.list false).length := by omega
  have hs := List.pairwise_iff_getElem.1 (p.list_sorted false)
  have hget : ∀ i (h : i < (p.list false).length), (p.list false).getD i 0 = (p.list false)[i] := fun i h => by simp [List.getD, List.getElem?_eq_getElem h]
  have htk : ∀ i, i < n → ((p.list false).take n).getD i 0 = (p.list false).getD i 0 := fun i h => by
    simp [List.getD, h]
  have hlen : ((p.list false).take n).length = n := by rw [List.length_take]; omega
  have hall : ∀ i, i < ((p.list false).take n).length → p.th (((p.list false).take n).getD i 0) = true := fun i hi => by
    rw [hlen] at hi
    rw [htk i hi, hget i (by omega)]
    exact list_th (List.getElem_mem (by omega))
  have h1 := (turn_odd (p := p) (l := (p.list false).take n) (v := true) (k := k) (by omega) hall).2
  rw [htk k hk] at h1
  refine h1 ?_
  have hm : (p.list false).getD k 0 ∈ p.list false := by rw [hget k hl]; exact List.getElem_mem hl
  obtain ⟨j, hj, e, hf⟩ := (p.list_mem false _).1 hm
  unfold oddAt
  rw [Bool.and_eq_true, beq_iff_eq, List.all_eq_true, htk k hk]
  refine ⟨?_, fun i hi => ?_⟩
  · unfold has
    rw [list_th hm, Bool.true_and, show ((p.list false).getD k 0 - p.lo).toNat = j by omega, hf]
    rfl
  · have hi' := List.mem_range.1 hi
    rw [htk i (by omega), hget i (by omega), hget k hl]
    have := hs i k (by omega) hl hi'
    simp
    omega
end
end Pl
end Go.Proofs.YtibaaideleinhaaDoor
