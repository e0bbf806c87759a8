/- Pools of blocks: what is taken, given back, marked (layer 11). Plain mathematics; nothing of the program. -/
import Derived.Test.YtibaaideleinhaaDoorBase
set_option linter.unusedVariables false
namespace Go.Proofs.YtibaaideleinhaaDoor

/-- A pool: its first block, and whether each from it on is taken. -/
structure Pl where
  lo : Int
  tk : List Bool
def Pl.zero : Pl := ⟨0, []⟩
/-- A number that an int holds. -/
def InZ (z : Int) : Prop := -9223372036854775808 ≤ z ∧ z ≤ 9223372036854775807
namespace Pl
def th (p : Pl) (b : Int) : Bool := decide (p.lo ≤ b) && decide (b - p.lo < (p.tk.length : Int))
def has (p : Pl) (b : Int) : Bool := p.th b && p.tk.getD (b - p.lo).toNat false
/-- Those of the first k that are taken, or free. -/
def listK (p : Pl) (q : Bool) : Nat → List Int
  | 0 => []
  | k + 1 => if p.tk.getD k false = q then listK p q k ++ [p.lo + (k : Int)] else listK p q k
def list (p : Pl) (q : Bool) : List Int := p.listK q p.tk.length
/-- What is taken once the first k of l are turned. -/
def turnK (p : Pl) (l : List Int) (q : Bool) : Nat → List Bool
  | 0 => p.tk
  | k + 1 => (turnK p l q k).set (l.getD k 0 - p.lo).toNat q
def turned (p : Pl) (l : List Int) (q : Bool) : Pl := ⟨p.lo, p.turnK l q l.length⟩
def oddAt (p : Pl) (l : List Int) (q : Bool) (i : Nat) : Bool := (p.has (l.getD i 0) == q) && (List.range i).all fun k => !decide (l.getD k 0 = l.getD i 0)
def odd (p : Pl) (l : List Int) (q : Bool) (e : Int) : Int :=
  if (List.range l.length).all (fun i => p.th (l.getD i 0)) = false then 10 else if (List.range l.length).all (p.oddAt l q) = false then e else 0
def take (p : Pl) (n : Int) : Pl × List Int × Int :=
  if n < 0 then (p, [], 1) else if ((p.list false).length : Int) < n then (p, [], 2) else (p.turned ((p.list false).take n.toNat) true, (p.list false).take n.toNat, 0)
def give (p : Pl) (l : List Int) : Pl × Int := if p.odd l true 6 = 0 then (p.turned l false, 0) else (p, p.odd l true 6)
def mark (p : Pl) (l : List Int) : Pl × Int := if p.odd l false 7 = 0 then (p.turned l true, 0) else (p, p.odd l false 7)
def made (a b : Int) : Pl := ⟨a, List.replicate (b - a).toNat false⟩
def ofOk (a b : Int) : Bool := decide (0 ≤ a) && (decide (a ≤ b) && decide (b ≤ 1024))
theorem th_iff {p : Pl} {b : Int} : p.th b = true ↔ p.lo ≤ b ∧ b - p.lo < (p.tk.length : Int) := by
  unfold th
  simp only [Bool.and_eq_true, decide_eq_true_eq]
theorem listK_length (p : Pl) (q : Bool) : ∀ k, (p.listK q k).length ≤ k
  | 0 => Nat.le_refl _
  | k + 1 => by
    have ih := listK_length p q k
    rw [listK]
    split
    · rw [List.length_append]; simp; omega
    · omega
theorem listK_mem (p : Pl) (q : Bool) (x : Int) : ∀ k, x ∈ p.listK q k ↔ ∃ j : Nat, j < k ∧ x = p.lo + (j : Int) ∧ p.tk.getD j false = q
  | 0 => by simp [listK]
  | k + 1 => by
    have ih := listK_mem p q x k
    rw [listK]
    split
    · rename_i h
      rw [List.mem_append, ih, List.mem_singleton]
      constructor
      · rintro (⟨j, hj, e, he⟩ | e)
        · exact ⟨j, by omega, e, he⟩
        · exact ⟨k, by omega, e, h⟩
      · rintro ⟨j, hj, e, he⟩
        by_cases hjk : j < k
        · exact .inl ⟨j, hjk, e, he⟩
        · obtain rfl : j = k := by omega
          exact .inr e
    · rename_i h
      rw [ih]
      constructor
      · rintro ⟨j, hj, e, he⟩
        exact ⟨j, by omega, e, he⟩
      · rintro ⟨j, hj, e, he⟩
        by_cases hjk : j < k
        · exact ⟨j, hjk, e, he⟩
        · obtain rfl : j = k := by omega
          exact absurd he h
theorem turnK_length (p : Pl) (l : List Int) (q : Bool) : ∀ k, (p.turnK l q k).length = p.tk.length
  | 0 => rfl
  | k + 1 => by rw [turnK, List.length_set, turnK_length p l q k]
theorem turned_length (p : Pl) (l : List Int) (q : Bool) : (p.turned l q).tk.length = p.tk.length := p.turnK_length l q _
theorem listK_sorted (p : Pl) (q : Bool) : ∀ k, (p.listK q k).Pairwise (· < ·)
  | 0 => List.Pairwise.nil
  | k + 1 => by
    rw [listK]
    split
    · refine List.pairwise_append.2 ⟨listK_sorted p q k, List.pairwise_singleton _ _, fun a ha b hb => ?_⟩
      obtain ⟨j, hj, e, _⟩ := (listK_mem p q a k).1 ha
      rw [List.mem_singleton] at hb
      omega
    · exact listK_sorted p q k
theorem list_mem (p : Pl) (q : Bool) (x : Int) : x ∈ p.list q ↔ ∃ j : Nat, j < p.tk.length ∧ x = p.lo + (j : Int) ∧ p.tk.getD j false = q := p.listK_mem q x _
theorem list_sorted (p : Pl) (q : Bool) : (p.list q).Pairwise (· < ·) := p.listK_sorted q _
theorem list_length (p : Pl) (q : Bool) : (p.list q).length ≤ p.tk.length := p.listK_length q _
theorem list_th {p : Pl} {q : Bool} {x : Int} (h : x ∈ p.list q) : p.th x = true := by
  obtain ⟨j, hj, e, _⟩ := (p.list_mem q x).1 h
  rw [th_iff]
  omega
theorem both_length (p : Pl) : ∀ k, k ≤ p.tk.length → (p.listK true k).length + (p.listK false k).length = k
  | 0, _ => rfl
  | k + 1, h => by
    have ih := both_length p k (by omega)
    rw [listK, listK]
    cases hg : p.tk.getD k false with
    | true => rw [if_pos rfl, if_neg (by decide), List.length_append]; simp; omega
    | false => rw [if_neg (by decide), if_pos rfl, List.length_append]; simp; omega
theorem free_taken (p : Pl) : (p.list false).length + (p.list true).length = p.tk.length := by
  have := p.both_length p.tk.length (Nat.le_refl _)
  unfold list
  omega
theorem take_load (p : Pl) (n : Int) : (p.take n).1.lo = p.lo ∧ (p.take n).1.tk.length = p.tk.length ∧ (p.take n).2.1.length ≤ p.tk.length := by
  unfold take
  split
  · exact ⟨rfl, rfl, Nat.zero_le _⟩
  · split
    · exact ⟨rfl, rfl, Nat.zero_le _⟩
    · refine ⟨rfl, turned_length _ _ _, ?_⟩
      have := p.list_length false
      show (List.take _ _).length ≤ _
      rw [List.length_take]
      omega
theorem give_load (p : Pl) (l : List Int) : (p.give l).1.lo = p.lo ∧ (p.give l).1.tk.length = p.tk.length := by
  unfold give
  split
  · exact ⟨rfl, turned_length _ _ _⟩
  · exact ⟨rfl, rfl⟩
theorem mark_load (p : Pl) (l : List Int) : (p.mark l).1.lo = p.lo ∧ (p.mark l).1.tk.length = p.tk.length := by
  unfold mark
  split
  · exact ⟨rfl, turned_length _ _ _⟩
  · exact ⟨rfl, rfl⟩
/-- Small enough for every step of a walk. -/
def small (p : Pl) : Prop := (0 ≤ p.lo ∧ p.lo ≤ 1024) ∧ p.tk.length ≤ 1024
end Pl
end Go.Proofs.YtibaaideleinhaaDoor
