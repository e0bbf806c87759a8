/- Sectors joined. Plain mathematics; and what layer 7's awake asks. -/
import Derived.Test.YtepeoggacmaenaaSectMem
set_option linter.unusedVariables false
namespace Go.Proofs.Ytepeoggacmaenaa
open Go.RowKit

/-- The text of which sectors are, and whether they are a text's. -/
def joinS (l : List Sd) : List UInt8 × Bool :=
  match l with
  | [] => ([], false)
  | x :: r => if splitS x ((x :: r).flatMap (·.data)) = (x :: r, 0) then ((x :: r).flatMap (·.data), true) else ([], false)
theorem split_cases (s : Sd) (t : List UInt8) : (splitS s t = ((List.range (needN t.length)).map (s.part t (needN t.length)), 0) ∧ needN t.length ≠ 0) ∨ ((splitS s t).1 = [] ∧ (splitS s t).2 ≠ 0) := by
  unfold splitS
  by_cases h0 : needN t.length = 0
  · rw [if_pos h0]; exact .inr ⟨rfl, by decide⟩
  · rw [if_neg h0]
    by_cases h1 : 65536 < needN t.length
    · rw [if_pos h1]; exact .inr ⟨rfl, by decide⟩
    · rw [if_neg h1]
      by_cases h2 : (List.range (needN t.length)).all (fun i => (s.part t (needN t.length) i).may) = true
      · rw [if_pos h2]; exact .inl ⟨rfl, h0⟩
      · rw [if_neg h2]; exact .inr ⟨rfl, by decide⟩
theorem part_part (s : Sd) (t : List UInt8) (n i : Nat) : (s.part t n 0).part t n i = s.part t n i := by
  unfold Sd.part
  simp
theorem split_part (s : Sd) (t : List UInt8) : splitS (s.part t (needN t.length) 0) t = splitS s t := by
  unfold splitS
  have e : (s.part t (needN t.length) 0).part t (needN t.length) = s.part t (needN t.length) := funext fun i => part_part s t _ i
  rw [e]
theorem join_split (s : Sd) (t : List UInt8) (h : (splitS s t).2 = 0) : joinS (splitS s t).1 = (t, true) := by
  rcases split_cases s t with ⟨h1, h0⟩ | ⟨_, h2⟩
  · rw [h1]
    have ht : ((List.range (needN t.length)).map (s.part t (needN t.length))).flatMap (·.data) = t := split_text s t _ _ rfl
    obtain ⟨n, hn⟩ : ∃ n, needN t.length = n + 1 := ⟨needN t.length - 1, by omega⟩
    have hc : (List.range (needN t.length)).map (s.part t (needN t.length)) = s.part t (needN t.length) 0 :: (List.range n).map (fun i => s.part t (needN t.length) (i + 1)) := by
      rw [hn, List.range_succ_eq_map]
      simp [Function.comp_def]
    rw [hc] at ht h1 ⊢
    unfold joinS
    simp only
    rw [ht, if_pos]
    rw [split_part, h1]
  · exact absurd h h2
theorem join_bad (s : Sd) (t : List UInt8) (h : (splitS s t).2 ≠ 0) : (splitS s t).1 = [] ∧ joinS (splitS s t).1 = ([], false) := by
  rcases split_cases s t with ⟨h1, _⟩ | ⟨h2, _⟩
  · rw [h1] at h; exact absurd rfl h
  · rw [h2]; exact ⟨rfl, rfl⟩
theorem split_len (s : Sd) (t : List UInt8) : (splitS s t).1.length ≤ needN t.length ∧ ∀ x ∈ (splitS s t).1, x.data.length ≤ 48 := by
  rcases split_cases s t with ⟨h1, _⟩ | ⟨h2, _⟩
  · rw [h1]
    refine ⟨by simp, fun x hx => ?_⟩
    obtain ⟨i, _, rfl⟩ := List.mem_map.1 hx
    show ((t.drop (48 * i)).take 48).length ≤ 48
    rw [List.length_take]; omega
  · rw [h2]; exact ⟨Nat.zero_le _, fun x hx => by cases hx⟩
/-- A call that gives a text, and whether there is one. -/
def GivesJ (r : List UInt8 × Bool) (w : World) (e : Ending) (w' : World) : Prop :=
  ∃ A c, e = .returned (.tuple #[.slice A r.1.length c, .bool r.2]) ∧ RB w' w'.heap.size A r.1 ∧ Below w.heap.size w w'

/- What awake asks of. -/
def aw49 : List UInt8 := List.replicate 49 0
theorem aw_split : splitS ⟨2, 3, 5, 0, []⟩ aw49 = ([⟨2, 3, 5, 1, List.replicate 48 0⟩, ⟨3, 3, 6, 0, [0]⟩], 0) := by rfl
theorem aw_join : joinS [⟨2, 3, 5, 1, List.replicate 48 0⟩, ⟨3, 3, 6, 0, [0]⟩] = (aw49, true) := by
  have := join_split ⟨2, 3, 5, 0, []⟩ aw49 (by rw [aw_split])
  rwa [aw_split] at this
theorem aw_no : joinS [⟨1, 0, 0, 1, [1]⟩] = ([], false) := by
  unfold joinS
  simp only
  rw [if_neg]
  intro h
  have h1 : splitS ⟨1, 0, 0, 1, [1]⟩ ([⟨1, 0, 0, 1, [1]⟩].flatMap (fun (x : Sd) => x.data)) = ([⟨1, 0, 0, 0, [1]⟩], 0) := by rfl
  rw [h1] at h
  simp at h
theorem aw_sum : openL (List.replicate 64 0) = none := by
  unfold openL
  rw [if_neg]
  intro h
  have h2 := h.2
  have h3 : sealL ((List.replicate 64 (0 : UInt8)).take ((List.replicate 64 (0 : UInt8)).length - 4)) ≠ List.replicate 64 0 := by decide +kernel
  exact h3 h2
theorem aw_may : Sd.may ⟨1, 0, 7, 0, [97, 98]⟩ = true := by rfl
theorem aw_zero : Sd.may .zero = false := by rfl
end Go.Proofs.Ytepeoggacmaenaa
