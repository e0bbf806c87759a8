/- What layer 6's DiskSafe needs. Plain lemmas. -/
import Derived.Test.YthaljnnkpfeooaaDiskDoesM
import Derived.Test.YthaljnnkpfeooaaDiskLoose
set_option linter.unusedVariables false
namespace Go.Proofs.Ythaljnnkpfeooaa
open Go.RowKit

theorem plays_len {d : Dk} (h : Dk.fit d) (l : List Dd) : ∀ i, i ≤ l.length → Dk.fit (playsD d l i) ∧ (playsD d l i).safe.length = d.safe.length
  | 0, _ => ⟨h, rfl⟩
  | i + 1, hi => by
    rw [plays_succ d l i (by omega)]
    have h1 := plays_len h l i (by omega)
    have h2 := Dk.fit_step h1.1 l[i].kind l[i].n (dataL l[i]) l[i].masks
    exact ⟨h2.1, h2.2.trans h1.2⟩
theorem flush_on {d : Dk} (h : d.flush.2 = 0) : d.flush.1.off = false := by
  unfold Dk.flush at h ⊢
  cases ho : d.off with
  | true => rw [ho] at h; simp at h
  | false =>
    rw [ho] at h
    simp only [Bool.false_eq_true, if_false] at h ⊢
    unfold Dk.deed at h ⊢
    by_cases h1 : d.left = 0
    · rw [if_pos h1] at h; simp at h
    · rw [if_neg h1] at h ⊢
      by_cases h2 : 0 < d.left
      · rw [if_pos h2]; exact ho
      · rw [if_neg h2]; exact ho
theorem read_on {d : Dk} {n : Nat} (ho : d.off = false) (hn : n < d.safe.length) : d.read (n : Int) = ({ d with reads := d.reads + 1 }, d.now n, 0) := by
  unfold Dk.read
  rw [ho]
  have ht : d.there (n : Int) = true := by unfold Dk.there; simp; omega
  rw [ht]
  simp
theorem flush_load (d : Dk) : d.flush.1.load ≤ d.load + 2 := step_load d ⟨3, 0, [], false, []⟩
theorem crash_load (d : Dk) (Z : List Int) : (d.crash Z).load ≤ d.load + 2 := step_load d ⟨5, 0, [], false, Z⟩
theorem Two.add {K : Kps} {w0 w : World} {g q : Nat} {F G B : Nat → Prop} {d f : Dk} {A : Option Addr} {L : List UInt8} (h : Two K w0 w g F d q G B f) (h1 : Kept w F A L) (h2 : Kept w G A L) : Two [(A, L)] w0 w g F d q G B f :=
  ⟨h.p, h.r, h.go, h.fg, h.fb, fun x hx => by rw [List.mem_singleton] at hx; subst hx; exact ⟨h1, h2⟩⟩
/-- In the second loop: a block is calm, the bytes that were read stay. -/
def SafeAt (w0 : World) (g q n : Nat) (A : Option Addr) (L : List UInt8) (m : Nat) (w' : World) : Prop := ∃ d e F G B, Two [(A, L)] w0 w' g F d q G B e ∧ Dk.calm n L d ∧ d.load ≤ m ∧ e.load ≤ m
theorem SafeAt.step {w0 w' : World} {g q n : Nat} {A : Option Addr} {L : List UInt8} {m : Nat} {d e : Dk} {x : Dd} (hd : Did2 [(A, L)] w0 g q (stepD d x) (stepD e x) w') (hc : Dk.calm n L d) (h1 : d.load ≤ m) (h2 : e.load ≤ m) (hne : ¬ (x.kind = 2 ∧ x.n = (n : Int))) : SafeAt w0 g q n A L (m + 2) w' := by
  obtain ⟨F, G, B, hT⟩ := hd
  exact ⟨_, _, F, G, B, hT, Dk.calm_step hc _ _ _ _ hne, Nat.le_trans (step_load d x) (by omega), Nat.le_trans (step_load e x) (by omega)⟩
end Go.Proofs.Ythaljnnkpfeooaa
