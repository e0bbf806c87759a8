/- A reference's pool in memory (layer 11). Plain lemmas. -/
import Derived.Test.YtibaaideleinhaaDoorPoolPlain
import Derived.Test.YtibaaideleinhaaDoorBitsMem
import Derived.Test.YtibaaideleinhaaDoorIntsZ0
import Derived.Test.YtibaaideleinhaaDoorFoot
set_option linter.unusedVariables false
namespace Go.Proofs.YtibaaideleinhaaDoor
open Go.RowKit

def plV (p : Pl) (A : Option Addr) (c : Nat) : Value := .agg #[.int .i64 p.lo, .slice A p.tk.length c]
theorem Tryd.poolAgg (w : World) : (isAgg 29).run Tryd.prog w = .ok true w := by kernel_rfl
theorem Tryd.poolSize (w : World) : (sizeOf 29).run Tryd.prog w = .ok 2 w := by kernel_rfl
theorem Tryd.poolBuild0 (w : World) : Sem.run Tryd.prog (Instr.build 29 #[]) w = .ok (.agg #[.int .i64 0, .slice none 0 0]) w := by kernel_rfl
theorem Tryd.poolBuild2 (a : Int) (A : Option Addr) (n c : Nat) (w : World) : Sem.run Tryd.prog (Instr.build 29 #[(0, .int .i64 a), (1, .slice A n c)]) w = .ok (.agg #[.int .i64 a, .slice A n c]) w := by kernel_rfl
theorem bs_up {w w' : World} {A : Option Addr} {l : List Bool} (h : BS w w.heap.size A l) (hb : Below w.heap.size w w') : BS w' w'.heap.size A l := (h.below hb).more hb.size
/-- What reads as a pool's marks. -/
structure PlAt (w : World) (p : Pl) (A : Option Addr) (c : Nat) : Prop where
  bs : BS w w.heap.size A p.tk
  cap : p.tk.length ≤ c ∧ c ≤ 9223372036854775807
  small : p.small
theorem PlAt.up {w w' : World} {p : Pl} {A : Option Addr} {c : Nat} (h : PlAt w p A c) (hb : Below w.heap.size w w') : PlAt w' p A c := ⟨bs_up h.bs hb, h.cap, h.small⟩
/-- Whole numbers that a call gave: a slice of its own. -/
def GivesZ (l : List Int) (w : World) (e : Ending) (w' : World) : Prop := ∃ A c, e = .returned (.slice A l.length c) ∧ RI w' w'.heap.size A l ∧ (l.length ≤ c ∧ c ≤ 9223372036854775807) ∧ (∀ ad, A = some ad → w.heap.size ≤ ad.block) ∧ Below w.heap.size w w'
theorem zown_form {w : World} {base n : Nat} {v : Value} {l : List Int} (hn : n = l.length) (h : w.ownsRow base 3 1 v n (zcells l)) : ∃ A c, v = .slice A l.length c ∧ RI w w.heap.size A l ∧ (l.length ≤ c ∧ c ≤ 9223372036854775807) ∧ ∀ ad, A = some ad → base ≤ ad.block := by
  subst hn
  obtain ⟨A, c, rfl⟩ : ∃ A c, v = .slice A l.length c := by
    rcases h.2 with ⟨h1, h0⟩ | ⟨g, cap, cur, he, _⟩
    · exact ⟨none, 0, by rw [h1, show l.length = 0 from h0]⟩
    · exact ⟨_, _, he⟩
  refine ⟨A, c, rfl, zown_ri rfl h, ?_, fun ad e => ?_⟩
  · rcases h.2 with ⟨h1, h0⟩ | ⟨g, cap, cur, he, h2, h3, h4, h5, h6, h7⟩
    · simp only [Value.slice.injEq] at h1
      have h0' : l.length = 0 := h0
      omega
    · simp only [Value.slice.injEq] at he
      obtain ⟨-, -, rfl⟩ := he
      unfold maxLen at *
      omega
  · subst e
    rcases h.2 with ⟨h1, h0⟩ | ⟨g, cap, cur, he, h2, _⟩
    · simp at h1
    · simp only [Value.slice.injEq, Option.some.injEq] at he
      obtain ⟨rfl, -, -⟩ := he
      exact h2
end Go.Proofs.YtibaaideleinhaaDoor
