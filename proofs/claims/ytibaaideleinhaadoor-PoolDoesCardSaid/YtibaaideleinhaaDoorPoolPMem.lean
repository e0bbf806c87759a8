/- The program's pool in memory (layer 11): a set of bits, and where the pool's blocks begin and end. Plain lemmas. -/
import Derived.Test.YtibaaideleinhaaDoorPoolMem
import Derived.Test.YtibaaideleinhaaDoorPoolPMath
import Derived.Test.YtibaaideleinhaaDoorBitsProg
set_option linter.unusedVariables false
namespace Go.Proofs.YtibaaideleinhaaDoor
open Go.RowKit

/-- The library's table lies in this block. -/
def TB : Nat := 0
/-- What the library's table asks of a world. -/
def Tq (w : World) : Prop := Tz w
theorem Tq.below {w w' : World} (h : Tq w) (hb : Below w.heap.size w w') : Tq w' := Tz.below h hb (Tz.lt h)
/-- The cells of a pool whose set lies in block s. -/
def poolCells (p : Pl) (s : Nat) : Array Value := #[.pointer (some ⟨s, 0, none⟩), .int .i64 p.lo, .int .i64 (p.lo + (p.tk.length : Int))]
/-- The program's pool in block g, its set in block s. -/
structure PP (w : World) (g s : Nat) (p : Pl) : Prop where
  blk : Blk w g 54 (poolCells p s)
  set : SetAt w s p.pad
  ne : g ≠ s
  pos : TB < g
  small : p.small
  top : p.lo + (p.tk.length : Int) ≤ 1024
/-- The program's pool in block g: F its own blocks. -/
def PPool (w : World) (g : Nat) (F : Nat → Prop) (p : Pl) : Prop := ∃ s, PP w g s p ∧ ∀ k, F k ↔ k = g ∨ k = s
section
variable {w w' : World} {g s : Nat} {F E E' : Nat → Prop} {p : Pl}
theorem PP.lt (h : PP w g s p) : g < w.heap.size := h.blk.lt
theorem PP.slt (h : PP w g s p) : s < w.heap.size := h.set.lt
theorem PP.spos (h : PP w g s p) : TB < s := h.set.pos
theorem PP.tz (h : PP w g s p) : Tz w := h.set.tab
theorem PP.len (h : PP w g s p) : p.pad.length ≤ 4096 := by
  have := Pl.pad_length (p := p) h.small.1.1
  have := h.top
  omega
theorem PP.c0 (h : PP w g s p) : w.cell? ⟨g, 0, none⟩ = some (.pointer (some ⟨s, 0, none⟩)) := by rw [h.blk.cell]; rfl
theorem PP.c1 (h : PP w g s p) : w.cell? ⟨g, 1, none⟩ = some (.int .i64 p.lo) := by rw [h.blk.cell]; rfl
theorem PP.c2 (h : PP w g s p) : w.cell? ⟨g, 2, none⟩ = some (.int .i64 (p.lo + (p.tk.length : Int))) := by rw [h.blk.cell]; rfl
theorem PP.below {B : Nat} (h : PP w g s p) (hb : Below B w w') (hg : g < B) (hs : s < B) : PP w' g s p := ⟨h.blk.below hb hg, h.set.below hb hs, h.ne, h.pos, h.small, h.top⟩
theorem PP.up (h : PP w g s p) (hb : Below w.heap.size w w') : PP w' g s p := h.below hb h.lt h.slt
theorem PP.turns (h : PP w g s p) (ht : Turns w w' E E') (hg : ¬ E g) (hs : ¬ E s) (hq : ¬ E TB) : PP w' g s p := by
  refine ⟨h.blk.turns ht hg, ?_, h.ne, h.pos, h.small, h.top⟩
  obtain ⟨h1, h2, ws, h3, h4, h5⟩ := h.set
  refine ⟨fun n hn => ?_, h2, ws, h3, h4.turns ht hs, h5⟩
  rw [ht.cell (p := ⟨0, n, none⟩) h1.lt hq]
  exact h1 n hn
theorem PP.pool (h : PP w g s p) : PPool w g (fun k => k = g ∨ k = s) p := ⟨s, h, fun _ => Iff.rfl⟩
theorem PPool.flt (h : PPool w g F p) : ∀ k, F k → k < w.heap.size := fun k hk => by
  obtain ⟨s, h1, h2⟩ := h
  rcases (h2 k).1 hk with rfl | rfl
  · exact h1.lt
  · exact h1.slt
theorem PPool.turns (h : PPool w g F p) (ht : Turns w w' E E') (hn : ∀ k, F k → ¬ E k) (hq : ¬ E TB) : PPool w' g F p := by
  obtain ⟨s, h1, h2⟩ := h
  exact ⟨s, h1.turns ht (hn g ((h2 g).2 (.inl rfl))) (hn s ((h2 s).2 (.inr rfl))) hq, h2⟩
theorem PPool.small (h : PPool w g F p) : p.small := by
  obtain ⟨s, h1, h2⟩ := h
  exact h1.small
theorem PPool.tab (h : PPool w g F p) : ¬ F TB := fun hf => by
  obtain ⟨s, h1, h2⟩ := h
  have e1 := h1.pos
  have e2 := h1.spos
  rcases (h2 _).1 hf with e | e <;> omega
theorem PPool.tz (h : PPool w g F p) : Tz w := by
  obtain ⟨s, h1, h2⟩ := h
  exact h1.tz
end
/-- A block that is known whole is not the table's, if it has fewer cells. -/
theorem ne_tab {w : World} {g : Nat} {t : TypeId} {cs : Array Value} (h : Blk w g t cs) (hT : Tz w) (hs : cs.size ≤ 5) : g ≠ TB := fun e => by
  have h1 : w.cell? ⟨TB, 5, none⟩ = _ := hT 5 (by omega)
  have h2 := h.cell 5
  rw [e] at h2
  rw [h2, Array.getElem?_eq_none hs] at h1
  cases h1
/-- Nor is a block of bools. -/
theorem ne_tab_bools {w : World} {g : Nat} {t : TypeId} {l : List Bool} (h : Blk w g t (bcells l).toArray) (hT : Tz w) : g ≠ TB := fun e => by
  have h1 : w.cell? ⟨TB, 0, none⟩ = _ := hT 0 (by omega)
  have h2 := h.cell 0
  rw [e] at h2
  rw [h2, List.getElem?_toArray] at h1
  have hm := List.mem_of_getElem? h1
  simp [bcells] at hm
def GivesPool (p : Pl) (w w' : World) (g : Nat) (F : Nat → Prop) : Prop := PPool w' g F p ∧ Below w.heap.size w w' ∧ ∀ k, F k → w.heap.size ≤ k
/-- Numbers of a set as ints. -/
theorem is_ri {w : World} {B : Nat} {A : Option Addr} {l : List Nat} (h : IS w B A l) : RI w B A (l.map fun n : Nat => (n : Int)) := by
  have e : icells l = zcells (l.map fun n : Nat => (n : Int)) := by simp [icells, zcells]
  refine RZ.ri ?_
  have h1 : Reads w B 1 A l.length (icells l) := h
  rw [e] at h1
  unfold RZ
  rw [List.length_map]
  exact h1
end Go.Proofs.YtibaaideleinhaaDoor
