/- The program's sets of numbers as they lie in memory (layer 5): a size and 64 words. Plain lemmas; no statement is proved here. -/
import Derived.Test.YtibaaideleinhaaDoorBitsWords
import Derived.Test.YtibaaideleinhaaDoorBitsInts
import Derived.Test.YtibaaideleinhaaDoorNots
import Derived.Test.YtibaaideleinhaaDoorOpenDeeds
import Derived.Deep.QuietTactic
import Derived.BigQuiet
import Derived.Test.YtibaaideleinhaaDoorOnly
import Derived.Test.YtibaaideleinhaaDoorLetters
import Derived.Laws.Bits64b
set_option linter.unusedVariables false
namespace Go.Proofs.YtibaaideleinhaaDoor
open Go.RowKit

/-- The library's table, as its initialiser lays it. -/
def Tz (w : World) : Prop := ∀ n : Nat, n < 64 → w.cell? ⟨0, n, none⟩ = some (.int .u8 ((Lib.deBruijn64tab.getD n 0 : Nat) : Int))
theorem Tz.lt {w : World} (h : Tz w) : 0 < w.heap.size := World.block_lt_of_cell? w _ (h 0 (by omega))
theorem Tz.below {B : Nat} {w w' : World} (h : Tz w) (hb : Below B w w') (hB : 0 < B) : Tz w' := fun n hn => by
  rw [hb.cell (p := ⟨0, n, none⟩) hB]; exact h n hn
theorem Tz.only {w w' : World} {k : Nat} (h : Tz w) (ho : Only w w' k) (hk : 0 ≠ k) : Tz w' := fun n hn => by
  rw [World.cell?_of_block (ho.block 0 h.lt (by simp; omega))]; exact h n hn

/-- A set's cells: its size, its words. -/
def setCells_ (n : Nat) (ws : List Nat) : List Value := .int .i64 (n : Int) :: ws.map fun (x : Nat) => Value.int .u64 (x : Int)
theorem setCells_length (n : Nat) (ws : List Nat) : (setCells_ n ws).length = ws.length + 1 := by simp [setCells_]
theorem setCells_one (n : Nat) (ws : List Nat) : ∀ u ∈ setCells_ n ws, u.oneCell' = true := by
  intro u hu
  simp only [setCells_, List.mem_cons, List.mem_map] at hu
  rcases hu with rfl | ⟨b, _, rfl⟩ <;> rfl
theorem setCells_word (n : Nat) (ws : List Nat) (k : Nat) (h : k < ws.length) : (setCells_ n ws)[1 + k]? = some (.int .u64 ((ws.getD k 0 : Nat) : Int)) := by
  rw [Nat.add_comm]
  simp [setCells_, List.getD, List.getElem?_eq_getElem h]
/-- The set in block g holds this size and these words. -/
def SB (w : World) (g : Nat) (n : Nat) (ws : List Nat) : Prop := Blk w g 69 (setCells_ n ws).toArray ∧ ws.length = 64
theorem SB.lt {w : World} {g n : Nat} {ws : List Nat} (h : SB w g n ws) : g < w.heap.size := h.1.lt
theorem SB.size {w : World} {g n : Nat} {ws : List Nat} (h : SB w g n ws) : w.cell? ⟨g, 0, none⟩ = some (.int .i64 (n : Int)) := by
  rw [h.1.cell]; simp [setCells_]
theorem SB.word {w : World} {g n : Nat} {ws : List Nat} (h : SB w g n ws) (k : Nat) (hk : k < 64) : w.cell? ⟨g, 1 + k, none⟩ = some (.int .u64 ((ws.getD k 0 : Nat) : Int)) := by
  rw [h.1.cell]; simpa using setCells_word n ws k (by rw [h.2]; exact hk)
theorem SB.frozen {w : World} {g n : Nat} {ws : List Nat} (h : SB w g n ws) (k : Nat) : w.frozen? ⟨g, k, none⟩ = false := h.1.frozen k
theorem SB.set_ {w : World} {g n : Nat} {ws : List Nat} (h : SB w g n ws) (k x : Nat) : SB (w.setCell ⟨g, 1 + k, none⟩ (.int .u64 (x : Int))) g n (ws.set k x) := by
  refine ⟨?_, by simp [h.2]⟩
  have h1 := h.1.set_ (1 + k) (.int .u64 (x : Int))
  have e : (setCells_ n ws).toArray.setIfInBounds (1 + k) (.int .u64 (x : Int)) = (setCells_ n (ws.set k x)).toArray := by
    apply Array.toList_inj.1
    rw [Nat.add_comm]
    simp [setCells_, List.map_set]
  rwa [e] at h1
theorem SB.words {w : World} {g n : Nat} {ws : List Nat} (h : SB w g n ws) : w.rangeAt g 1 (ws.map fun (x : Nat) => Value.int .u64 (x : Int)) := fun j v hv => by
  have hj : j < ws.length := by
    have := (List.getElem?_eq_some_iff.1 hv).1
    simpa using this
  rw [h.word j (by rw [← h.2]; exact hj), ← hv]
  simp [List.getD, List.getElem?_eq_getElem hj]

/-- A set in block g: of l.length numbers, l tells which are there; the library's table is there. -/
def SetAt (w : World) (g : Nat) (l : List Bool) : Prop := Tz w ∧ 0 < g ∧ ∃ ws, SW ws l ∧ SB w g l.length ws
theorem SetAt.lt {w : World} {g : Nat} {l : List Bool} (h : SetAt w g l) : g < w.heap.size := by
  obtain ⟨_, _, ws, _, h1⟩ := h
  exact h1.lt
theorem SetAt.pos {w : World} {g : Nat} {l : List Bool} (h : SetAt w g l) : 0 < g := h.2.1
theorem SetAt.tab {w : World} {g : Nat} {l : List Bool} (h : SetAt w g l) : Tz w := h.1
theorem SetAt.below {B : Nat} {w w' : World} {g : Nat} {l : List Bool} (h : SetAt w g l) (hb : Below B w w') (hg : g < B) : SetAt w' g l := by
  obtain ⟨h1, h2, ws, h3, h4⟩ := h
  exact ⟨h1.below hb (by omega), h2, ws, h3, h4.1.below hb hg, h4.2⟩
theorem SetAt.only {w w' : World} {g k : Nat} {l : List Bool} (h : SetAt w g l) (ho : Only w w' k) (hg : g ≠ k) (hk : 0 < k) : SetAt w' g l := by
  obtain ⟨h1, h2, ws, h3, h4⟩ := h
  exact ⟨h1.only ho (by omega), h2, ws, h3, h4.1.only ho hg, h4.2⟩

/-- Two words that differ in the bits that are set in one of them. -/
theorem xor_u64 (a b : Nat) (ha : a < 18446744073709551616) (hb : b < 18446744073709551616) : bits .xor .u64 (a : Int) (b : Int) = ((a ^^^ b : Nat) : Int) := by
  have hx : a ^^^ b < 2 ^ 64 := Nat.xor_lt_two_pow (by omega) (by omega)
  have h1 : (BitVec.ofInt 64 (a : Int)).toNat = a := by
    rw [BitVec.ofInt_natCast, BitVec.toNat_ofNat]; exact Nat.mod_eq_of_lt (by omega)
  have h2 : (BitVec.ofInt 64 (b : Int)).toNat = b := by
    rw [BitVec.ofInt_natCast, BitVec.toNat_ofNat]; exact Nat.mod_eq_of_lt (by omega)
  show IntKind.u64.wrap ((BitVec.ofInt 64 (a : Int) ^^^ BitVec.ofInt 64 (b : Int)).toNat : Int) = _
  rw [BitVec.toNat_xor, h1, h2, IntKind.wrap_u64]
  omega

end Go.Proofs.YtibaaideleinhaaDoor
