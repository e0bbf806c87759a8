/- Lemmas under the proofs of this place: UpOnS. No statement is proved here. -/
import Derived.Test.YtinphkflfdpaeaaDoorBu41
set_option linter.unusedSimpArgs false
set_option linter.unusedVariables false
namespace Go.Proofs.YtinphkflfdpaeaaDoor
open Go.RowKit
structure OnS (w W : World) (R0 R1 : Nat) (C0 C1 : Array Value) : Prop where
  below : Below w.heap.size w W
  u0 : Blk W R0 26 C0
  u1 : Blk W R1 26 C1
theorem OnS.up {w W W' : World} {R0 R1 : Nat} {C0 C1 : Array Value} (h : OnS w W R0 R1 C0 C1) (hb : Below W.heap.size W W') : OnS w W' R0 R1 C0 C1 :=
  ⟨h.below.trans (hb.mono h.below.size), blkUpA h.u0 hb, blkUpA h.u1 hb⟩
theorem OnS.held {w W : World} {R0 R1 : Nat} {a a' k k' z z' : Int} {A C : Option Addr} {n c m d : Nat} {t1 t2 t3 t1' t2' t3' : ByteArray} (h : OnS w W R0 R1 #[.int .i64 a, .slice A n c, .int .i64 k, .string t1, .string t2, .int .i64 z, .string t3] #[.int .i64 a', .slice C m d, .int .i64 k', .string t1', .string t2', .int .i64 z', .string t3']) : W.cell? ⟨R0, 0, none⟩ = some (.int .i64 a) ∧ W.cell? ⟨R0, 1, none⟩ = some (.slice A n c) ∧ W.cell? ⟨R0, 2, none⟩ = some (.int .i64 k) ∧ W.cell? ⟨R0, 3, none⟩ = some (.string t1) ∧ W.cell? ⟨R0, 4, none⟩ = some (.string t2) ∧ W.cell? ⟨R0, 5, none⟩ = some (.int .i64 z) ∧ W.cell? ⟨R0, 6, none⟩ = some (.string t3) ∧ W.cell? ⟨R1, 0, none⟩ = some (.int .i64 a') ∧ W.cell? ⟨R1, 1, none⟩ = some (.slice C m d) ∧ W.cell? ⟨R1, 2, none⟩ = some (.int .i64 k') ∧ W.cell? ⟨R1, 3, none⟩ = some (.string t1') ∧ W.cell? ⟨R1, 4, none⟩ = some (.string t2') ∧ W.cell? ⟨R1, 5, none⟩ = some (.int .i64 z') ∧ W.cell? ⟨R1, 6, none⟩ = some (.string t3') := by
  obtain ⟨p0, p1, p2, p3, p4, p5, p6⟩ := blk7A h.u0
  obtain ⟨g0, g1, g2, g3, g4, g5, g6⟩ := blk7A h.u1
  exact ⟨p0, p1, p2, p3, p4, p5, p6, g0, g1, g2, g3, g4, g5, g6⟩
theorem ssUpO {w w' : World} {A : Option Addr} {L : List Bs} (h : SS w w.heap.size A L) (hb : Below w.heap.size w w') : SS w' w'.heap.size A L := (h.below hb).more hb.size
theorem blk_range7 {W : World} {g : Nat} {t : TypeId} {a b c d e f k : Value} (h : Blk W g t #[a, b, c, d, e, f, k]) : W.rangeAt g 0 [a, b, c, d, e, f, k] := by
  obtain ⟨h0, h1, h2, h3, h4, h5, h6⟩ := blk7A h
  intro j v hj
  match j with
  | 0 => simp at hj; rw [← hj]; exact h0
  | 1 => simp at hj; rw [← hj]; exact h1
  | 2 => simp at hj; rw [← hj]; exact h2
  | 3 => simp at hj; rw [← hj]; exact h3
  | 4 => simp at hj; rw [← hj]; exact h4
  | 5 => simp at hj; rw [← hj]; exact h5
  | 6 => simp at hj; rw [← hj]; exact h6
  | j + 7 => simp at hj
end Go.Proofs.YtinphkflfdpaeaaDoor
