/- Lemmas under the proofs of this place: CellOpen. No statement is proved here. -/
import Derived.Test.YtpedgkghfehkjaaBu23
import Derived.Test.YtpedgkghfehkjaaBu13
set_option linter.unusedVariables false
namespace Go.Proofs.Ytpedgkghfehkjaa
open Go.ChangeShapes Go.WideShapes Go.ChangeAt Go.RowKit
theorem Try.cellsCell9 : Try.prog.cellsOf 24 = 4 := by kernel_rfl
theorem list4c {α : Type} (l : List α) (h : l.toArray.size = 4) : ∃ a b c d, l = [a, b, c, d] := by
  match l, h with
  | [a, b, c, d], _ => exact ⟨a, b, c, d, rfl⟩
theorem open_cell {H : Type} {enc : TypeId × Value → H} {W : World} {base : Nat} {v : Value} {d : DataW H} {ps : List MemPlace} (hv : Value.okWide Try.prog W .any base 24 v) (h : DataW.Trod enc Try.prog W 0 (fun _ => true) true 24 v d ps) :
    ∃ (s : Ce) (A : Option Addr) (c : Nat), v = ceV s A c ∧ RB W W.heap.size A s.data ∧ s.data.length ≤ c ∧ c ≤ 9223372036854775807 := by
  obtain ⟨cs, rfl, hsz⟩ := okWide_struct Try.underlying24 hv
  rw [Try.cellsCell9] at hsz
  obtain ⟨cl⟩ := cs
  obtain ⟨a, b, c, f, rfl⟩ := list4c cl hsz
  obtain ⟨fuel, hf⟩ := h
  obtain ⟨xs, k, hk, hxy, _, hxl, hff⟩ := DataW.trod_struct Try.underlying24 hf
  match xs, hxl with
  | [y0, y1, y2, y4], _ =>
    have g0 := hff 0 _ rfl
    have g1 := hff 1 _ rfl
    have g2 := hff 2 _ rfl
    have g4 := hff 3 _ rfl
    simp [Value.cells, Try.cellsI7, Try.cellsS7] at g0 g1 g2 g4
    obtain ⟨z0, h0, _, _⟩ := DataW.trod_int Try.underlying3 g0
    obtain ⟨z1, h1, _, _⟩ := DataW.trod_int Try.underlying3 g1
    obtain ⟨z2, h2, _, _⟩ := DataW.trod_int Try.underlying3 g2
    obtain ⟨A, L, cc, rfl, hr, hl, hm⟩ := bytes_of7 Try.underlying22 Try.underlying5 Try.cellsB7 g4
    have e0 : a = .int .i64 z0 := by simpa using h0
    have e1 : b = .int .i64 z1 := by simpa using h1
    have e2 : c = .int .i64 z2 := by simpa using h2
    subst e0 e1 e2
    exact ⟨⟨z0, z1, z2, L⟩, A, cc, rfl, hr, hl, by unfold maxLen at hm; omega⟩
end Go.Proofs.Ytpedgkghfehkjaa
