/- Lemmas under the proofs of this place: SupOpen. No statement is proved here. -/
import Derived.Test.YtkockhggnbfahaaBu35
import Derived.Test.YtkockhggnbfahaaBu02
import Derived.ChangeAt
set_option linter.unusedVariables false
namespace Go.Proofs.Ytkockhggnbfahaa
open Go.ChangeShapes Go.WideShapes Go.ChangeAt Go.RowKit
theorem Try.cellsI8 : Try.prog.cellsOf 3 = 1 := by kernel_rfl
theorem Try.cellsB8 : Try.prog.cellsOf 5 = 1 := by kernel_rfl
theorem Try.cellsP8 : Try.prog.cellsOf 23 = 3 := by kernel_rfl
theorem Try.cellsS8 : Try.prog.cellsOf 25 = 6 := by kernel_rfl
theorem list6 {α : Type} (l : List α) (h : l.toArray.size = 6) : ∃ a b c d e f, l = [a, b, c, d, e, f] := by
  have h2 : l.length = 6 := by simpa using h
  obtain _ | ⟨a, _ | ⟨b, _ | ⟨c, _ | ⟨d, _ | ⟨e, _ | ⟨f, _ | ⟨g, l⟩⟩⟩⟩⟩⟩⟩ := l
  all_goals first
    | exact ⟨_, _, _, _, _, _, rfl⟩
    | (exfalso; simp only [List.length_cons, List.length_nil] at h2; omega)
set_option maxRecDepth 100000 in
theorem open_sup {H : Type} {enc : TypeId × Value → H} {W : World} {base : Nat} {v : Value} {d : DataW H} {ps : List MemPlace} (hv : Value.okWide Try.prog W .any base 25 v) (h : DataW.Trod enc Try.prog W 0 (fun _ => true) true 25 v d ps) :
    ∃ s : Pu, v = supV s := by
  obtain ⟨cs, rfl, hsz⟩ := okWide_struct Try.underlying25 hv
  rw [Try.cellsS8] at hsz
  obtain ⟨cl⟩ := cs
  obtain ⟨a, b, c, e, f, g, rfl⟩ := list6 cl hsz
  obtain ⟨fuel, hf⟩ := h
  obtain ⟨xs, k, hk, hxy, _, hxl, hff⟩ := DataW.trod_struct Try.underlying25 hf
  match xs, hxl with
  | [y0, y1, y2, y3], _ =>
    have g0 := hff 0 _ rfl
    have g1 := hff 1 _ rfl
    have g2 := hff 2 _ rfl
    have g3 := hff 3 _ rfl
    simp [Value.cells, Try.cellsI8, Try.cellsP8] at g0 g1 g2 g3
    obtain ⟨z0, h0, _, _⟩ := DataW.trod_int Try.underlying3 g0
    obtain ⟨z1, h1, _, _⟩ := DataW.trod_int Try.underlying3 g1
    obtain ⟨z2, h2, _, _⟩ := DataW.trod_int Try.underlying3 g2
    obtain ⟨xs3, k3, hk3, hxy3, _, hxl3, hff3⟩ := DataW.trod_struct Try.underlying23 g3
    match xs3, hxl3 with
    | [u0, u1, u2], _ =>
      have p0 := hff3 0 _ rfl
      have p1 := hff3 1 _ rfl
      have p2 := hff3 2 _ rfl
      simp [Try.cellsI8] at p0 p1 p2
      obtain ⟨z3, h3, _, _⟩ := DataW.trod_int Try.underlying3 p0
      obtain ⟨z4, h4, _, _⟩ := DataW.trod_int Try.underlying3 p1
      obtain ⟨z5, h5, _, _⟩ := DataW.trod_int Try.underlying3 p2
      have e0 : a = .int .i64 z0 := by simpa using h0
      have e1 : b = .int .i64 z1 := by simpa using h1
      have e2 : c = .int .i64 z2 := by simpa using h2
      have e3 : e = .int .i64 z3 := by simpa using h3
      have e4 : f = .int .i64 z4 := by simpa using h4
      have e5 : g = .int .i64 z5 := by simpa using h5
      subst e0 e1 e2 e3 e4 e5
      exact ⟨⟨z0, z1, z2, z3, z4, z5⟩, rfl⟩
end Go.Proofs.Ytkockhggnbfahaa
