/- Lemmas under the proofs of this place: DiskCalm. No statement is proved here. -/
import Derived.Test.YtkockhggnbfahaaBu33
import Derived.Test.YtkockhggnbfahaaBu05
set_option linter.unusedVariables false
namespace Go.Proofs.Ytkockhggnbfahaa
open Go.ChangeShapes Go.WideShapes Go.ChangeAt Go.RowKit
theorem Try.cells51 : Try.prog.cellsOf 61 = 4 := by kernel_rfl
theorem Try.cells22 : Try.prog.cellsOf 41 = 1 := by kernel_rfl
set_option maxRecDepth 100000 in
theorem open_calm {H : Type} {enc : TypeId × Value → H} {W : World} {base : Nat} {v : Value} {d : DataW H} {ps : List MemPlace} (hv : Value.okWide Try.prog W .any base 61 v) (h : DataW.Trod enc Try.prog W 0 (fun _ => true) true 61 v d ps) :
    ∃ (A1 A2 A3 : Option Addr) (D1 D2 : List Dd) (Z : List Int) (z : Int) (c1 c2 c3 : Nat), v = .agg #[.slice A1 D1.length c1, .slice A2 D2.length c2, .int .i64 z, .slice A3 Z.length c3] ∧ DL W W.heap.size A1 D1 ∧ DL W W.heap.size A2 D2 ∧ RI W W.heap.size A3 Z ∧ -9223372036854775808 ≤ z ∧ z ≤ 9223372036854775807 := by
  obtain ⟨cs, rfl, hsz⟩ := okWide_struct Try.underlying61 hv
  rw [Try.cells51] at hsz
  obtain ⟨cl⟩ := cs
  obtain ⟨a, b, c, e, rfl⟩ := list4 cl hsz
  obtain ⟨fuel, hf⟩ := h
  obtain ⟨xs, k, hk, hxy, _, hxl, hff⟩ := DataW.trod_struct Try.underlying61 hf
  match xs, hxl with
  | [y0, y1, y2, y3], _ =>
    have g0 := hff 0 _ rfl
    have g1 := hff 1 _ rfl
    have g2 := hff 2 _ rfl
    have g3 := hff 3 _ rfl
    simp [Value.cells, Try.cells22, Try.cells3, Try.cells34] at g0 g1 g2 g3
    obtain ⟨A1, D1, c1, rfl, hd1, _, _⟩ := open_deedl (fuel := k) Try.underlying41 Try.underlying53 Try.cells36 rfl rfl rfl rfl rfl Try.cells3 Try.cells3 Try.cells33 Try.cells4 Try.cells34 Try.underlying3 Try.underlying3 Try.underlying26 Try.underlying4 Try.underlying51 Try.underlying5 Try.cells5 Try.underlying3 Try.cells3 g0
    obtain ⟨A2, D2, c2, rfl, hd2, _, _⟩ := open_deedl (fuel := k) Try.underlying41 Try.underlying53 Try.cells36 rfl rfl rfl rfl rfl Try.cells3 Try.cells3 Try.cells33 Try.cells4 Try.cells34 Try.underlying3 Try.underlying3 Try.underlying26 Try.underlying4 Try.underlying51 Try.underlying5 Try.cells5 Try.underlying3 Try.cells3 g1
    obtain ⟨z, hz, _, wz⟩ := DataW.trod_int Try.underlying3 g2
    obtain ⟨A3, Z, c3, rfl, hm⟩ := intl_of Try.underlying51 Try.underlying3 Try.cells3 g3
    have hz' : c = .int .i64 z := by simpa using hz
    subst hz'
    exact ⟨A1, A2, A3, D1, D2, Z, z, c1, c2, c3, rfl, hd1, hd2, hm, by simpa [Lit.wf, IntKind.min, IntKind.max, IntKind.signed, IntKind.bits] using wz⟩
end Go.Proofs.Ytkockhggnbfahaa
