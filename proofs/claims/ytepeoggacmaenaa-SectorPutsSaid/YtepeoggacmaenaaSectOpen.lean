/- An argument that is a sector, opened (layer 7). Plain lemmas. -/
import Derived.Test.YtepeoggacmaenaaSectAwake
import Derived.Test.YtepeoggacmaenaaLaw
import Derived.Test.YtepeoggacmaenaaOpenParts
set_option linter.unusedVariables false
namespace Go.Proofs.Ytepeoggacmaenaa
open Go.ChangeShapes Go.WideShapes Go.ChangeAt Go.RowKit

theorem bytes_of7 {H : Type} {enc : TypeId × Value → H} {P : Program} {W : World} {t e : TypeId} {fuel : Nat} {v : Value} {x : DataW H × List MemPlace} (ht : P.underlying t = some (.slice e)) (he : P.underlying e = some (.int .u8)) (hc : P.cellsOf e = 1)
    (hf : DataW.trod enc P W 0 (fun _ => true) true fuel t [v] = some x) :
    ∃ (A : Option Addr) (L : List UInt8) (c : Nat), v = .slice A L.length c ∧ RB W W.heap.size A L ∧ L.length ≤ c ∧ c ≤ maxLen := by
  rcases open_ints ht he hc hf with ⟨hcs, hx⟩ | ⟨a, len, cap, zs, hcs, _, hl, hm, hz, hx, hcell, hwz⟩
  · simp at hcs
    exact ⟨none, [], 0, hcs, RB.none_ _ _, Nat.le_refl _, Nat.zero_le _⟩
  · simp at hcs
    simp only [if_true] at hz
    have hll : (bytesOfInts (zs.take len)).length = len := by simp [bytesOfInts]; omega
    refine ⟨some a, bytesOfInts (zs.take len), cap, by rw [hll]; exact hcs, ?_, by rw [hll]; exact hl, hm⟩
    exact rb_of_ints len (by omega) hwz (by intro h; cases h) (fun a' ha c' hc' => by injection ha with ha; subst ha; exact hcell c' hc')
theorem Try.cellsI7 : Try.prog.cellsOf 3 = 1 := by kernel_rfl
theorem Try.cellsB7 : Try.prog.cellsOf 5 = 1 := by kernel_rfl
theorem Try.cellsS7 : Try.prog.cellsOf 22 = 1 := by kernel_rfl
theorem Try.cellsSec7 : Try.prog.cellsOf 24 = 5 := by kernel_rfl
theorem wf7 {z : Int} (h : (Lit.int .i64 z).wf = true) : -9223372036854775808 ≤ z ∧ z ≤ 9223372036854775807 := by
  simpa [Lit.wf, IntKind.min, IntKind.max, IntKind.bits, IntKind.signed] using h
theorem list5 {α : Type} (l : List α) (h : l.toArray.size = 5) : ∃ a b c d e, l = [a, b, c, d, e] := by
  match l, h with
  | [a, b, c, d, e], _ => exact ⟨a, b, c, d, e, rfl⟩
theorem open_sec {H : Type} {enc : TypeId × Value → H} {W : World} {base : Nat} {v : Value} {d : DataW H} {ps : List MemPlace} (hv : Value.okWide Try.prog W .any base 24 v) (h : DataW.Trod enc Try.prog W 0 (fun _ => true) true 24 v d ps) :
    ∃ (s : Sd) (A : Option Addr) (c : Nat), v = secV s A c ∧ RB W W.heap.size A s.data ∧ s.data.length ≤ c ∧ c ≤ 9223372036854775807 ∧ -9223372036854775808 ≤ s.number ∧ s.number ≤ 9223372036854775807 := by
  obtain ⟨cs, rfl, hsz⟩ := okWide_struct Try.underlying24 hv
  rw [Try.cellsSec7] at hsz
  obtain ⟨cl⟩ := cs
  obtain ⟨a, b, c, e, f, rfl⟩ := list5 cl hsz
  obtain ⟨fuel, hf⟩ := h
  obtain ⟨xs, k, hk, hxy, _, hxl, hff⟩ := DataW.trod_struct Try.underlying24 hf
  match xs, hxl with
  | [y0, y1, y2, y3, y4], _ =>
    have g0 := hff 0 _ rfl
    have g1 := hff 1 _ rfl
    have g2 := hff 2 _ rfl
    have g3 := hff 3 _ rfl
    have g4 := hff 4 _ rfl
    simp [Value.cells, Try.cellsI7, Try.cellsS7] at g0 g1 g2 g3 g4
    obtain ⟨z0, h0, _, _⟩ := DataW.trod_int Try.underlying3 g0
    obtain ⟨z1, h1, _, _⟩ := DataW.trod_int Try.underlying3 g1
    obtain ⟨z2, h2, _, w2⟩ := DataW.trod_int Try.underlying3 g2
    obtain ⟨z3, h3, _, _⟩ := DataW.trod_int Try.underlying3 g3
    obtain ⟨A, L, cc, rfl, hr, hl, hm⟩ := bytes_of7 Try.underlying22 Try.underlying5 Try.cellsB7 g4
    have e0 : a = .int .i64 z0 := by simpa using h0
    have e1 : b = .int .i64 z1 := by simpa using h1
    have e2 : c = .int .i64 z2 := by simpa using h2
    have e3 : e = .int .i64 z3 := by simpa using h3
    subst e0 e1 e2 e3
    exact ⟨⟨z0, z1, z2, z3, L⟩, A, cc, rfl, hr, hl, by unfold maxLen at hm; omega, wf7 w2⟩
end Go.Proofs.Ytepeoggacmaenaa
