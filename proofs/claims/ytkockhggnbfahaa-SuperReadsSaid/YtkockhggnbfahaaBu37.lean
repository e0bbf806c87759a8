/- Lemmas under the proofs of this place: SupSlots. No statement is proved here. -/
import Derived.Test.YtkockhggnbfahaaBu36
set_option linter.unusedVariables false
namespace Go.Proofs.Ytkockhggnbfahaa
open Go.ChangeShapes Go.WideShapes Go.ChangeAt Go.RowKit
theorem Try.cellsO8 : Try.prog.cellsOf 4 = 1 := by kernel_rfl
section
variable {H : Type} {enc : TypeId × Value → H} {W : World} {x : DataW H × List MemPlace} {cs : List Value} {fuel : Nat}
theorem two_at {α : Type} (l : List α) (h : l.length = 2) : ∃ a b, l = [a, b] := by
  match l, h with
  | [a, b], _ => exact ⟨a, b, rfl⟩
theorem two_u8 (h : DataW.trod enc Try.prog W 0 (fun _ => true) true fuel 37 cs = some x) (hl : cs.length = 2) : ∃ t0 t1 : UInt8, cs = [.int .u8 (t0.toNat : Int), .int .u8 (t1.toNat : Int)] := by
  obtain ⟨a, b, rfl⟩ := two_at cs hl
  obtain ⟨xs, m, _, _, _, hxl, hff⟩ := DataW.trod_array Try.underlying37 h
  obtain ⟨y0, y1, rfl⟩ := two_at xs hxl
  have g0 := hff 0 (by omega)
  have g1 := hff 1 (by omega)
  simp [Try.cellsB8] at g0 g1
  obtain ⟨z0, e0, _, w0⟩ := DataW.trod_int Try.underlying5 g0
  obtain ⟨z1, e1, _, w1⟩ := DataW.trod_int Try.underlying5 g1
  obtain ⟨t0, rfl⟩ := byte_of z0 w0
  obtain ⟨t1, rfl⟩ := byte_of z1 w1
  simp at e0 e1
  subst e0 e1
  exact ⟨t0, t1, rfl⟩
theorem two_bool (h : DataW.trod enc Try.prog W 0 (fun _ => true) true fuel 38 cs = some x) (hl : cs.length = 2) : ∃ t0 t1 : Bool, cs = [.bool t0, .bool t1] := by
  obtain ⟨a, b, rfl⟩ := two_at cs hl
  obtain ⟨xs, m, _, _, _, hxl, hff⟩ := DataW.trod_array Try.underlying38 h
  obtain ⟨y0, y1, rfl⟩ := two_at xs hxl
  have g0 := hff 0 (by omega)
  have g1 := hff 1 (by omega)
  simp [Try.cellsO8] at g0 g1
  obtain ⟨z0, e0, _⟩ := DataW.trod_bool Try.underlying4 g0
  obtain ⟨z1, e1, _⟩ := DataW.trod_bool Try.underlying4 g1
  simp at e0 e1
  subst e0 e1
  exact ⟨z0, z1, rfl⟩
def supL (s : Pu) : List Value := [.int .i64 s.gen, .int .i64 s.blocks, .int .i64 s.log, .int .i64 s.first, .int .i64 s.size, .int .i64 s.owner]
set_option maxRecDepth 100000 in
theorem sup_of (h : DataW.trod enc Try.prog W 0 (fun _ => true) true fuel 25 cs = some x) (hl : cs.length = 6) : ∃ s : Pu, cs = supL s := by
  obtain ⟨a, b, c, e, f, g, rfl⟩ := list6 cs (by simpa using hl)
  obtain ⟨xs, k, hk, hxy, _, hxl, hff⟩ := DataW.trod_struct Try.underlying25 h
  match xs, hxl with
  | [y0, y1, y2, y3], _ =>
    have g0 := hff 0 _ rfl
    have g1 := hff 1 _ rfl
    have g2 := hff 2 _ rfl
    have g3 := hff 3 _ rfl
    simp [Try.cellsI8, Try.cellsP8] at g0 g1 g2 g3
    obtain ⟨z0, h0, _, _⟩ := DataW.trod_int Try.underlying3 g0
    obtain ⟨z1, h1, _, _⟩ := DataW.trod_int Try.underlying3 g1
    obtain ⟨z2, h2, _, _⟩ := DataW.trod_int Try.underlying3 g2
    obtain ⟨xs3, k3, hk3, hxy3, _, hxl3, hff3⟩ := DataW.trod_struct Try.underlying23 g3
    match xs3, hxl3 with
    | [u0, u1, u2], _ =>
      have p0 := hff3 0 _ rfl
      have p1 := hff3 1 _ rfl
      have p2 := hff3 2 _ rfl
      simp [Try.cellsI8] at p0 p1 p2
      obtain ⟨z3, h3, _, _⟩ := DataW.trod_int Try.underlying3 p0
      obtain ⟨z4, h4, _, _⟩ := DataW.trod_int Try.underlying3 p1
      obtain ⟨z5, h5, _, _⟩ := DataW.trod_int Try.underlying3 p2
      simp at h0 h1 h2 h3 h4 h5
      subst h0 h1 h2 h3 h4 h5
      exact ⟨⟨z0, z1, z2, z3, z4, z5⟩, rfl⟩
theorem two_sup (h : DataW.trod enc Try.prog W 0 (fun _ => true) true fuel 36 cs = some x) (hl : cs.length = 12) : ∃ s0 s1 : Pu, cs = supL s0 ++ supL s1 := by
  obtain ⟨xs, m, _, _, _, hxl, hff⟩ := DataW.trod_array Try.underlying36 h
  obtain ⟨y0, y1, rfl⟩ := two_at xs hxl
  have g0 := hff 0 (by omega)
  have g1 := hff 1 (by omega)
  simp only [Try.cellsS8, Nat.zero_mul, Nat.one_mul, List.drop_zero, List.getElem?_cons_zero, List.getElem?_cons_succ] at g0 g1
  obtain ⟨s0, e0⟩ := sup_of g0 (by rw [List.length_take]; omega)
  obtain ⟨s1, e1⟩ := sup_of g1 (by rw [List.length_take, List.length_drop]; omega)
  refine ⟨s0, s1, ?_⟩
  rw [List.take_of_length_le (by rw [List.length_drop]; omega)] at e1
  rw [← e0, ← e1, List.take_append_drop]
end
theorem Try.cells2a : Try.prog.cellsOf 36 = 12 := by kernel_rfl
theorem Try.cells2b : Try.prog.cellsOf 37 = 2 := by kernel_rfl
theorem Try.cells2c : Try.prog.cellsOf 38 = 2 := by kernel_rfl
theorem Try.cells20 : Try.prog.cellsOf 40 = 20 := by kernel_rfl
def slotL (s0 s1 : Pu) (x0 x1 : UInt8) (h0 h1 : Bool) (a0 a1 t0 t1 : UInt8) : List Value := (supL s0 ++ supL s1) ++ (([.int .u8 (x0.toNat : Int), .int .u8 (x1.toNat : Int)] : List Value) ++ (([.bool h0, .bool h1] : List Value) ++ (([.int .u8 (a0.toNat : Int), .int .u8 (a1.toNat : Int)] : List Value) ++ ([.int .u8 (t0.toNat : Int), .int .u8 (t1.toNat : Int)] : List Value))))
theorem split20 (l : List Value) (h : l.length = 20) : l = (l.drop 0).take 12 ++ ((l.drop 12).take 2 ++ ((l.drop 14).take 2 ++ ((l.drop 16).take 2 ++ (l.drop 18).take 2))) := by
  have h18 : (l.drop 18).take 2 = l.drop 18 := List.take_of_length_le (by rw [List.length_drop]; omega)
  have hk : ∀ k m, (l.drop k).take m ++ l.drop (k + m) = l.drop k := fun k m => by
    rw [← List.drop_drop]
    exact List.take_append_drop _ _
  rw [h18, hk 16 2, hk 14 2, hk 12 2, hk 0 12]
  rfl
set_option maxRecDepth 100000 in
theorem open_slots {H : Type} {enc : TypeId × Value → H} {W : World} {base : Nat} {v : Value} {d : DataW H} {ps : List MemPlace} (hv : Value.okWide Try.prog W .any base 40 v) (h : DataW.Trod enc Try.prog W 0 (fun _ => true) true 40 v d ps) :
    ∃ (s0 s1 : Pu) (x0 x1 : UInt8) (h0 h1 : Bool) (a0 a1 t0 t1 : UInt8), v = .agg (slotL s0 s1 x0 x1 h0 h1 a0 a1 t0 t1).toArray := by
  obtain ⟨cs, rfl, hsz⟩ := okWide_struct Try.underlying40 hv
  rw [Try.cells20] at hsz
  obtain ⟨l⟩ := cs
  have hl : l.length = 20 := by simpa using hsz
  obtain ⟨fuel, hf⟩ := h
  obtain ⟨xs, k, hk, hxy, _, hxl, hff⟩ := DataW.trod_struct Try.underlying40 hf
  match xs, hxl with
  | [y0, y1, y2, y3, y4], _ =>
    have g0 := hff 0 _ rfl
    have g1 := hff 1 _ rfl
    have g2 := hff 2 _ rfl
    have g3 := hff 3 _ rfl
    have g4 := hff 4 _ rfl
    simp [Value.cells, Try.cells2a, Try.cells2b, Try.cells2c] at g0 g1 g2 g3 g4
    obtain ⟨s0, s1, e0⟩ := two_sup g0 (by simp only [List.length_take]; omega)
    obtain ⟨x0, x1, e1⟩ := two_u8 g1 (by simp only [List.length_take, List.length_drop]; omega)
    obtain ⟨b0, b1, e2⟩ := two_bool g2 (by simp only [List.length_take, List.length_drop]; omega)
    obtain ⟨a0, a1, e3⟩ := two_u8 g3 (by simp only [List.length_take, List.length_drop]; omega)
    obtain ⟨t0, t1, e4⟩ := two_u8 g4 (by simp only [List.length_take, List.length_drop]; omega)
    refine ⟨s0, s1, x0, x1, b0, b1, a0, a1, t0, t1, ?_⟩
    have hs := split20 l hl
    rw [show (l.drop 0).take 12 = supL s0 ++ supL s1 from e0, show (l.drop 12).take 2 = _ from e1, show (l.drop 14).take 2 = _ from e2, show (l.drop 16).take 2 = _ from e3, show (l.drop 18).take 2 = _ from e4] at hs
    exact congrArg (fun (z : List Value) => Value.agg z.toArray) hs
end Go.Proofs.Ytkockhggnbfahaa
