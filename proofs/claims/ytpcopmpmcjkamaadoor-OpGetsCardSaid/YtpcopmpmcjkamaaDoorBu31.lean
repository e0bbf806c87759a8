/- Lemmas under the proofs of this place: OpLawM. No statement is proved here. -/
import Derived.Test.YtpcopmpmcjkamaaDoorBu30
import Derived.Test.YtpcopmpmcjkamaaDoorBu29
import Derived.Test.YtpcopmpmcjkamaaDoorRows
import Derived.Test.YtpcopmpmcjkamaaDoorBu02
import Derived.Lib.LaidTab
import Derived.LaidMore
import Derived.Stop.LaidErr
import Derived.Stop.Joined
import Derived.OpenShut
set_option linter.unusedSimpArgs false
set_option linter.unusedVariables false
namespace Go.Proofs.YtpcopmpmcjkamaaDoor
open Go.ChangeShapes Go.WideShapes Go.ChangeAt Go.RowKit
def Opn.out (o : Opn) : List UInt8 := if o.mayB = true then o.bytes else []
def Opn.err (o : Opn) : Int := if o.mayB = true then 0 else 1
theorem puts_out {o : Opn} {w w' : World} {e : Ending} (h : PutsO o w e w') : ∃ A c, e = .returned (.tuple #[.slice A o.out.length c, .int .i64 o.err]) ∧ Hid (RB w' w'.heap.size A o.out) ∧ Below w.heap.size w w' := by
  unfold PutsO at h
  unfold Opn.out Opn.err
  cases hm : o.mayB with
  | false =>
    rw [hm, if_neg (by simp)] at h
    rw [if_neg (by simp), if_neg (by simp)]
    exact ⟨none, 0, h.1, RB.none_ _ _, h.2⟩
  | true =>
    rw [hm, if_pos rfl] at h
    rw [if_pos rfl, if_pos rfl]
    obtain ⟨A, c, q1, q2, q3⟩ := h
    exact ⟨A, c, q1, own_rb q2, q3⟩
theorem out_len (o : Opn) : o.out.length ≤ 96 := by
  unfold Opn.out
  cases hm : o.mayB with
  | false => rw [if_neg (by simp)]; simp
  | true => rw [if_pos rfl]; exact bytes_len ((mayB_iff o).1 hm)
theorem getE_parts (r : Option (Opn × Nat)) : ∃ (k : Int) (t1 t2 : ByteArray) (z : Int) (t3 : ByteArray) (s e : Int), getE r = .returned (.tuple #[.agg #[.int .i64 k, .string t1, .string t2, .int .i64 z, .string t3], .int .i64 s, .int .i64 e]) := by
  rcases r with _ | ⟨o, k⟩
  · exact ⟨_, _, _, _, _, _, _, rfl⟩
  · exact ⟨_, _, _, _, _, _, _, rfl⟩
theorem eq_op (cs : Array Value) (k z : Int) (t1 t2 t3 : ByteArray) (W : World) : (binOp .eql 23 (.agg #[.int .i64 k, .string t1, .string t2, .int .i64 z, .string t3]) (.agg #[.int .i64 k, .string t1, .string t2, .int .i64 z, .string t3])).run Tryd.prog W = .ok (.bool true) W := by
  simp [go_sem]
def laidO : List (String × DataW Unit) := [("math/bits.deBruijn32tab", Rows.laid_math_bits_deBruijn32tab), ("math/bits.deBruijn64tab", Rows.laid_math_bits_deBruijn64tab), ("internal/strconv.uint64pow10", Rows.laid_internal_strconv_uint64pow10)]
theorem Tryd.gTen : Tryd.prog.globalNamed "internal/strconv.uint64pow10" = some 0 := by kernel_rfl
theorem Tryd.tTen : (Tryd.prog.globals[0]?).map (·.type) = some 91 := by kernel_rfl
theorem Tryd.cellsU64 : Tryd.prog.cellsOf 78 = 1 := by kernel_rfl
theorem Tryd.cells20 : Tryd.prog.cellsOf 91 = 20 := by kernel_rfl
theorem doorO_met (os : Os) (args : Array Value) : laidMetH Tryd.prog laidO ((World.doorLaid Tryd.prog 400 os).forCall (fun _ _ => 0) ⟨#[], args, []⟩).memory :=
  laidMetH_of_parts3 (fuel := 8) (laidMet_of_run' 8 (by kernel_rfl) (by kernel_rfl)) (by kernel_rfl) (by kernel_rfl)
theorem ten_tab : (Rows.laid_internal_strconv_uint64pow10 : DataW Unit) = Lib.tabData .u64 Lib.pow10Tab := rfl
theorem ten_of_laid {W : World} (h : laidMetH Tryd.prog laidO W) : TenT W := by
  rw [MakeChecks.laidMetH_plain _ _ _ (by kernel_rfl)] at h
  have h3 := h.tail.tail
  rw [ten_tab] at h3
  exact Lib.tabIs_of_head Tryd.gTen Tryd.tTen Tryd.underlying91 Tryd.underlying78 Tryd.cellsU64 Tryd.cells20 h3
theorem Tryd.cellsOp : Tryd.prog.cellsOf 23 = 5 := by kernel_rfl
theorem Tryd.cellsIO : Tryd.prog.cellsOf 3 = 1 := by kernel_rfl
theorem Tryd.cellsSO : Tryd.prog.cellsOf 9 = 1 := by kernel_rfl
theorem list5O {α : Type} (l : List α) (h : l.toArray.size = 5) : ∃ a b c d e, l = [a, b, c, d, e] := by
  match l, h with
  | [a, b, c, d, e], _ => exact ⟨a, b, c, d, e, rfl⟩
theorem text_of (s : ByteArray) : s = text s.data.toList := by cases s; rfl
theorem open_opn {H : Type} {enc : TypeId × Value → H} {W : World} {base : Nat} {v : Value} {d : DataW H} {ps : List MemPlace} (hv : Value.okWide Tryd.prog W .any base 23 v) (h : DataW.Trod enc Tryd.prog W 0 (fun _ => true) true 23 v d ps) :
    ∃ o : Opn, v = opV o := by
  obtain ⟨cs, rfl, hsz⟩ := okWide_struct Tryd.underlying23 hv
  rw [Tryd.cellsOp] at hsz
  obtain ⟨cl⟩ := cs
  obtain ⟨a, b, c, f, g, rfl⟩ := list5O cl hsz
  obtain ⟨fuel, hf⟩ := h
  obtain ⟨xs, k, hk, hxy, _, hxl, hff⟩ := DataW.trod_struct Tryd.underlying23 hf
  match xs, hxl with
  | [y0, y1, y2, y3, y4], _ =>
    have g0 := hff 0 _ rfl
    have g1 := hff 1 _ rfl
    have g2 := hff 2 _ rfl
    have g3 := hff 3 _ rfl
    have g4 := hff 4 _ rfl
    simp [Value.cells, Tryd.cellsIO, Tryd.cellsSO] at g0 g1 g2 g3 g4
    obtain ⟨z0, h0, _, _⟩ := DataW.trod_int Tryd.underlying3 g0
    obtain ⟨z3, h3, _, _⟩ := DataW.trod_int Tryd.underlying3 g3
    obtain ⟨x1, h1, _, _⟩ := DataW.trod_string Tryd.underlying9 g1
    obtain ⟨x2, h2, _, _⟩ := DataW.trod_string Tryd.underlying9 g2
    obtain ⟨x4, h4, _, _⟩ := DataW.trod_string Tryd.underlying9 g4
    have e0 : a = .int .i64 z0 := by simpa using h0
    have e1 : b = .string x1 := by simpa using h1
    have e2 : c = .string x2 := by simpa using h2
    have e3 : f = .int .i64 z3 := by simpa using h3
    have e4 : g = .string x4 := by simpa using h4
    subst e0 e1 e2 e3 e4
    refine ⟨⟨z0, x1.data.toList, x2.data.toList, z3, x4.data.toList⟩, ?_⟩
    show _ = Value.agg #[.int .i64 z0, .string (text x1.data.toList), .string (text x2.data.toList), .int .i64 z3, .string (text x4.data.toList)]
    rw [← text_of x1, ← text_of x2, ← text_of x4]
end Go.Proofs.YtpcopmpmcjkamaaDoor
