/- Lemmas under the proofs of this place: Letters. No statement is proved here. -/
import Derived.Test.YtinphkflfdpaeaaDoorBu00
import Derived.Deep.WholeRow
import Derived.Deep.MidRow
import Derived.Great.Walk
import Derived.Great.Ranges
import Derived.Great.BuildSlice
import Derived.Lib.Hide
import Derived.BigQuiet
set_option linter.unusedVariables false
namespace Go.Proofs.YtinphkflfdpaeaaDoor
open Go.RowKit
theorem run_index_row {P : Program} {w : World} {t e : TypeId} {n : Nat} {cs : Array Value} {i : Int} {k : Nat} {v : Value} (hu : P.underlying t = some (.array n e)) (hs : (P.info? e).map (·.size) = some 1)
    (hd : ∀ d, P.underlying e = some d → d.isRow = false) (hd1 : (P.underlying e).isSome = true) (hi : i = (k : Int)) (hk : k < n) (hv : cs[k]? = some v) :
    (Instr.index t (.agg cs) (.int .i64 i)).run P w = .ok v w := by
  subst hi
  cases hq : P.info? e with
  | none => simp [hq] at hs
  | some x =>
    have hx : x.size = 1 := by simpa [hq] using hs
    obtain ⟨d, hd2⟩ := Option.isSome_iff_exists.1 hd1
    have hda := hd d hd2
    have hagg : (isAgg e).run P w = .ok false w := by
      unfold isAgg
      rw [Sem.run_bind, run_underlying hd2 w]
      cases d <;> simp_all
    simp [Instr.index, asIntOf, run_underlying hu, sizeOf, typeInfo, hq, hx, part, hagg, hv]
    intro hx
    omega
theorem wpList_box_letter {P : Program} {ops : Array Oper} {rest : List Oper} {o : Oper} {a : Act} {w : World} {Q : Exit → Act → World → Prop} (hg : o.guard = none) (t : TypeId) (x : Operand) (ho : o.op = .box t x)
    (dst : Option Tmp) (hdst : o.dst = dst) (cs : Array Value) (hx : a.eval x = .agg cs)
    (h : ∀ g W, Hid (W = w.alloc (.cells cs t)) → Hid (g = w.heap.size) → wpList P ops Q rest (a.put dst (.pointer (some ⟨g, 0, none⟩))) W) : wpList P ops Q (o :: rest) a w :=
  Great.wpList_boxTo hg t x ho dst hdst w.heap.size rfl cs (by rw [hx]; rfl) (h _ _ (Lib.hid rfl) (Lib.hid rfl))
theorem wpList_alloc_letter {P : Program} {ops : Array Oper} {rest : List Oper} {o : Oper} {a : Act} {w : World} {Q : Exit → Act → World → Prop} (hg : o.guard = none) (t : TypeId) (ho : o.op = .alloc t)
    (dst : Option Tmp) (hdst : o.dst = dst) (cs : Array Value) (hz : (P.info? t).map (fun i => (i.zero, i.size)) = some (some (.agg cs), cs.size))
    (h : ∀ g W, Hid (W = w.alloc (.cells cs t)) → Hid (g = w.heap.size) → wpList P ops Q rest (a.put dst (.pointer (some ⟨g, 0, none⟩))) W) : wpList P ops Q (o :: rest) a w := by
  have hz1 := (zero_of_info hz).1
  refine wpList_plain hg fun K hK => ?_
  unfold Oper.wp execOp
  subst hdst
  simp only [ho, Sem.run_bind, Instr.alloc, newVar, newRow, hz1, run_newObj_alloc, Sem.run_pure, Result.andThen_ok, Value.cells]
  exact hK _ _ (h _ _ (Lib.hid rfl) (Lib.hid rfl))
theorem letter_blk {w W : World} {g : Nat} {t : TypeId} {cs : Array Value} (hW : Hid (W = w.alloc (.cells cs t))) (hg : Hid (g = w.heap.size)) : Blk W g t cs := by
  rw [hW.out, hg.out]; exact Blk.new w t cs
theorem letter_below {B : Nat} {w0 w W : World} {o : Obj} (hW : Hid (W = w.alloc o)) (hb : Below B w0 w) (hB : B ≤ w.heap.size) : Below B w0 W := by
  rw [hW.out]; exact hb.alloc hB o
theorem letter_keeps {w W : World} {g : Nat} {t : TypeId} {cs : Array Value} {o : Obj} (hW : Hid (W = w.alloc o)) (h : Blk w g t cs) : Blk W g t cs := by
  rw [hW.out]; exact h.alloc o
theorem letter_size {w W : World} {o : Obj} (hW : Hid (W = w.alloc o)) : W.heap.size = w.heap.size + 1 := by
  rw [hW.out]; simp
theorem quiet_same {P : Program} {f : FuncId} {args : Array Value} {w : World} {n : Nat} {v : Value} (h : Hid (∀ V, Calls P f args V fun e w' => e = .returned v ∧ V = w')) :
    Calls P f args (w.drewN n) fun e w'' => e = .returned v ∧ ∃ m, w'' = w.drewN m :=
  Calls.quiet_of_same ((h.out _).mono fun _ _ h => ⟨h.1, h.2.symm⟩)
end Go.Proofs.YtinphkflfdpaeaaDoor
