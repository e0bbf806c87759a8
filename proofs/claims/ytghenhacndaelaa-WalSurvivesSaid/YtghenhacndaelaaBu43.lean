/- Lemmas under the proofs of this place: WalSurvL. No statement is proved here. -/
import Derived.Test.YtghenhacndaelaaBu42
import Derived.Test.YtghenhacndaelaaBu41
import Derived.Test.YtghenhacndaelaaBu12
set_option linter.unusedSimpArgs false
set_option linter.unusedVariables false
namespace Go.Proofs.Ytghenhacndaelaa
open Go.ChangeShapes Go.WideShapes Go.ChangeAt Go.RowKit
open Wal
theorem Try.textsInfo13 : (Try.prog.info? 38).map (fun i => (i.zero, i.size, i.bytes)) = some (some (.slice none 0 0), 1, 24) := by kernel_rfl
theorem addL13 (b off k : Nat) : (⟨b, off, none⟩ : Addr).add k = ⟨b, off + k, none⟩ := by simp [Addr.add]
theorem op_valueL {P : Program} {ops : Array Oper} {Q : Exit → Act → World → Prop} {i : Nat} {oi : Oper} {K : Act → World → Prop} {a : Act} {w w' : World} (v : Value) (d : Nat) (hi : ops[i]? = some oi) (hd : oi.dst = some d) (hw : Region.wanted oi (yielded ops a.tmps) = true) (hy : (execOp a.eval oi).run P w = .ok (.value v) w')
    (h : K (a.put (some d) v) w') : wpOp P ops Q i K a w := by
  rw [← hd] at h
  exact op_value v hi hw hy rfl h
theorem row_kept13 {w w' : World} {base n : Nat} {v : Value} {xs : List Value} (h : w.ownsRow base 38 1 v n xs) (hb : Below w.heap.size w w') : w'.ownsRow base 38 1 v n xs :=
  World.ownsRow.kept h (row := none) ⟨hb.os, hb.tape, hb.output, hb.size, fun i hi _ => hb.block i hi⟩ (Classical.em _)
theorem own_slice13 {w : World} {base n : Nat} {v : Value} {xs : List Value} (h : w.ownsRow base 38 1 v n xs) : ∃ A c, v = .slice A n c := by
  rcases h.2 with ⟨rfl, rfl⟩ | ⟨g, cap, cur, rfl, _⟩
  · exact ⟨none, 0, rfl⟩
  · exact ⟨_, _, rfl⟩
theorem own_cap13 {w : World} {base n c : Nat} {A : Option Addr} {xs : List Value} (h : w.ownsRow base 38 1 (.slice A n c) n xs) : n ≤ c ∧ c ≤ 9223372036854775807 := by
  rcases h.2 with ⟨h1, h2⟩ | ⟨g, cap, cur, he, _, _, h4, h5, _⟩
  · simp only [Value.slice.injEq] at h1
    omega
  · simp only [Value.slice.injEq] at he
    obtain ⟨-, -, rfl⟩ := he
    exact ⟨h4, by simpa [maxLen] using h5⟩
theorem text_grown {w w1 w' : World} {v0 : Value} {g : Nat} {row : Option Nat} (hc : w.cell? ⟨g, 0, none⟩ = some v0) (hg : w.grownBy w' row) (hne : some g ≠ row) : Reads w' (g + 1) 1 (some ⟨g, 0, none⟩) 1 [v0] := by
  refine ⟨rfl, fun _ => ⟨_, rfl, by simp, fun j u hu => ?_⟩⟩
  have h0 := hg.cell hc hne
  cases j with
  | zero =>
    simp at hu
    subst hu
    exact h0
  | succ j => simp at hu
theorem SvI.reads {w W : World} {g lg i k n : Nat} {A : Option Addr} {c : Nat} (h : SvI w W g lg i k n A c) : ∃ news : List Value, Reads W W.heap.size 1 A n news ∧ (∀ u ∈ news, u.oneCell' = true) ∧
    ∀ (W' : World) (v : Value) (T : Option Addr) (t : List UInt8) (ln cT : Nat), Below W.heap.size W W' → W'.ownsRow W.heap.size 38 1 v (n + 1) (news ++ [.slice T ln cT]) → ln = t.length → RB w w.heap.size T t → ∃ A6 c6, v = .slice A6 (n + 1) c6 ∧ Hid (SvL w W' g lg i k n A c A6 c6 t) := by
  obtain ⟨F, E, d, l, all, h1, h2, h3, h4, h5, h6⟩ := h
  obtain ⟨news, q1, q2, q3⟩ := h4.reads
  refine ⟨news, by rw [h5]; exact q1, q3, fun W' v T t ln cT hb ho hl hr => ?_⟩
  obtain ⟨A6, c6, rfl⟩ := own_slice13 ho
  have hall := h1.all
  have hlt := h1.lt
  have hsz : w.heap.size ≤ W.heap.size := h1.has.below.size
  have hr2 : RB W' W'.heap.size T t := (((hr.below h1.has.below).more h1.has.below.size).below hb).more hb.size
  have hT : 0 < t.length → ∀ ad, T = some ad → ¬ (F ad.block ∨ E ad.block) := fun h0 ad e hx => by
    have := rb_block hr h0 ad e
    have := hall _ hx
    omega
  have hN := (q2.up hb).snoc (c := cT) hl hr2 hT
  refine ⟨A6, c6, rfl, F, E, d, l, all, h1.up hb, h2, h3, h4.up hb, ?_, h5, h6, own_cap13 ho⟩
  exact BLw.row ho hN (by rw [List.length_append]; simp [h5]) fun k hk _ hx => by have := hlt k hx; omega
theorem lidx_run {o : Oper} {a : Act} {W : World} (x y : Operand) (b off n c i : Nat) (ho : o.op = .indexAddr 22 x y) (hx : a.eval x = .slice (some ⟨b, off, none⟩) n c) (hy : a.eval y = .int .i64 (i : Int)) (hi : i < n) :
    (execOp a.eval o).run Try.prog W = .ok (.value (.pointer (some ⟨b, off + i * 3, none⟩))) W := by
  have hu : (underlying 22).run Try.prog W = .ok (.slice 36) W := by kernel_rfl
  have hs : (sizeOf 36).run Try.prog W = .ok 3 W := by kernel_rfl
  unfold execOp
  simp [ho, hx, hy, Instr.indexAt, asIntOf, hu, hi, hs, addL13]
theorem lfld_run {o : Oper} {a : Act} {W : World} (x : Operand) (b off : Nat) (ho : o.op = .fieldAddr 36 x 1) (hx : a.eval x = .pointer (some ⟨b, off, none⟩)) : (execOp a.eval o).run Try.prog W = .ok (.value (.pointer (some ⟨b, off + 1, none⟩))) W := by
  unfold execOp
  simp only [ho, hx]
  kernel_rfl
theorem tidx_run {o : Oper} {a : Act} {W : World} (x y : Operand) (b off n c i : Nat) (ho : o.op = .indexAddr 28 x y) (hx : a.eval x = .slice (some ⟨b, off, none⟩) n c) (hy : a.eval y = .int .i64 (i : Int)) (hi : i < n) :
    (execOp a.eval o).run Try.prog W = .ok (.value (.pointer (some ⟨b, off + i, none⟩))) W := by
  have hu : (underlying 28).run Try.prog W = .ok (.slice 38) W := by kernel_rfl
  have hs : (sizeOf 38).run Try.prog W = .ok 1 W := by kernel_rfl
  unfold execOp
  simp [ho, hx, hy, Instr.indexAt, asIntOf, hu, hi, hs, addL13]
end Go.Proofs.Ytghenhacndaelaa
