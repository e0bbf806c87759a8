/- Lemmas under the proofs of this place: OpDrawM. No statement is proved here. -/
import Derived.Test.YtpcopmpmcjkamaaDoorBu31
import Derived.Test.YtpcopmpmcjkamaaDoorBu11
set_option linter.unusedSimpArgs false
set_option linter.unusedVariables false
namespace Go.Proofs.YtpcopmpmcjkamaaDoor
open Go.RowKit
theorem str_runO {o : Oper} {a : Act} {W : World} (x : Operand) (A : Option Addr) (n c : Nat) (t : ByteArray) (ho : o.op = .convert 24 9 x) (hx : a.eval x = .slice A n c) (hc : (convert 24 9 (.slice A n c)).run Tryd.prog W = .ok (.string t) W) : (execOp a.eval o).run Tryd.prog W = .ok (.value (.string t)) W := by
  unfold execOp
  simp only [ho, hx, Sem.run_bind, hc, Result.andThen_ok, Sem.run_pure]
theorem seql_runO {o : Oper} {a : Act} {W : World} (x y : Operand) (s : ByteArray) (ho : o.op = .binOp .eql 9 x y 9) (hx : a.eval x = .string s) (hy : a.eval y = .string s) : (execOp a.eval o).run Tryd.prog W = .ok (.value (.bool true)) W := by
  have hv : (binOp .eql 9 (.string s) (.string s)).run Tryd.prog W = .ok (.bool true) W := by simp [go_sem]
  have hg : (eqGuard .eql 9 x y (.string s) (.string s)).run Tryd.prog W = .ok () W := by unfold eqGuard; rfl
  unfold execOp
  simp only [ho, hx, hy, Sem.run_bind, hg, Result.andThen_ok, hv, Sem.run_pure]
theorem oeql_runO {o : Oper} {a : Act} {W : World} (x y : Operand) (k z : Int) (t1 t2 t3 : ByteArray) (ho : o.op = .binOp .eql 23 x y 23) (hx : a.eval x = .agg #[.int .i64 k, .string t1, .string t2, .int .i64 z, .string t3]) (hy : a.eval y = .agg #[.int .i64 k, .string t1, .string t2, .int .i64 z, .string t3]) : (execOp a.eval o).run Tryd.prog W = .ok (.value (.bool true)) W := by
  have hv := eq_op #[] k z t1 t2 t3 W
  have hg : (eqGuard .eql 23 x y (.agg #[.int .i64 k, .string t1, .string t2, .int .i64 z, .string t3]) (.agg #[.int .i64 k, .string t1, .string t2, .int .i64 z, .string t3])).run Tryd.prog W = .ok () W := by kernel_rfl
  unfold execOp
  simp only [ho, hx, hy, Sem.run_bind, hg, Result.andThen_ok, hv, Sem.run_pure]
theorem beql_runO {o : Oper} {a : Act} {W : World} (x y : Operand) (b : Bool) (ho : o.op = .binOp .eql 4 x y 4) (hx : a.eval x = .bool b) (hy : a.eval y = .bool b) : (execOp a.eval o).run Tryd.prog W = .ok (.value (.bool true)) W := by
  have hv : (binOp .eql 4 (.bool b) (.bool b)).run Tryd.prog W = .ok (.bool true) W := by simp [go_sem]
  have hg : (eqGuard .eql 4 x y (.bool b) (.bool b)).run Tryd.prog W = .ok () W := by unfold eqGuard; rfl
  unfold execOp
  simp only [ho, hx, hy, Sem.run_bind, hg, Result.andThen_ok, hv, Sem.run_pure]
theorem blk_range5 {W : World} {g : Nat} {t : TypeId} {a b c d e : Value} (h : Blk W g t #[a, b, c, d, e]) : W.rangeAt g 0 [a, b, c, d, e] := by
  obtain ⟨h0, h1, h2, h3, h4⟩ := blk5 h
  intro j v hj
  match j with
  | 0 => simp at hj; rw [← hj]; exact h0
  | 1 => simp at hj; rw [← hj]; exact h1
  | 2 => simp at hj; rw [← hj]; exact h2
  | 3 => simp at hj; rw [← hj]; exact h3
  | 4 => simp at hj; rw [← hj]; exact h4
  | j + 5 => simp at hj
end Go.Proofs.YtpcopmpmcjkamaaDoor
