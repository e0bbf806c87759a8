/- Lemmas under the proofs of this place: Drawn, OpenParts. No statement is proved here. -/
import Derived.Test.YtpedgkghfehkjaaBu01
import Derived.Test.YtpedgkghfehkjaaBu00
import Derived.Test.YtpedgkghfehkjaaBu02
import Derived.Deep.RegionWith
import Derived.Deep.WholeRow
import Derived.Deep.MidRow
import Derived.Great.Walk
import Derived.Great.Ranges
import Derived.Great.BuildSlice
import Derived.Lib.Hide
import Derived.BigQuiet
import Derived.Deep.Matrix
section
set_option linter.unusedVariables false
namespace Go.Proofs.Ytpedgkghfehkjaa
open Go.RowKit
section
variable {P : Program} {ops : Array Oper} {Q : Exit → Act → World → Prop} {md : Region.Mode}
theorem op_value {i : Nat} {oi : Oper} {K : Act → World → Prop} {a a' : Act} {w w' : World} (v : Value) (hi : ops[i]? = some oi) (hw : Region.wanted oi (yielded ops a.tmps) = true) (hy : (execOp a.eval oi).run P w = .ok (.value v) w') (ha : a.put oi.dst v = a')
    (h : K a' w') : wpOp P ops Q i K a w := by
  subst ha
  refine wpOp_step hi fun K' hK => ?_
  rw [if_pos hw]
  unfold Oper.wp
  rw [hy]
  exact hK _ _ h
theorem op_enter {i : Nat} {oi : Oper} {K : Act → World → Prop} {a : Act} {w : World} (f : FuncId) (args : Array Value) (dst : Option Tmp) (hi : ops[i]? = some oi) (hw : Region.wanted oi (yielded ops a.tmps) = true) (hy : (execOp a.eval oi).run P w = .ok (.enter f args) w) (hd : oi.dst = dst)
    (h : Calls P f args w fun e w' => ∃ v, e = .returned v ∧ K (a.put dst v) w') : wpOp P ops Q i K a w := by
  subst hd
  refine wpOp_step hi fun K' hK => ?_
  rw [if_pos hw]
  unfold Oper.wp
  rw [hy, Oper.upon_enter]
  refine h.mono ?_
  rintro e w' ⟨v, rfl, hv⟩
  exact hK _ _ hv
theorem load_run {o : Oper} {a : Act} {w : World} (ty : TypeId) (x : Operand) (b off : Nat) (cs : List Value) (d : TypeDesc) (ho : o.op = .load ty x) (hx : a.eval x = .pointer (some ⟨b, off, none⟩)) (hc : w.rangeAt b off cs)
    (hu : P.underlying ty = some d) (hd : d.isRow = true) (hi : (P.info? ty).map (·.size) = some cs.length) (C : Array Value) (hC : cs.toArray = C) : (execOp a.eval o).run P w = .ok (.value (.agg C)) w := by
  subst hC
  unfold execOp
  simp only [ho, hx, Instr.loadAt, Instr.sureAddr, Sem.run_bind, Sem.run_pure, Result.andThen_ok, run_loadVar_mid w b off ty cs d hc hu hd hi]
end
end Go.Proofs.Ytpedgkghfehkjaa
end
section
set_option linter.unusedVariables false
namespace Go.Proofs.Ytpedgkghfehkjaa
open Go.ChangeShapes Go.WideShapes Go.ChangeAt Go.RowKit
def bytesOfInts (zs : List Int) : List UInt8 := zs.map fun z => UInt8.ofNat z.toNat
theorem cells_of_ints (zs : List Int) (h : ∀ n ∈ zs, (Lit.int .u8 n).wf = true) : cells (bytesOfInts zs) = zs.map (Value.int .u8) := by
  unfold cells bytesOfInts
  rw [List.map_map]
  apply List.map_congr_left
  intro z hz'
  have hw := h z hz'
  have hb : 0 ≤ z ∧ z ≤ 255 := by simpa [Lit.wf, IntKind.min, IntKind.max, IntKind.signed, IntKind.bits] using hw
  show Value.int .u8 _ = Value.int .u8 z
  rw [ofNat_toNat _ (by omega)]
  congr 1
  omega
theorem rb_of_ints {W : World} {A : Option Addr} {zs : List Int} (len : Nat) (hl : len ≤ zs.length) (hw : ∀ n ∈ zs, (Lit.int .u8 n).wf = true)
    (hA : A = none → zs.length = 0) (hc : ∀ a, A = some a → ∀ c, c < zs.length → W.cell? (a.add c) = some (.int .u8 (zs.getD c 0))) : RB W W.heap.size A (bytesOfInts (zs.take len)) := by
  have hlen : (zs.take len).length = len := by rw [List.length_take]; omega
  unfold RB
  rw [cells_of_ints _ (fun n hn => hw n (List.mem_of_mem_take hn))]
  refine ⟨by simp [bytesOfInts], fun hn => ?_⟩
  have hn' : 0 < len := by simp [bytesOfInts] at hn; omega
  rcases A with _ | a
  · have := hA rfl; omega
  · have h0 := hc a rfl 0 (by omega)
    have hblk := World.block_lt_of_cell? W _ h0
    refine ⟨a, rfl, by rw [block_of_add] at hblk; exact hblk, fun j u hu => ?_⟩
    rw [List.getElem?_map, List.getElem?_take] at hu
    split at hu
    · rename_i hj
      rw [hc a rfl j (by omega)]
      rw [List.getElem?_eq_getElem (by omega)] at hu
      simp only [Option.map_some, Option.some.injEq] at hu
      rw [← hu]
      simp [List.getD, List.getElem?_eq_getElem (show j < zs.length by omega)]
    · cases hu
def Parts (w : World) (B : Nat) (A : Option Addr) (Ls : List (List UInt8)) : Prop :=
  0 < Ls.length → ∃ b off, A = some ⟨b, off, none⟩ ∧ b < B ∧ ∀ i (hi : i < Ls.length), ∃ (Ai : Option Addr) (ci : Nat), w.cell? ⟨b, off + i, none⟩ = some (.slice Ai Ls[i].length ci) ∧ RB w B Ai Ls[i] ∧ Ls[i].length ≤ ci ∧ ci ≤ maxLen
theorem Parts.below {w w' : World} {B : Nat} {A : Option Addr} {Ls : List (List UInt8)} (h : Parts w B A Ls) (hb : Below B w w') : Parts w' B A Ls := fun hn => by
  obtain ⟨b, off, e, hlt, hc⟩ := h hn
  refine ⟨b, off, e, hlt, fun i hi => ?_⟩
  obtain ⟨Ai, ci, h1, h2, h3, h4⟩ := hc i hi
  exact ⟨Ai, ci, (hb.cell (p := ⟨b, off + i, none⟩) hlt).trans h1, h2.below hb, h3, h4⟩
end Go.Proofs.Ytpedgkghfehkjaa
end
