/- Lemmas under the proofs of this place: GenOpen. No statement is proved here. -/
import Derived.Test.YtpedgkghfehkjaaBu08
import Derived.Test.YtpedgkghfehkjaaBu02
import Derived.Test.YtpedgkghfehkjaaBu04
set_option linter.unusedVariables false
namespace Go.Proofs.Ytpedgkghfehkjaa
open Go.ChangeShapes Go.WideShapes Go.ChangeAt Go.RowKit
theorem bytes_of7 {H : Type} {enc : TypeId × Value → H} {P : Program} {W : World} {t e : TypeId} {fuel : Nat} {v : Value} {x : DataW H × List MemPlace} (ht : P.underlying t = some (.slice e)) (he : P.underlying e = some (.int .u8)) (hc : P.cellsOf e = 1)
    (hf : DataW.trod enc P W 0 (fun _ => true) true fuel t [v] = some x) :
    ∃ (A : Option Addr) (L : List UInt8) (c : Nat), v = .slice A L.length c ∧ RB W W.heap.size A L ∧ L.length ≤ c ∧ c ≤ maxLen := by
  rcases open_ints ht he hc hf with ⟨hcs, hx⟩ | ⟨a, len, cap, zs, hcs, _, hl, hm, hz, hx, hcell, hwz⟩
  · simp at hcs
    exact ⟨none, [], 0, hcs, RB.none_ _ _, Nat.le_refl _, Nat.zero_le _⟩
  · simp at hcs
    simp only [if_true] at hz
    have hll : (bytesOfInts (zs.take len)).length = len := by simp [bytesOfInts]; omega
    refine ⟨some a, bytesOfInts (zs.take len), cap, by rw [hll]; exact hcs, ?_, by rw [hll]; exact hl, hm⟩
    exact rb_of_ints len (by omega) hwz (by intro h; cases h) (fun a' ha c' hc' => by injection ha with ha; subst ha; exact hcell c' hc')
theorem Try.cellsI7 : Try.prog.cellsOf 3 = 1 := by kernel_rfl
theorem Try.cellsB7 : Try.prog.cellsOf 5 = 1 := by kernel_rfl
theorem Try.cellsS7 : Try.prog.cellsOf 22 = 1 := by kernel_rfl
theorem wf7 {z : Int} (h : (Lit.int .i64 z).wf = true) : -9223372036854775808 ≤ z ∧ z ≤ 9223372036854775807 := by
  simpa [Lit.wf, IntKind.min, IntKind.max, IntKind.bits, IntKind.signed] using h
end Go.Proofs.Ytpedgkghfehkjaa
