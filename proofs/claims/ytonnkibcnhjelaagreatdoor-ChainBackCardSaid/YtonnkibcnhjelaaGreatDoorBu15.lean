/- Lemmas under the proofs of this place: GenOpen. No statement is proved here. -/
import Derived.Test.YtonnkibcnhjelaaGreatDoorBu09
import Derived.Test.YtonnkibcnhjelaaGreatDoorBu02
import Derived.Test.YtonnkibcnhjelaaGreatDoorBu05
set_option linter.unusedVariables false
namespace Go.Proofs.YtonnkibcnhjelaaGreatDoor
open Go.ChangeShapes Go.WideShapes Go.ChangeAt Go.RowKit
theorem bytes_of7 {H : Type} {enc : TypeId × Value → H} {P : Program} {W : World} {t e : TypeId} {fuel : Nat} {v : Value} {x : DataW H × List MemPlace} (ht : P.underlying t = some (.slice e)) (he : P.underlying e = some (.int .u8)) (hc : P.cellsOf e = 1)
    (hf : DataW.trod enc P W 0 (fun _ => true) true fuel t [v] = some x) :
    ∃ (A : Option Addr) (L : List UInt8) (c : Nat), v = .slice A L.length c ∧ RB W W.heap.size A L ∧ L.length ≤ c ∧ c ≤ maxLen := by
  rcases open_ints ht he hc hf with ⟨hcs, hx⟩ | ⟨a, len, cap, zs, hcs, _, hl, hm, hz, hx, hcell, hwz⟩
  · simp at hcs
    exact ⟨none, [], 0, hcs, RB.none_ _ _, Nat.le_refl _, Nat.zero_le _⟩
  · simp at hcs
    simp only [if_true] at hz
    have hll : (bytesOfInts (zs.take len)).length = len := by simp [bytesOfInts]; omega
    refine ⟨some a, bytesOfInts (zs.take len), cap, by rw [hll]; exact hcs, ?_, by rw [hll]; exact hl, hm⟩
    exact rb_of_ints len (by omega) hwz (by intro h; cases h) (fun a' ha c' hc' => by injection ha with ha; subst ha; exact hcell c' hc')
theorem Tryz.cellsI7 : Tryz.prog.cellsOf 3 = 1 := by kernel_rfl
theorem Tryz.cellsB7 : Tryz.prog.cellsOf 5 = 1 := by kernel_rfl
theorem Tryz.cellsS7 : Tryz.prog.cellsOf 39 = 1 := by kernel_rfl
end Go.Proofs.YtonnkibcnhjelaaGreatDoor
