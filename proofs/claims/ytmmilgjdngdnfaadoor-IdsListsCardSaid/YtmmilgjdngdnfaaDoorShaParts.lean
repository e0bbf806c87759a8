/- Plain mathematics of bytes that come in parts: what a state and the bytes that wait are good for. Nothing of the program. -/
import Derived.Test.YtmmilgjdngdnfaaDoorShaPlain
set_option linter.unusedVariables false
namespace Go.Proofs.YtmmilgjdngdnfaaDoor

/-- Blocks look at their own bytes alone. -/
theorem blocksK_front (s : S8) (X Y : List UInt8) : ∀ k, 64 * k ≤ X.length → blocksK s (X ++ Y) k = blocksK s X k := by
  intro k
  induction k with
  | zero => intro _; rfl
  | succ k ih =>
    intro h
    have e : ((X ++ Y).drop (64 * k)).take 64 = (X.drop (64 * k)).take 64 := by
      rw [List.drop_append_of_le_length (by omega), List.take_append_of_le_length (by rw [List.length_drop]; omega)]
    rw [blocksK, blocksK, ih (by omega), e]
/-- Some blocks, then others. -/
theorem blocksK_add (s : S8) (P : List UInt8) (j : Nat) : ∀ k, blocksK s P (j + k) = blocksK (blocksK s P j) (P.drop (64 * j)) k := by
  intro k
  induction k with
  | zero => rfl
  | succ k ih =>
    have e : ((P.drop (64 * j)).drop (64 * k)).take 64 = (P.drop (64 * (j + k))).take 64 := by rw [List.drop_drop, Nat.mul_add]
    rw [← Nat.add_assoc, blocksK, blocksK, ih, e]
/-- What has been taken in: all whole blocks; what waits: the rest. -/
def doneK (L : List UInt8) : Nat := L.length / 64
def stateL (L : List UInt8) : S8 := blocksK s0 L (doneK L)
def restL (L : List UInt8) : List UInt8 := L.drop (64 * doneK L)
theorem restL_length (L : List UInt8) : (restL L).length = L.length % 64 := by unfold restL doneK; rw [List.length_drop]; omega
/-- More bytes behind: the state goes on from where it stands, over what waits and the new ones. -/
theorem stateL_append (L M : List UInt8) : stateL (L ++ M) = blocksK (stateL L) (restL L ++ M) ((restL L ++ M).length / 64) := by
  have h1 : doneK (L ++ M) = doneK L + (restL L ++ M).length / 64 := by
    unfold doneK; rw [List.length_append, List.length_append, restL_length]; omega
  have h2 : (L ++ M).drop (64 * doneK L) = restL L ++ M := by
    unfold restL; rw [List.drop_append_of_le_length (by unfold doneK; omega)]
  unfold stateL
  rw [h1, blocksK_add, h2, blocksK_front s0 L M _ (by unfold doneK; omega)]
theorem restL_append (L M : List UInt8) : restL (L ++ M) = (restL L ++ M).drop (64 * ((restL L ++ M).length / 64)) := by
  have h1 : doneK (L ++ M) = doneK L + (restL L ++ M).length / 64 := by
    unfold doneK; rw [List.length_append, List.length_append, restL_length]; omega
  have h2 : (L ++ M).drop (64 * doneK L) = restL L ++ M := by
    unfold restL; rw [List.drop_append_of_le_length (by unfold doneK; omega)]
  show (L ++ M).drop (64 * doneK (L ++ M)) = _
  rw [h1, Nat.mul_add, ← List.drop_drop, h2]
/-- The ID of all that came, of the state, what waits, and how many came. -/
def tailL (R : List UInt8) (n : Nat) : List UInt8 := R ++ [128] ++ List.replicate (noughts n) 0 ++ lenL (8 * n)
theorem idL_parts (L : List UInt8) : idL L = (blocksK (stateL L) (tailL (restL L) L.length) ((tailL (restL L) L.length).length / 64)).list.flatMap bytesW := by
  have hd : (padL L).drop (64 * doneK L) = tailL (restL L) L.length := by
    unfold padL tailL restL
    rw [List.append_assoc, List.append_assoc, List.drop_append_of_le_length (by unfold doneK; omega), List.append_assoc, List.append_assoc]
  have hl : (padL L).length / 64 = doneK L + (tailL (restL L) L.length).length / 64 := by
    rw [← hd, List.length_drop]
    have h1 : 64 * doneK L ≤ (padL L).length := by unfold doneK padL; simp; omega
    omega
  have hp : blocksK s0 (padL L) (doneK L) = stateL L := by
    unfold padL stateL
    rw [List.append_assoc, List.append_assoc]
    exact blocksK_front s0 L _ _ (by unfold doneK; omega)
  unfold idL
  rw [hl, blocksK_add, hp, hd]
theorem idL_length (L : List UInt8) : (idL L).length = 32 := by
  unfold idL S8.list
  simp [bytesW]

end Go.Proofs.YtmmilgjdngdnfaaDoor
