/- The program's bit operations on sums, as the model spells them: each is the plain mathematics' own. Plain lemmas; no statement is proved here. -/
import Derived.Test.YtepeoggacmaenaaMem
import Derived.Test.YtepeoggacmaenaaCrcPlain
import Derived.Laws.BitsAllLaws
set_option linter.unusedVariables false
namespace Go.Proofs.Ytepeoggacmaenaa
open Go.RowKit

theorem u32_not (s : Nat) (h : s < 4294967296) : bits .xor .u32 IntKind.u32.max (s : Int) = ((s ^^^ 4294967295 : Nat) : Int) := by
  have e : IntKind.u32.max = ((4294967295 : Nat) : Int) := by rfl
  rw [e, u32_xor_nat _ _ (by omega) h, Nat.xor_comm]
theorem u32_notr (s : Nat) (h : s < 4294967296) : bits .xor .u32 (s : Int) 4294967295 = ((s ^^^ 4294967295 : Nat) : Int) := by
  have e : (4294967295 : Int) = ((4294967295 : Nat) : Int) := rfl
  rw [e, u32_xor_nat _ _ h (by omega)]
theorem u32_byte (x : Nat) (b : UInt8) (h : x < 4294967296) : bits .xor .u32 (x : Int) ((b.toNat : Int) % 4294967296) = ((x ^^^ b.toNat : Nat) : Int) := by
  have hb := b.toNat_lt
  rw [Int.emod_eq_of_lt (by omega) (by omega), u32_xor_nat _ _ h (by omega)]
/-- The program's step: shift, and the polynomial under a mask made of the lowest bit. -/
theorem u32_step (y : Nat) (h : y < 4294967296) :
    bits .xor .u32 ((y : Int) / 2) (bits .and .u32 2197175160 (-bits .and .u32 (y : Int) 1 % 4294967296)) = ((stp y : Nat) : Int) := by
  have e1 : bits .and .u32 (y : Int) 1 = ((y % 2 : Nat) : Int) := by
    have e : (1 : Int) = ((1 : Nat) : Int) := rfl
    rw [e, u32_and_nat _ _ h (by omega), Nat.and_one_is_mod]
  rw [e1]
  have e2 : ((y : Int) / 2) = ((y / 2 : Nat) : Int) := by omega
  have ep : (2197175160 : Int) = ((2197175160 : Nat) : Int) := rfl
  rw [e2, ep]
  unfold stp
  rcases (show y % 2 = 0 ∨ y % 2 = 1 by omega) with h0 | h0
  · rw [h0]
    have e3 : (-((0 : Nat) : Int) % 4294967296) = ((0 : Nat) : Int) := by decide
    rw [e3, u32_and_nat _ _ (by omega) (by omega), u32_xor_nat _ _ (by omega) (by decide), if_neg (by omega)]
    simp
  · rw [h0]
    have e3 : (-((1 : Nat) : Int) % 4294967296) = ((4294967295 : Nat) : Int) := by decide
    rw [e3, u32_and_nat _ _ (by omega) (by omega), u32_xor_nat _ _ (by omega) (by decide), if_pos rfl]
    rfl
/-- The reference's step. -/
theorem u32_poly (y : Nat) (h : y < 4294967296) : bits .xor .u32 ((y : Int)) 2197175160 = ((y ^^^ 2197175160 : Nat) : Int) := by
  have ep : (2197175160 : Int) = ((2197175160 : Nat) : Int) := rfl
  rw [ep, u32_xor_nat _ _ h (by omega)]
theorem stps_succ (j x : Nat) : stps (j + 1) x = stp (stps j x) := by
  have := stps_add j 1 x
  simpa [stps] using this
theorem raw_take (c : Nat) (L : List UInt8) (k : Nat) (h : k < L.length) : raw c (L.take (k + 1)) = stps 8 (raw c (L.take k) ^^^ L[k].toNat) := by
  rw [List.take_succ_eq_append_getElem h, raw_append]
  rfl

end Go.Proofs.Ytepeoggacmaenaa
