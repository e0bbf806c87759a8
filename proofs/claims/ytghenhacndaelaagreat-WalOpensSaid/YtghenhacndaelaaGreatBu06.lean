/- Lemmas under the proofs of this place: CrcBits, Num, Keeps. No statement is proved here. -/
import Derived.Test.YtghenhacndaelaaGreatBu03
import Derived.Test.YtghenhacndaelaaGreatBu00
import Derived.Laws.BitsAllLaws
import Derived.RangeFuncNested
import Derived.RangeFuncBound
import Derived.RangeFuncCalls
import Derived.RangeFuncLeaves
import Derived.Shelf.Abstract
import Derived.OwnWalkIn
import Derived.WalkKit
import Derived.TacticsInMore
import Derived.LoopNIn
import Derived.LoopIn
set_option linter.unusedSimpArgs false
set_option linter.unusedVariables false
namespace Go.Proofs.YtghenhacndaelaaGreat
section
open Go.RowKit
theorem u32_not (s : Nat) (h : s < 4294967296) : bits .xor .u32 IntKind.u32.max (s : Int) = ((s ^^^ 4294967295 : Nat) : Int) := by
  have e : IntKind.u32.max = ((4294967295 : Nat) : Int) := by rfl
  rw [e, u32_xor_nat _ _ (by omega) h, Nat.xor_comm]
theorem u32_notr (s : Nat) (h : s < 4294967296) : bits .xor .u32 (s : Int) 4294967295 = ((s ^^^ 4294967295 : Nat) : Int) := by
  have e : (4294967295 : Int) = ((4294967295 : Nat) : Int) := rfl
  rw [e, u32_xor_nat _ _ h (by omega)]
theorem u32_byte (x : Nat) (b : UInt8) (h : x < 4294967296) : bits .xor .u32 (x : Int) ((b.toNat : Int) % 4294967296) = ((x ^^^ b.toNat : Nat) : Int) := by
  have hb := b.toNat_lt
  rw [Int.emod_eq_of_lt (by omega) (by omega), u32_xor_nat _ _ h (by omega)]
theorem u32_step (y : Nat) (h : y < 4294967296) :
    bits .xor .u32 ((y : Int) / 2) (bits .and .u32 2197175160 (-bits .and .u32 (y : Int) 1 % 4294967296)) = ((stp y : Nat) : Int) := by
  have e1 : bits .and .u32 (y : Int) 1 = ((y % 2 : Nat) : Int) := by
    have e : (1 : Int) = ((1 : Nat) : Int) := rfl
    rw [e, u32_and_nat _ _ h (by omega), Nat.and_one_is_mod]
  rw [e1]
  have e2 : ((y : Int) / 2) = ((y / 2 : Nat) : Int) := by omega
  have ep : (2197175160 : Int) = ((2197175160 : Nat) : Int) := rfl
  rw [e2, ep]
  unfold stp
  rcases (show y % 2 = 0 ∨ y % 2 = 1 by omega) with h0 | h0
  · rw [h0]
    have e3 : (-((0 : Nat) : Int) % 4294967296) = ((0 : Nat) : Int) := by decide
    rw [e3, u32_and_nat _ _ (by omega) (by omega), u32_xor_nat _ _ (by omega) (by decide), if_neg (by omega)]
    simp
  · rw [h0]
    have e3 : (-((1 : Nat) : Int) % 4294967296) = ((4294967295 : Nat) : Int) := by decide
    rw [e3, u32_and_nat _ _ (by omega) (by omega), u32_xor_nat _ _ (by omega) (by decide), if_pos rfl]
    rfl
theorem u32_poly (y : Nat) (h : y < 4294967296) : bits .xor .u32 ((y : Int)) 2197175160 = ((y ^^^ 2197175160 : Nat) : Int) := by
  have ep : (2197175160 : Int) = ((2197175160 : Nat) : Int) := rfl
  rw [ep, u32_xor_nat _ _ h (by omega)]
theorem stps_succ (j x : Nat) : stps (j + 1) x = stp (stps j x) := by
  have := stps_add j 1 x
  simpa [stps] using this
theorem raw_take (c : Nat) (L : List UInt8) (k : Nat) (h : k < L.length) : raw c (L.take (k + 1)) = stps 8 (raw c (L.take k) ^^^ L[k].toNat) := by
  rw [List.take_succ_eq_append_getElem h, raw_append]
  rfl
end
section
open Go.RowKit
theorem isNumber_yes (n : Int) (w : World) (h0 : 0 ≤ n) (h1 : n ≤ 2147483647) : Calls Tryz.prog 110 #[.int .i64 n] w fun e w' => e = .returned (.bool true) ∧ w = w' := by
  go_enter Tryz.func110, Tryz.ntmps110
  go_wp2
  go_ret
  exact ⟨rfl, rfl⟩
end
section
open Go.RowKit Go.Shelf
def Upto (N : Nat) : Type := { i : Nat // i < N }
def KeepsAt (B : Nat) (W W' : World) : Prop := W'.cell? ⟨B, 0, none⟩ = W.cell? ⟨B, 0, none⟩
section
variable {V W : World} {row : Option Nat}
theorem blk_kept {g : Nat} {t : TypeId} {cs : Array Value} (h : Blk V g t cs) (hg : V.grownBy W row) (hr : ∀ r, row = some r → ∃ o : Obj, V.heap[r]? = some o ∧ o.isCells = false) : Blk W g t cs :=
  h.grown hg (fun e => by
    obtain ⟨o, ho, hc⟩ := hr g e.symm
    rw [show V.heap[g]? = _ from h] at ho
    cases ho
    cases hc)
end
theorem keepsAt_b {B : Nat} {w : World} (hB : B < w.heap.size) (W : World) (l : Nat) (o o' : Obj) (hl : w.heap.size ≤ l) (h : W.heap[l]? = some o) (_ : o.isCells = false) (_ : o.isWalk = false) : KeepsAt B W (W.putObj l o') :=
  World.cell?_of_block ((grownBy_putObj' W l o').block B (by have := (Array.getElem?_eq_some_iff.1 h).1; omega) (fun e => by cases e; omega))
end
end Go.Proofs.YtghenhacndaelaaGreat
