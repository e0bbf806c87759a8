/- The walks of the program's Begin and Size (layer 3); what a hash stands at. -/
import Derived.Test.YtmmilgjdngdnfaaDoorShaPHash
set_option linter.unusedVariables false
namespace Go.Proofs.YtmmilgjdngdnfaaDoor
open Go.RowKit

/-- The hash in block g stands at the bytes L. -/
def HashAt (w : World) (g : Nat) (L : List UInt8) : Prop := ∃ blk, HB w g (stateL L) blk L.length ∧ blk.take (L.length % 64) = restL L
theorem HashAt.below {B : Nat} {w w' : World} {g : Nat} {L : List UInt8} (h : HashAt w g L) (hb : Below B w w') (hg : g < B) : HashAt w' g L := by
  obtain ⟨blk, h1, h2⟩ := h
  exact ⟨blk, h1.below hb hg, h2⟩
theorem HashAt.only {w w' : World} {g k : Nat} {L : List UInt8} (h : HashAt w g L) (ho : Only w w' k) (hg : g ≠ k) : HashAt w' g L := by
  obtain ⟨blk, h1, h2⟩ := h
  exact ⟨blk, ⟨h1.1.grown ho (by simp; omega), h1.2⟩, h2⟩
theorem HashAt.lt {w : World} {g : Nat} {L : List UInt8} (h : HashAt w g L) : g < w.heap.size := by
  obtain ⟨blk, h1, _⟩ := h
  exact h1.lt
theorem HashAt.size {w : World} {g : Nat} {L : List UInt8} (h : HashAt w g L) : w.cell? ⟨g, 72, none⟩ = some (.int .u64 (L.length : Int)) := by
  obtain ⟨blk, h1, _⟩ := h
  exact h1.size
theorem HashAt.drew {w : World} {g : Nat} {L : List UInt8} (h : HashAt w g L) : HashAt w.drew g L := h

set_option maxRecDepth 100000 in
set_option maxHeartbeats 1000000 in
theorem begin_any (w : World) :
    Calls Tryd.prog 31 #[] w fun e w' => e = .returned (.pointer (some ⟨w.heap.size, 0, none⟩)) ∧ HashAt w' w.heap.size [] ∧ Below w.heap.size w w' := by
  obtain ⟨SA, hSA⟩ : ∃ SA, SA = (wcells s0.list).toArray := ⟨_, rfl⟩
  obtain ⟨HA, hHA⟩ : ∃ HA, HA = (hcells s0 (List.replicate 64 0) 0).toArray := ⟨_, rfl⟩
  have HSA := Lib.hid hSA
  have HHA := Lib.hid hHA
  have HB43 : Hid (Tryd.prog.built 56 [(0, .agg SA)] = some HA) := by show _ = _; rw [hHA, hSA]; kernel_rfl
  clear hSA hHA
  go_enter Tryd.func31, Tryd.ntmps31
  go_wp2_with (first
    | (refine wpList_buildTo rfl 52 _ rfl (some 1) rfl SA (by rw [HSA.out]; kernel_rfl) ?_)
    | (refine wpList_buildTo rfl 56 _ rfl (some 2) rfl HA (Eq.trans (b := Tryd.prog.built 56 [(0, .agg SA)]) (by kernel_rfl) HB43.out) ?_)
    | (refine wpList_box_letter rfl 56 _ rfl (some 3) rfl HA rfl ?_; intro g1 w1 hw1 hg1))
  have b1 : Below w.heap.size w w1 := letter_below hw1 (Below.refl _ _) (Nat.le_refl _)
  have k1 : Blk w1 g1 56 (hcells s0 (List.replicate 64 0) 0).toArray := by rw [← HHA.out]; exact letter_blk hw1 hg1
  have e1 := hg1.out
  subst e1
  go_ret
  exact ⟨rfl, ⟨List.replicate 64 0, ⟨k1, by simp⟩, rfl⟩, b1⟩

end Go.Proofs.YtmmilgjdngdnfaaDoor
