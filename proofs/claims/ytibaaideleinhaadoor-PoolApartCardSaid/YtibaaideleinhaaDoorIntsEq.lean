/- The reference's comparison of two lists of whole numbers that are the same. -/
import Derived.Test.YtibaaideleinhaaDoorLaw
import Derived.Deep.QuietTactic
import Derived.BigQuiet
import Derived.Lib.Hide
set_option linter.unusedVariables false
namespace Go.Proofs.YtibaaideleinhaaDoor
open Go.RowKit
set_option maxRecDepth 100000 in
set_option maxHeartbeats 1000000 in
theorem intsq_any (Z : List Int) (A C : Option Addr) (n c d B : Nat) (w : World) (HN : Hid (n = Z.length)) (hr : RI w B A Z) (hr2 : RI w B C Z) (hn : n ≤ 1000000) :
    Calls Tryd.prog 20 #[.slice A n c, .slice C n d] w fun e w' => e = .returned (.bool true) ∧ Below w.heap.size w w' := by
  have HR := Lib.hid hr
  have HR2 := Lib.hid hr2
  clear hr hr2
  go_enter Tryd.func20, Tryd.ntmps20
  go_wp2
  go_loopw [5] (fun i wr => ∃ k : Nat, k ≤ n ∧ i = .int .i64 (k : Int) ∧ Hid (∀ p, wr.cell? p = w.cell? p) ∧ Below w.heap.size w wr) (fun i _ => n - (intOf i).toNat)
  case atStart => exact ⟨0, by omega, rfl, fun _ => rfl, Below.refl _ _⟩
  case round =>
    obtain ⟨k, hk, rfl, hw, hb⟩ := hrel
    by_cases hlt : k < n
    · have hkL : k < Z.length := by have := HN.out; omega
      obtain ⟨b, off, rfl, _, hc⟩ := HR.out (by omega)
      obtain ⟨b2, off2, rfl, _, hc2⟩ := HR2.out (by omega)
      obtain ⟨s, hs⟩ : ∃ s, s = Z[k] := ⟨_, rfl⟩
      have hck := hc k hkL
      have hck2 := hc2 k hkL
      rw [← hs, ← hw.out] at hck
      rw [← hs, ← hw.out] at hck2
      have u0 : (0 : Int) ≤ (k : Int) := by omega
      have u1 : (k : Int) < (n : Int) := by omega
      clear hs hc hc2 HR HR2 hkL
      go_wp2
      go_quiet (fail)
      go_wp2
      refine ⟨⟨k + 1, by omega, by go_num, fun p => hw.out p, ⟨hb.os, hb.tape, hb.output, hb.size, hb.block⟩⟩, ?_⟩
      simp [intOf]; omega
    · clear HR HR2
      go_wp2
      go_ret
      exact ⟨rfl, hb⟩
end Go.Proofs.YtibaaideleinhaaDoor
