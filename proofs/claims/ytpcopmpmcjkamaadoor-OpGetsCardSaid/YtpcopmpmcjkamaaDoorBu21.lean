/- Lemmas under the proofs of this place: Ref. No statement is proved here. -/
import Derived.Test.YtpcopmpmcjkamaaDoorBu16
import Derived.Test.YtpcopmpmcjkamaaDoorBu12
import Derived.Test.YtpcopmpmcjkamaaDoorBu06
set_option linter.unusedSimpArgs false
set_option linter.unusedVariables false
namespace Go.Proofs.YtpcopmpmcjkamaaDoor
open Go.RowKit
theorem refLeft_any (A : Option Addr) (M : List UInt8) (c : Nat) (v : Value) (st : St) (w : World) (h : RefV A M c v st) (hl : M.length ≤ 1048576) :
    Calls Tryd.prog 41 #[v] w fun e w' => e = .returned (.int .i64 (leftN st : Int)) ∧ Below w.heap.size w w' := by
  rcases st with _ | L
  · obtain rfl : v = _ := h
    go_enter Tryd.func41, Tryd.ntmps41
    go_wp2
    go_ret
    exact ⟨rfl, (Below.refl _ _).alloc (Nat.le_refl _) _⟩
  · obtain ⟨k, rfl, hk, hL⟩ := h
    obtain ⟨d, hd⟩ : ∃ d : Nat, d = M.length - k := ⟨_, rfl⟩
    have HL : Hid (leftN (some L) = d) := by show _ = _; rw [hL, hd]; simp [leftN]
    have he : (M.length : Int) - (k : Int) = (d : Int) := by omega
    clear hL hd
    go_enter Tryd.func41, Tryd.ntmps41
    go_wp2
    go_ret
    rw [HL.out]
    exact ⟨rfl, (Below.refl _ _).alloc (Nat.le_refl _) _⟩
end Go.Proofs.YtpcopmpmcjkamaaDoor
