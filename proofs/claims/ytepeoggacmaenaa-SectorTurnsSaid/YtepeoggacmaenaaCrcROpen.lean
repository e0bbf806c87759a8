/- The walk of the reference's Open. -/
import Derived.Test.YtepeoggacmaenaaCrcRSeal
import Derived.Test.YtepeoggacmaenaaCrcOpen
import Derived.Deep.RegionHeldLaw
set_option linter.unusedVariables false
namespace Go.Proofs.Ytepeoggacmaenaa
open Go.RowKit

/-- What the reference's Open gives: its bytes may be those that were handed in. -/
def GivesView : Option (List UInt8) → World → Ending → World → Prop
  | some M, w, e, w' => ∃ A c, e = .returned (.tuple #[.slice A M.length c, .int .i64 0]) ∧ RB w' w'.heap.size A M ∧ Below w.heap.size w w'
  | none, w, e, w' => e = .returned (.tuple #[.slice none 0 0, .int .i64 12]) ∧ Below w.heap.size w w'
set_option maxRecDepth 100000 in
set_option maxHeartbeats 1000000 in
theorem refOpen_short (N : Nat) (A : Option Addr) (c : Nat) (w : World) (hl : N < 4) :
    Calls Try.prog 29 #[.slice A N c] w (GivesView none w) := by
  have hd2 : decide ((N : Int) - 4 < 0) = true := by simp; omega
  go_enter Try.func29, Try.ntmps29
  go_wp2
  go_quiet (fail)
  go_wp2
  go_ret2
  exact ⟨rfl, ⟨rfl, rfl, rfl, Nat.le_refl _, fun _ _ => rfl⟩⟩
set_option maxRecDepth 100000 in
set_option maxHeartbeats 1000000 in
theorem refOpen_core (n : Nat) (A : Option Addr) (c : Nat) (L S : List UInt8) (w : World) (hc : n + 4 ≤ c) (hcap : c ≤ 9223372036854775807) (b : Bool) (hr : RB w w.heap.size A L) (HL : Hid (n + 4 = L.length)) (R : World → Ending → World → Prop)
    (HS : Hid (∀ W, Below w.heap.size w W → Calls Try.prog 25 #[.slice A n c] W (GivesOne S W)))
    (hb : (S == L) = b)
    (HR : Hid (b = true → ∀ w', Below w.heap.size w w' → R w (.returned (.tuple #[.slice A n c, .int .i64 0])) w')) (HR2 : Hid (b = false → ∀ w', Below w.heap.size w w' → R w (.returned (.tuple #[.slice none 0 0, .int .i64 12])) w')) :
    Calls Try.prog 29 #[.slice A (n + 4) c] w (R w) := by
  have hd2 : decide ((n : Int) < 0) = false := by simp
  have hnc : (n : Int) ≤ (c : Int) := by omega
  have e1 := aw_str (w := w.drew) hr.drew (n + 4) c HL.out
  rcases b with _ | _
  all_goals
    go_enter Try.func29, Try.ntmps29
    go_wp2
    go_region_held_law (fun w' => (convert 22 9 (.slice A (n + 4) c)).run Try.prog w' = .ok (.string ⟨L.toArray⟩) w') (assumption) (first | (go_at_call 25; (with_reducible refine (HS.out _ (Below.refl _ _).drew).mono ?_); rintro e w1 ⟨A1, c1, rfl, ho1, hb1⟩; have hb2 : Below w.heap.size w w1 := below_drew hb1; have e2 := aw_str (own_rb ho1) S.length c1 rfl; have e3 := aw_str ((hr.below hb2).more hb2.size) (n + 4) c HL.out))
    all_goals
      go_wp2
      first | exact HR.out (by trivial) _ hb2 | exact HR2.out (by trivial) _ hb2
/-- The reference's Open. -/
theorem refOpen_any (L : List UInt8) (A : Option Addr) (c B : Nat) (w : World) (hr : RB w B A L) (hlc : L.length ≤ c) (hc : c ≤ 9223372036854775807) (hl : L.length ≤ 1048576) :
    Calls Try.prog 29 #[.slice A L.length c] w (GivesView (openL L) w) := by
  have hr := rb_lt hr
  by_cases h4 : L.length < 4
  · have e : openL L = none := by unfold openL; rw [if_neg (by omega)]
    rw [e]
    exact refOpen_short _ A c w h4
  · obtain ⟨n, hn⟩ : ∃ n, n = L.length - 4 := ⟨_, rfl⟩
    have hn4 : L.length = n + 4 := by omega
    have hp : (L.take n).length = n := by rw [List.length_take]; omega
    have hrp : RB w w.heap.size A (L.take n) := rb_take hr n (by omega)
    have hop : openL L = if sealL (L.take n) = L then some (L.take n) else none := by
      unfold openL
      rw [← hn]
      by_cases hy : sealL (L.take n) = L
      · rw [if_pos ⟨by omega, hy⟩, if_pos hy]
      · rw [if_neg (fun h => hy h.2), if_neg hy]
    rw [hn4]
    refine refOpen_core n A c L (sealL (L.take n)) w (by omega) hc (sealL (L.take n) == L) hr hn4.symm (GivesView (openL L)) (fun W hb => ?_) rfl (fun hb w' h => ?_) (fun hb w' h => ?_)
    · have := refSeal_any (L.take n) A c _ W (hrp.below hb) (by omega)
      rwa [hp] at this
    · rw [hop, if_pos (by simpa using hb)]
      exact ⟨A, c, by rw [hp], (hrp.below h).more h.size, h⟩
    · rw [hop, if_neg (by simpa using hb)]
      exact ⟨rfl, h⟩

end Go.Proofs.Ytepeoggacmaenaa
