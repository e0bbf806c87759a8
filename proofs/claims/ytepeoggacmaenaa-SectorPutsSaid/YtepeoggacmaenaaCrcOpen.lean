/- The walk of crc.Open: what was sealed, or the error of what is not. -/
import Derived.Test.YtepeoggacmaenaaCrcSeal
import Derived.Test.YtepeoggacmaenaaGuard
import Derived.Deep.RegionWith
import Derived.Deep.QuietTactic
import Derived.BigQuiet
import Derived.Lib.SmallJoins
set_option linter.unusedVariables false
namespace Go.Proofs.Ytepeoggacmaenaa
open Go.RowKit

/-- What Open gives. -/
def GivesOpen : Option (List UInt8) → World → Ending → World → Prop
  | some M, w, e, w' => GivesBytes M w e w'
  | none, w, e, w' => e = .returned (.tuple #[.slice none 0 0, .int .i64 12]) ∧ Below w.heap.size w w'
set_option maxRecDepth 100000 in
set_option maxHeartbeats 1000000 in
theorem open_short (N : Nat) (A : Option Addr) (c : Nat) (w : World) (hl : N < 4) :
    Calls Try.prog 26 #[.slice A N c] w (GivesOpen none w) := by
  have hd2 : decide ((N : Int) - 4 < 0) = true := by simp; omega
  go_enter Try.func26, Try.ntmps26
  go_wp2
  go_quiet (fail)
  go_wp2
  go_ret2
  exact ⟨rfl, ⟨rfl, rfl, rfl, Nat.le_refl _, fun _ _ => rfl⟩⟩
set_option maxRecDepth 100000 in
set_option maxHeartbeats 1000000 in
theorem open_core (n : Nat) (A : Option Addr) (c : Nat) (P Q : List UInt8) (w : World) (hc : n + 4 ≤ c) (hcap : c ≤ 9223372036854775807) (b : Bool) (R : World → Ending → World → Prop)
    (HS : Hid (∀ W, Below w.heap.size w W → Calls Try.prog 39 #[.slice A n c] W fun e w' => e = .returned (.int .u32 (sumL P : Int)) ∧ W = w'))
    (HB : Hid (∀ W, Calls Try.prog 38 #[.int .u32 (sumL P : Int)] W (GivesOne Q W)))
    (HE : Hid (∀ W C d, Below w.heap.size w W → RB W W.heap.size C Q → Calls Try.prog 41 #[.slice (Option.map (fun x => x.add n) A) 4 (c - n), .slice C Q.length d] W fun e w' => e = .returned (.bool b) ∧ W = w'))
    (HC : Hid (∀ W, Below w.heap.size w W → Calls Try.prog 42 #[.slice A n c] W (GivesOne P W)))
    (HR : Hid (b = true → ∀ e w', GivesBytes P w e w' → R w e w')) (HR2 : Hid (b = false → ∀ w', Below w.heap.size w w' → R w (.returned (.tuple #[.slice none 0 0, .int .i64 12])) w')) :
    Calls Try.prog 26 #[.slice A (n + 4) c] w (R w) := by
  have hd2 : decide ((n : Int) < 0) = false := by simp
  have hn4 : (n : Int) ≤ (n : Int) + 4 := by omega
  have hnc : (n : Int) ≤ (c : Int) := by omega
  have hcn : ¬ c = n := by omega
  rcases b with _ | _
  all_goals
    go_enter Try.func26, Try.ntmps26
    go_wp2
    refine wp_region_any (by kernel_rfl) ?_
    change wpAny _ _ _ _ _ _ _ (World.drew _)
    refine wpAny_take (i := 0) (v := ?_) rfl (by kernel_rfl) (by kernel_rfl) (by kernel_rfl) (fun _ _ _ h => h) (Or.inl ⟨by kernel_rfl, ?_⟩) ?_
    rotate_left
    · intro w; go_simp; with_reducible rfl
    rotate_left
    refine wpAny_take (i := 1) (v := ?_) rfl (by kernel_rfl) (by kernel_rfl) (by kernel_rfl) (fun _ _ _ h => h) (Or.inl ⟨by kernel_rfl, ?_⟩) ?_
    rotate_left
    · intro w; go_simp; with_reducible rfl
    rotate_left
    refine wpAny_take (i := 2) (v := ?_) rfl (by kernel_rfl) (by kernel_rfl) (by kernel_rfl) (fun _ _ _ h => h) (Or.inl ⟨by kernel_rfl, ?_⟩) ?_
    rotate_left
    · intro w; go_simp; with_reducible rfl
    rotate_left
    refine wpAny_take (i := 3) (v := ?_) rfl (by kernel_rfl) (by kernel_rfl) (by kernel_rfl) (fun _ _ _ h => h) (Or.inl ⟨by kernel_rfl, ?_⟩) ?_
    rotate_left
    · intro w; go_simp; with_reducible rfl
    rotate_left
    refine wpAny_take (i := 4) (v := ?_) rfl (by kernel_rfl) (by kernel_rfl) (by kernel_rfl) (fun _ _ _ h => h) (Or.inl ⟨by kernel_rfl, ?_⟩) ?_
    rotate_left
    · intro w; go_simp; with_reducible rfl
    rotate_left
    refine wpAny_take (i := 5) (v := ?_) rfl (by kernel_rfl) (by kernel_rfl) (by kernel_rfl) (fun _ _ _ h => h) (Or.inl ⟨by kernel_rfl, ?_⟩) ?_
    rotate_left
    · intro w; go_simp; with_reducible rfl
    rotate_left
    refine wpAny_take (i := 6) (v := ?_) rfl (by kernel_rfl) (by kernel_rfl) (by kernel_rfl) (fun _ _ _ h => h) (Or.inl ⟨by kernel_rfl, ?_⟩) ?_
    rotate_left
    · intro w; go_simp; with_reducible rfl
    rotate_left
    refine wpAny_take (i := 7) (v := ?_) rfl (by kernel_rfl) (by kernel_rfl) (by kernel_rfl) (fun _ _ _ h => h) (Or.inl ⟨by kernel_rfl, ?_⟩) ?_
    rotate_left
    · intro w; go_simp; with_reducible rfl
    rotate_left
    refine wpAny_take (i := 8) (v := ?_) rfl (by kernel_rfl) (by kernel_rfl) (by kernel_rfl) (fun _ _ _ h => h) (Or.inl ⟨by kernel_rfl, ?_⟩) ?_
    rotate_left
    · intro w; go_simp; with_reducible rfl
    rotate_left
    refine wpAny_tail 9 (by kernel_rfl) (by kernel_rfl) ?_
    simp only [List.drop_succ_cons, List.drop_zero]
    go_wp2_with (first
      | (go_at_call 39; (with_reducible refine (HS.out _ (Below.refl _ _).drew).mono ?_); rintro e w' ⟨rfl, rfl⟩)
      | (go_at_call 38; (with_reducible refine (HB.out _).mono ?_); rintro e w1 ⟨A1, c1, rfl, ho1, hb1⟩; have hb2 : Below w.heap.size w w1 := below_drew hb1)
      | (go_at_call 41; (with_reducible refine (HE.out _ _ _ hb2 (own_rb ho1)).mono ?_); rintro e w' ⟨rfl, rfl⟩)
      | (go_at_call 42; (with_reducible refine (HC.out _ hb2).mono ?_); rintro e w2 ⟨A2, c2, rfl, ho2, hb3⟩))
  · exact HR2.out (by trivial) _ hb2
  · have ho3 : Own w2 w.heap.size A2 P c2 := Joins.ownsRow_le ho2 hb2.size
    have hb4 := hb2.trans (hb3.mono hb2.size)
    exact HR.out (by trivial) _ _ ⟨A2, c2, rfl, ho3, hb4⟩
/-- crc.Open. -/
theorem open_any (L : List UInt8) (A : Option Addr) (c B : Nat) (w : World) (hr : RB w B A L) (hlc : L.length ≤ c) (hc : c ≤ 9223372036854775807) (hl : L.length ≤ 1048576) :
    Calls Try.prog 26 #[.slice A L.length c] w (GivesOpen (openL L) w) := by
  have hr := rb_lt hr
  by_cases h4 : L.length < 4
  · have e : openL L = none := by unfold openL; rw [if_neg (by omega)]
    rw [e]
    exact open_short _ A c w h4
  · obtain ⟨n, hn⟩ : ∃ n, n = L.length - 4 := ⟨_, rfl⟩
    have hn4 : L.length = n + 4 := by omega
    have hp : (L.take n).length = n := by rw [List.length_take]; omega
    have hd : (L.drop n).length = 4 := by rw [List.length_drop]; omega
    have hrp : RB w w.heap.size A (L.take n) := rb_take hr n (by omega)
    have hrd : RB w w.heap.size (A.map (fun x => x.add n)) (L.drop n) := rb_cut1 hr (by omega) hlc (by omega)
    have hop : openL L = if L.drop n = le4 (sumL (L.take n)) then some (L.take n) else none := by
      unfold openL sealL
      rw [← hn]
      have hx : (L.take n ++ le4 (sumL (L.take n)) = L) ↔ (L.drop n = le4 (sumL (L.take n))) := by
        conv => lhs; rhs; rw [← List.take_append_drop n L]
        rw [List.append_cancel_left_eq]
        exact ⟨Eq.symm, Eq.symm⟩
      by_cases hy : L.drop n = le4 (sumL (L.take n))
      · rw [if_pos ⟨by omega, hx.2 hy⟩, if_pos hy]
      · rw [if_neg (fun h => hy (hx.1 h.2)), if_neg hy]
    rw [hn4]
    refine open_core n A c (L.take n) (le4 (sumL (L.take n))) w (by omega) hc (decide (L.drop n = le4 (sumL (L.take n)))) (GivesOpen (openL L)) (fun W hb => ?_) (fun W => ?_) (fun W C d hb hC => ?_) (fun W hb => ?_) (fun hb e w' h => ?_) (fun hb w' h => ?_)
    · have := sum_any (L.take n) A c _ W (hrp.below hb) (by omega)
      rwa [hp] at this
    · exact sumBytes_any _ W (sumL_lt _)
    · have := equal_any (L.drop n) (le4 (sumL (L.take n))) (A.map (fun x => x.add n)) C (c - n) d _ _ W (hrd.below hb) hC
      rwa [hd] at this
    · have := clone_any (L.take n) A c _ W (hrp.below hb) (by omega)
      rwa [hp] at this
    · rw [hop, if_pos (by simpa using hb)]
      exact h
    · rw [hop, if_neg (by simpa using hb)]
      exact ⟨rfl, h⟩

end Go.Proofs.Ytepeoggacmaenaa
