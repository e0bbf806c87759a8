/- The walk of awake: chapter 2's example, and others, hold. -/
import Derived.Test.YtmmoenglnaphdaaOpen
import Derived.Lib.SmallJoins
set_option linter.unusedVariables false
namespace Go.Proofs.Ytmmoenglnaphdaa
open Go.RowKit Go.Joins

theorem own_cap {w : World} {base : Nat} {A : Option Addr} {L : List UInt8} {c : Nat} (h : Own w base A L c) : c ≤ 9223372036854775807 := by
  rcases h.2 with ⟨h', h0⟩ | ⟨g, cap, cur, h', _, _, hn, hm, _⟩
  · simp only [Value.slice.injEq] at h'
    omega
  · simp only [Value.slice.injEq] at h'
    have hm' : cap ≤ 9223372036854775807 := hm
    omega

theorem aw_sum9 (g0 : Nat) (w : World) (hg0 : g0 = w.heap.size) :
    Calls Try.prog 8 #[.slice (some ⟨g0, 0, none⟩) 9 9] (w.alloc (.cells #[.int .u8 49, .int .u8 50, .int .u8 51, .int .u8 52, .int .u8 53, .int .u8 54, .int .u8 55, .int .u8 56, .int .u8 57] 5 (9, 10)))
      fun e w' => e = .returned (.int .u32 3808858755) ∧ (w.alloc (.cells #[.int .u8 49, .int .u8 50, .int .u8 51, .int .u8 52, .int .u8 53, .int .u8 54, .int .u8 55, .int .u8 56, .int .u8 57] 5 (9, 10))) = w' := by
  subst hg0
  have h := sum_any [49, 50, 51, 52, 53, 54, 55, 56, 57] (some ⟨w.heap.size, 0, none⟩) 9 _ _ (rb_newm w [49, 50, 51, 52, 53, 54, 55, 56, 57] (9, 10)) (by decide)
  have e : sumL [49, 50, 51, 52, 53, 54, 55, 56, 57] = 3808858755 := by decide +kernel
  rw [e] at h
  exact h
theorem aw_sum4 (g0 : Nat) (w : World) (hg0 : g0 = w.heap.size) :
    Calls Try.prog 8 #[.slice (some ⟨g0, 0, none⟩) 4 4] (w.alloc (.cells #[.int .u8 49, .int .u8 50, .int .u8 51, .int .u8 52] 5 (4, 5)))
      fun e w' => e = .returned (.int .u32 4131058926) ∧ (w.alloc (.cells #[.int .u8 49, .int .u8 50, .int .u8 51, .int .u8 52] 5 (4, 5))) = w' := by
  subst hg0
  have h := sum_any [49, 50, 51, 52] (some ⟨w.heap.size, 0, none⟩) 4 _ _ (rb_newm w [49, 50, 51, 52] (4, 5)) (by decide)
  have e : sumL [49, 50, 51, 52] = 4131058926 := by decide +kernel
  rw [e] at h
  exact h
theorem aw_more5 (g0 : Nat) (w : World) (hg0 : g0 = w.heap.size) :
    Calls Try.prog 10 #[.int .u32 4131058926, .slice (some ⟨g0, 0, none⟩) 5 5] (w.alloc (.cells #[.int .u8 53, .int .u8 54, .int .u8 55, .int .u8 56, .int .u8 57] 5 (5, 6)))
      fun e w' => e = .returned (.int .u32 3808858755) ∧ (w.alloc (.cells #[.int .u8 53, .int .u8 54, .int .u8 55, .int .u8 56, .int .u8 57] 5 (5, 6))) = w' := by
  subst hg0
  have h := more_any 4131058926 [53, 54, 55, 56, 57] (some ⟨w.heap.size, 0, none⟩) 5 _ _ (by decide) (rb_newm w [53, 54, 55, 56, 57] (5, 6)) (by decide)
  have e : moreL 4131058926 [53, 54, 55, 56, 57] = 3808858755 := by decide +kernel
  rw [e] at h
  exact h
theorem aw_sum0 (w : World) : Calls Try.prog 8 #[.slice none 0 0] w fun e w' => e = .returned (.int .u32 0) ∧ w = w' := by
  have h := sum_any [] none 0 0 w (RB.none_ _ _) (by decide)
  have e : sumL [] = 0 := by decide +kernel
  rw [e] at h
  exact h
theorem aw_seal (g0 : Nat) (w : World) (hg0 : g0 = w.heap.size) :
    Calls Try.prog 12 #[.slice (some ⟨g0, 0, none⟩) 2 2] (w.alloc (.cells #[.int .u8 97, .int .u8 98] 5 (2, 3)))
      fun e w' => ∃ (M : List UInt8) (A : Option Addr) (c : Nat), e = .returned (.slice A M.length c) ∧ Hid (openL M = some [97, 98]) ∧ M.length ≤ c ∧ c ≤ 9223372036854775807 ∧ M.length ≤ 1048576 ∧ RB w' w'.heap.size A M ∧ Below w.heap.size w w' := by
  subst hg0
  have h := seal_any [97, 98] (some ⟨w.heap.size, 0, none⟩) 2 _ _ (rb_newm w [97, 98] (2, 3)) (by decide)
  refine h.mono fun e w' ⟨A, c, he, ho, hb⟩ => ⟨sealL [97, 98], A, c, he, open_seal _, own_le ho, own_cap ho, by rw [sealL_length]; decide, own_rb ho, ?_⟩
  exact ((Below.refl _ _).alloc (Nat.le_refl _) _).trans (hb.mono (by simp))
theorem aw_open (M : List UInt8) (A : Option Addr) (c : Nat) (w : World) (HM : Hid (openL M = some [97, 98])) (h1 : M.length ≤ c) (h2 : c ≤ 9223372036854775807) (h3 : M.length ≤ 1048576) (hr : RB w w.heap.size A M) :
    Calls Try.prog 13 #[.slice A M.length c] w fun e w' => ∃ A' c', e = .returned (.tuple #[.slice A' 2 c', .int .i64 0]) ∧ RB w' w'.heap.size A' [97, 98] ∧ Below w.heap.size w w' := by
  have h := open_any M A c _ w hr h1 h2 h3
  rw [HM.out] at h
  exact h.mono fun e w' ⟨A', c', he, ho, hb⟩ => ⟨A', c', he, own_rb ho, hb⟩
theorem aw_open6 (g0 : Nat) (w : World) (hg0 : g0 = w.heap.size) :
    Calls Try.prog 13 #[.slice (some ⟨g0, 0, none⟩) 6 6] (w.alloc (.cells #[.int .u8 97, .int .u8 98, .int .u8 99, .int .u8 100, .int .u8 101, .int .u8 102] 5 (6, 7)))
      fun e w' => e = .returned (.tuple #[.slice none 0 0, .int .i64 12]) ∧ Below w.heap.size w w' := by
  subst hg0
  have h := open_any [97, 98, 99, 100, 101, 102] (some ⟨w.heap.size, 0, none⟩) 6 _ _ (rb_newm w [97, 98, 99, 100, 101, 102] (6, 7)) (by decide) (by decide) (by decide)
  have e : openL [97, 98, 99, 100, 101, 102] = none := by decide +kernel
  rw [e] at h
  exact h.mono fun e w' ⟨he, hb⟩ => ⟨he, ((Below.refl _ _).alloc (Nat.le_refl _) _).trans (hb.mono (by simp))⟩
theorem aw_open3 (g0 : Nat) (w : World) (hg0 : g0 = w.heap.size) :
    Calls Try.prog 13 #[.slice (some ⟨g0, 0, none⟩) 3 3] (w.alloc (.cells #[.int .u8 97, .int .u8 98, .int .u8 99] 5 (3, 4)))
      fun e w' => e = .returned (.tuple #[.slice none 0 0, .int .i64 12]) ∧ Below w.heap.size w w' := by
  subst hg0
  have h := open_any [97, 98, 99] (some ⟨w.heap.size, 0, none⟩) 3 _ _ (rb_newm w [97, 98, 99] (3, 4)) (by decide) (by decide) (by decide)
  have e : openL [97, 98, 99] = none := by decide +kernel
  rw [e] at h
  exact h.mono fun e w' ⟨he, hb⟩ => ⟨he, ((Below.refl _ _).alloc (Nat.le_refl _) _).trans (hb.mono (by simp))⟩

theorem aw_facts {w w1 w2 w3 w4 w5 : World} {o1 o2 o3 : Obj} {A : Option Addr} {L : List UInt8} (hb1 : Below w.heap.size w w1) (hb2 : Below w1.heap.size w1 w2) (hb3 : Below w2.heap.size w2 w3) (hb4 : Below w3.heap.size w3 w4)
    (hr : RB w2 w2.heap.size A L) (hw : ((w4.alloc o1).alloc o2).alloc o3 = w5) : RB w5 w5.heap.size A L ∧ Below w.heap.size w w5 := by
  have z1 := hb1.size
  have z2 := hb2.size
  have z3 := hb3.size
  have h24 : Below w2.heap.size w2 w4 := hb3.trans (hb4.mono z3)
  have h25 : Below w2.heap.size w2 w5 := by
    rw [← hw]
    have z4 := h24.size
    exact ((h24.alloc z4 _).alloc (by simp; omega) _).alloc (by simp; omega) _
  exact ⟨(hr.below h25).more h25.size, (hb1.trans (hb2.mono z1)).trans (h25.mono (by omega))⟩

set_option maxRecDepth 100000 in
set_option maxHeartbeats 2000000 in
theorem awake_any (w : World) : Calls Try.prog 7 #[] w fun e w' => e = .returned (.bool true) ∧ Below w.heap.size w w' := by
  have hcv : ∀ (W : World) (g n c : Nat) (C : Array Value), g = W.heap.size → (convert 22 22 (.slice (some ⟨g, 0, none⟩) n c)).run Try.prog (W.alloc (.cells C 5)) = .ok (.slice (some ⟨g, 0, none⟩) n c) (W.alloc (.cells C 5 (C.size, C.size + 1))) := fun W g n c C h => run_convert_bytes_const_at W 22 5 C n c g h Try.underlying22 Try.underlying5
  go_enter Try.func7, Try.ntmps7
  go_wp2_with (first
    | (go_at_call 12; (with_reducible refine (aw_seal _ _ (by simp)).mono ?_); rintro e w1 ⟨M, A1, c1, rfl, HM, hm1, hm2, hm3, hr1, hb1⟩)
    | (go_at_call 13; (with_reducible refine (aw_open _ _ _ _ HM hm1 hm2 hm3 hr1).mono ?_); rintro e w2 ⟨A2, c2, rfl, hr2, hb2⟩)
    | (go_at_call 13; (with_reducible refine (aw_open6 _ _ (by simp)).mono ?_); rintro e w3 ⟨rfl, hb3⟩)
    | (go_at_call 13; (with_reducible refine (aw_open3 _ _ (by simp)).mono ?_); rintro e w4 ⟨rfl, hb4⟩)
    | (go_at_call 8; (with_reducible refine (aw_sum9 _ _ (by simp)).mono ?_); rintro e w' ⟨rfl, rfl⟩)
    | (go_at_call 8; (with_reducible refine (aw_sum4 _ _ (by simp)).mono ?_); rintro e w' ⟨rfl, rfl⟩)
    | (go_at_call 10; (with_reducible refine (aw_more5 _ _ (by simp)).mono ?_); rintro e w5 ⟨rfl, hw5⟩; obtain ⟨f5, hb5⟩ := aw_facts hb1 hb2 hb3 hb4 hr2 hw5; clear hw5; have e5 := aw_str f5 2 c2 rfl)
    | (go_at_call 8; (with_reducible refine (aw_sum0 _).mono ?_); rintro e w' ⟨rfl, rfl⟩))
  go_ret
  exact ⟨rfl, hb5⟩

end Go.Proofs.Ytmmoenglnaphdaa
