/- The walks of the program's Add, Drop (layer 5). -/
import Derived.Test.YtibaaideleinhaaDoorBitsPHas
set_option linter.unusedVariables false
namespace Go.Proofs.YtibaaideleinhaaDoor
open Go.RowKit

theorem holds_at (l : List Bool) (g : Nat) (i : Int) (r : Bool) (w : World) (h : SetAt w g l) (hr : decide (0 ≤ i ∧ i < (l.length : Int)) = r) :
    Calls Tryd.prog 40 #[.pointer (some ⟨g, 0, none⟩), .int .i64 i] w fun e w' => e = .returned (.bool r) ∧ w = w' := by
  obtain ⟨_, _, ws, _, hS⟩ := h
  rw [← hr]
  exact (holds_any l.length g i w hS.size).mono fun _ _ h => ⟨h.1, h.2.symm⟩
theorem inB_in (l : List Bool) (k : Nat) (h : k < l.length) : inB l (k : Int) = l.getD k false := by
  unfold inB
  rw [decide_eq_true (by omega), Int.toNat_natCast, Bool.true_and]

set_option maxRecDepth 100000 in
set_option maxHeartbeats 1000000 in
theorem bitsAdd_any (l : List Bool) (g : Nat) (i : Int) (w : World) (hi : InI i) (h : SetAt w g l) (hl : l.length ≤ 4096) :
    Calls Tryd.prog 28 #[.pointer (some ⟨g, 0, none⟩), .int .i64 i] w fun e w' => e = .returned (.int .i64 (addB l i).2) ∧ SetAt w' g (addB l i).1 ∧ Only w w' g := by
  have z0 := fun w' => Tryd.isNil g w'
  have n0 := fun w' => Tryd.notFalse w'
  have n1 := fun w' => Tryd.notTrue w'
  by_cases hr : 0 ≤ i ∧ i < (l.length : Int)
  · obtain ⟨k, rfl⟩ : ∃ k : Nat, i = (k : Int) := ⟨i.toNat, by omega⟩
    have hk : k < l.length := by omega
    have HH := Lib.hid (holds_at l g (k : Int) true w h (decide_eq_true hr))
    have HX := Lib.hid (bitsHas_any l g (k : Int) w hi h hl)
    obtain ⟨x, hx⟩ : ∃ x, x = l.getD k false := ⟨_, rfl⟩
    rw [inB_in l k hk, ← hx] at HX
    cases x with
    | true =>
      have HV : Hid (addB l (k : Int) = (l, 7)) := by
        show _ = _
        unfold addB
        rw [if_pos hr, Int.toNat_natCast, ← hx]; rfl
      have HS := Lib.hid h
      clear hx h hr
      go_enter Tryd.func28, Tryd.ntmps28
      go_wp2_with (first
        | (go_at_call 40; (with_reducible refine HH.out.mono ?_); rintro e w' ⟨rfl, rfl⟩)
        | (go_at_call 34; (with_reducible refine HX.out.mono ?_); rintro e w1 ⟨rfl, hb1⟩))
      go_ret
      exact ⟨by rw [HV.out]; rfl, by rw [HV.out]; exact HS.out.below hb1 HS.out.lt, only_below hb1 g⟩
    | false =>
      have HV : Hid (addB l (k : Int) = (l.set k true, 0)) := by
        show _ = _
        unfold addB
        rw [if_pos hr, Int.toNat_natCast, ← hx]; rfl
      have HF : Hid (∀ V, SetAt V g l → Calls Tryd.prog 41 #[.pointer (some ⟨g, 0, none⟩), .int .i64 (k : Int)] V fun e w' => e = .returned (.tuple #[]) ∧ SetAt w' g (l.set k true) ∧ Only V w' g) := fun V hV => by
        have := flip_any l g k V hV hk hl
        rwa [← hx] at this
      have HS := Lib.hid h
      clear hx h hr
      go_enter Tryd.func28, Tryd.ntmps28
      go_wp2_with (first
        | (go_at_call 40; (with_reducible refine HH.out.mono ?_); rintro e w' ⟨rfl, rfl⟩)
        | (go_at_call 34; (with_reducible refine HX.out.mono ?_); rintro e w1 ⟨rfl, hb1⟩)
        | (go_at_call 41; (with_reducible refine (HF.out _ (HS.out.below hb1 HS.out.lt)).mono ?_); rintro e w2 ⟨rfl, hS2, ho2⟩))
      go_ret
      exact ⟨by rw [HV.out]; rfl, by rw [HV.out]; exact hS2, only_trans (only_below hb1 g) ho2⟩
  · have HV : Hid (addB l i = (l, 10)) := by
      show _ = _
      unfold addB
      rw [if_neg hr]
    have HH := Lib.hid (holds_at l g i false w h (decide_eq_false hr))
    have HS := Lib.hid h
    clear h hr
    go_enter Tryd.func28, Tryd.ntmps28
    go_wp2_with (first
      | (go_at_call 40; (with_reducible refine HH.out.mono ?_); rintro e w' ⟨rfl, rfl⟩))
    go_ret
    exact ⟨by rw [HV.out]; rfl, by rw [HV.out]; exact HS.out, only_refl _ _⟩

set_option maxRecDepth 100000 in
set_option maxHeartbeats 1000000 in
theorem bitsDrop_any (l : List Bool) (g : Nat) (i : Int) (w : World) (hi : InI i) (h : SetAt w g l) (hl : l.length ≤ 4096) :
    Calls Tryd.prog 31 #[.pointer (some ⟨g, 0, none⟩), .int .i64 i] w fun e w' => e = .returned (.int .i64 (dropB l i).2) ∧ SetAt w' g (dropB l i).1 ∧ Only w w' g := by
  have z0 := fun w' => Tryd.isNil g w'
  have n0 := fun w' => Tryd.notFalse w'
  have n1 := fun w' => Tryd.notTrue w'
  by_cases hr : 0 ≤ i ∧ i < (l.length : Int)
  · obtain ⟨k, rfl⟩ : ∃ k : Nat, i = (k : Int) := ⟨i.toNat, by omega⟩
    have hk : k < l.length := by omega
    have HH := Lib.hid (holds_at l g (k : Int) true w h (decide_eq_true hr))
    have HX := Lib.hid (bitsHas_any l g (k : Int) w hi h hl)
    obtain ⟨x, hx⟩ : ∃ x, x = l.getD k false := ⟨_, rfl⟩
    rw [inB_in l k hk, ← hx] at HX
    cases x with
    | false =>
      have HV : Hid (dropB l (k : Int) = (l, 6)) := by
        show _ = _
        unfold dropB
        rw [if_pos hr, Int.toNat_natCast, ← hx]; rfl
      have HS := Lib.hid h
      clear hx h hr
      go_enter Tryd.func31, Tryd.ntmps31
      go_wp2_with (first
        | (go_at_call 40; (with_reducible refine HH.out.mono ?_); rintro e w' ⟨rfl, rfl⟩)
        | (go_at_call 34; (with_reducible refine HX.out.mono ?_); rintro e w1 ⟨rfl, hb1⟩))
      go_ret
      exact ⟨by rw [HV.out]; rfl, by rw [HV.out]; exact HS.out.below hb1 HS.out.lt, only_below hb1 g⟩
    | true =>
      have HV : Hid (dropB l (k : Int) = (l.set k false, 0)) := by
        show _ = _
        unfold dropB
        rw [if_pos hr, Int.toNat_natCast, ← hx]; rfl
      have HF : Hid (∀ V, SetAt V g l → Calls Tryd.prog 41 #[.pointer (some ⟨g, 0, none⟩), .int .i64 (k : Int)] V fun e w' => e = .returned (.tuple #[]) ∧ SetAt w' g (l.set k false) ∧ Only V w' g) := fun V hV => by
        have := flip_any l g k V hV hk hl
        rwa [← hx] at this
      have HS := Lib.hid h
      clear hx h hr
      go_enter Tryd.func31, Tryd.ntmps31
      go_wp2_with (first
        | (go_at_call 40; (with_reducible refine HH.out.mono ?_); rintro e w' ⟨rfl, rfl⟩)
        | (go_at_call 34; (with_reducible refine HX.out.mono ?_); rintro e w1 ⟨rfl, hb1⟩)
        | (go_at_call 41; (with_reducible refine (HF.out _ (HS.out.below hb1 HS.out.lt)).mono ?_); rintro e w2 ⟨rfl, hS2, ho2⟩))
      go_ret
      exact ⟨by rw [HV.out]; rfl, by rw [HV.out]; exact hS2, only_trans (only_below hb1 g) ho2⟩
  · have HV : Hid (dropB l i = (l, 10)) := by
      show _ = _
      unfold dropB
      rw [if_neg hr]
    have HH := Lib.hid (holds_at l g i false w h (decide_eq_false hr))
    have HS := Lib.hid h
    clear h hr
    go_enter Tryd.func31, Tryd.ntmps31
    go_wp2_with (first
      | (go_at_call 40; (with_reducible refine HH.out.mono ?_); rintro e w' ⟨rfl, rfl⟩))
    go_ret
    exact ⟨by rw [HV.out]; rfl, by rw [HV.out]; exact HS.out, only_refl _ _⟩

set_option maxRecDepth 100000 in
theorem bitsAdd_none (i : Int) (w : World) : Calls Tryd.prog 28 #[.pointer none, .int .i64 i] w fun e w' => e = .returned (.int .i64 8) ∧ Below w.heap.size w w' := by
  have n0 := fun w' => Tryd.nilIs w'
  go_enter Tryd.func28, Tryd.ntmps28
  go_wp2
  go_ret
  exact ⟨rfl, Below.refl _ _⟩
set_option maxRecDepth 100000 in
theorem bitsDrop_none (i : Int) (w : World) : Calls Tryd.prog 31 #[.pointer none, .int .i64 i] w fun e w' => e = .returned (.int .i64 8) ∧ Below w.heap.size w w' := by
  have n0 := fun w' => Tryd.nilIs w'
  go_enter Tryd.func31, Tryd.ntmps31
  go_wp2
  go_ret
  exact ⟨rfl, Below.refl _ _⟩

end Go.Proofs.YtibaaideleinhaaDoor
