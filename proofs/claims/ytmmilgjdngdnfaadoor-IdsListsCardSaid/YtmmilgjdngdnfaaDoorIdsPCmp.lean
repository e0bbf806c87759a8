/- The walks of cmp.Compare at texts and of what Union, Meet and Less keep (layer 4). -/
import Derived.Test.YtmmilgjdngdnfaaDoorStrs
import Derived.Test.YtmmilgjdngdnfaaDoorIdsMerge
import Derived.Test.YtmmilgjdngdnfaaDoorIdsPRight
import Derived.Shelf.Abstract
set_option linter.unusedVariables false
namespace Go.Proofs.YtmmilgjdngdnfaaDoor
open Go.RowKit

/-- What cmp.Compare tells of two texts. -/
def cmpL (a b : Bs) : Int := if Op.bytesLess a b then -1 else if Op.bytesLess b a then 1 else 0
set_option maxRecDepth 100000 in
theorem isNaN_any (a : Bs) (w : World) : Calls Tryd.prog 69 #[.string (text a)] w fun e w' => e = .returned (.bool false) ∧ w = w' := by
  obtain ⟨t, ht⟩ : ∃ t, t = text a := ⟨_, rfl⟩
  rw [← ht]
  clear ht
  go_enter Tryd.func69, Tryd.ntmps69
  go_wp2
  go_ret
  exact ⟨by simp, rfl⟩
set_option maxRecDepth 100000 in
theorem compare_any (a b : Bs) (w : World) : Calls Tryd.prog 53 #[.string (text a), .string (text b)] w fun e w' => e = .returned (.int .i64 (cmpL a b)) ∧ w = w' := by
  have HA : Hid (∀ V, Calls Tryd.prog 69 #[.string (text a)] V fun e w' => e = .returned (.bool false) ∧ V = w') := fun V => isNaN_any a V
  have HB : Hid (∀ V, Calls Tryd.prog 69 #[.string (text b)] V fun e w' => e = .returned (.bool false) ∧ V = w') := fun V => isNaN_any b V
  obtain ⟨s, hs⟩ : ∃ s, s = text a := ⟨_, rfl⟩
  obtain ⟨t, ht⟩ : ∃ t, t = text b := ⟨_, rfl⟩
  have hl : Op.bytesLess s.toList t.toList = Op.bytesLess a b := by rw [hs, ht, text_less]
  have hg : Op.bytesLess t.toList s.toList = Op.bytesLess b a := by rw [hs, ht, text_less]
  have hq : (s.toList == t.toList) = (!Op.bytesLess a b && !Op.bytesLess b a) := by
    rw [hs, ht, text_eq, Bool.eq_iff_iff]
    simp only [decide_eq_true_eq, Bool.and_eq_true, Bool.not_eq_true']
    constructor
    · rintro rfl; exact ⟨less_irrefl a, less_irrefl a⟩
    · rintro ⟨h1, h2⟩
      refine Classical.byContradiction fun h => ?_
      rcases less_total a b h with h3 | h3
      · rw [h1] at h3; cases h3
      · rw [h2] at h3; cases h3
  rw [← hs, ← ht]
  rw [← hs] at HA
  rw [← ht] at HB
  clear hs ht
  have HC : Hid (cmpL a b = if Op.bytesLess a b then -1 else if Op.bytesLess b a then 1 else 0) := rfl
  cases h1 : Op.bytesLess a b <;> cases h2 : Op.bytesLess b a <;> rw [h1] at hl HC hq <;> rw [h2] at hg HC hq <;> simp only [Bool.not_true, Bool.not_false, Bool.and_true, Bool.and_false] at hq <;> clear h1 h2
  all_goals
    go_enter Tryd.func53, Tryd.ntmps53
    go_wp2_with (first
      | (go_at_call 69; (with_reducible refine (HA.out _).mono ?_); rintro e w' ⟨rfl, rfl⟩)
      | (go_at_call 69; (with_reducible refine (HB.out _).mono ?_); rintro e w' ⟨rfl, rfl⟩))
    go_ret
    exact ⟨by rw [HC.out]; rfl, rfl⟩
theorem cmpL_le (a b : Bs) : decide (cmpL a b ≤ 0) = !Op.bytesLess b a := by
  unfold cmpL
  cases h : Op.bytesLess a b with
  | true => rw [less_asymm h]; rfl
  | false => cases h2 : Op.bytesLess b a <;> rfl
theorem cmpL_ge (a b : Bs) : decide (0 ≤ cmpL a b) = !Op.bytesLess a b := by
  unfold cmpL
  cases h : Op.bytesLess a b with
  | true => rfl
  | false => cases h2 : Op.bytesLess b a <;> rfl

set_option maxRecDepth 100000 in
theorem keepUnion_any (p q : Bool) (w : World) : Calls Tryd.prog 40 #[.bool p, .bool q] w fun e w' => e = .returned (.bool (p || q)) ∧ w = w' := by
  cases p <;> cases q
  all_goals
    go_enter Tryd.func40, Tryd.ntmps40
    go_wp2
    go_ret
    exact ⟨rfl, rfl⟩
set_option maxRecDepth 100000 in
theorem keepMeet_any (p q : Bool) (w : World) : Calls Tryd.prog 41 #[.bool p, .bool q] w fun e w' => e = .returned (.bool (p && q)) ∧ w = w' := by
  cases p <;> cases q
  all_goals
    go_enter Tryd.func41, Tryd.ntmps41
    go_wp2
    go_ret
    exact ⟨rfl, rfl⟩
set_option maxRecDepth 100000 in
theorem keepLess_any (p q : Bool) (w : World) : Calls Tryd.prog 42 #[.bool p, .bool q] w fun e w' => e = .returned (.bool (p && !q)) ∧ w = w' := by
  cases p <;> cases q
  all_goals
    go_enter Tryd.func42, Tryd.ntmps42
    go_wp2
    go_ret
    exact ⟨rfl, rfl⟩
theorem merge_left (keep : Bool → Bool → Bool) (x : Bs) (X : List Bs) : mergeF keep (x :: X) [] = (if keep true false then [x] else []) ++ mergeF keep X [] := by
  rw [mergeF]; split <;> rfl
theorem merge_right (keep : Bool → Bool → Bool) (y : Bs) (Y : List Bs) : mergeF keep [] (y :: Y) = (if keep false true then [y] else []) ++ mergeF keep [] Y := by
  rw [mergeF]; split <;> rfl
theorem merge_lt (keep : Bool → Bool → Bool) (x y : Bs) (X Y : List Bs) (h : Op.bytesLess x y = true) : mergeF keep (x :: X) (y :: Y) = (if keep true false then [x] else []) ++ mergeF keep X (y :: Y) := by
  rw [mergeF, if_pos h]; split <;> rfl
theorem merge_gt (keep : Bool → Bool → Bool) (x y : Bs) (X Y : List Bs) (h : Op.bytesLess y x = true) : mergeF keep (x :: X) (y :: Y) = (if keep false true then [y] else []) ++ mergeF keep (x :: X) Y := by
  rw [mergeF, less_asymm h, if_neg (by simp), if_pos h]; split <;> rfl
theorem merge_eq (keep : Bool → Bool → Bool) (x : Bs) (X Y : List Bs) : mergeF keep (x :: X) (x :: Y) = (if keep true true then [x] else []) ++ mergeF keep X Y := by
  rw [mergeF, less_irrefl, if_neg (by simp), if_neg (by simp)]; split <;> rfl
theorem SS.rest {w : World} {B : Nat} {A : Option Addr} {x : Bs} {X : List Bs} {c n : Nat} (h : SS w B A (x :: X)) (hn : n = (x :: X).length) (hc : n ≤ c) : SS w B (if c = 1 then A else A.map (fun a => a.add (1 * 1))) X := by
  have := h.cut (k := 1) (c := c) (by simp) (by omega)
  simpa using this
theorem SS.first {w : World} {B : Nat} {A : Option Addr} {x : Bs} {X : List Bs} (h : SS w B A (x :: X)) : ∃ b off, A = some ⟨b, off, none⟩ ∧ b < B ∧ w.cell? ⟨b, off, none⟩ = some (.string (text x)) := by
  obtain ⟨b, off, rfl, hb, hc⟩ := h.at_ (by simp)
  exact ⟨b, off, rfl, hb, by simpa using hc 0 (by simp)⟩
theorem enters_union (args : Array Value) (w : World) : (callFunc 40 args).run Tryd.prog w = .ok (.enter 40 args) w := enters_of Tryd.func40 (by kernel_rfl) rfl args w
theorem enters_meet (args : Array Value) (w : World) : (callFunc 41 args).run Tryd.prog w = .ok (.enter 41 args) w := enters_of Tryd.func41 (by kernel_rfl) rfl args w
theorem enters_less (args : Array Value) (w : World) : (callFunc 42 args).run Tryd.prog w = .ok (.enter 42 args) w := enters_of Tryd.func42 (by kernel_rfl) rfl args w

end Go.Proofs.YtmmilgjdngdnfaaDoor
