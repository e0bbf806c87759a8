/- The walks of bytes.Equal and bytes.Clone. -/
import Derived.Test.YtepeoggacmaenaaMem
import Derived.Lib.SliceRun
set_option linter.unusedVariables false
namespace Go.Proofs.Ytepeoggacmaenaa
open Go.RowKit

theorem equal_any (L M : List UInt8) (A C : Option Addr) (c d B E : Nat) (w : World) (ha : RB w B A L) (hb : RB w E C M) :
    Calls Try.prog 41 #[.slice A L.length c, .slice C M.length d] w fun e w' => e = .returned (.bool (decide (L = M))) ∧ w = w' := by
  have e1 := run_str (P := Try.prog) 22 5 9 Try.underlying22 Try.underlying5 Try.underlying9 ha L.length c rfl
  have e2 := run_str (P := Try.prog) 22 5 9 Try.underlying22 Try.underlying5 Try.underlying9 hb M.length d rfl
  go_enter Try.func41, Try.ntmps41
  go_wp2
  go_ret
  exact ⟨congrArg (fun b => Ending.returned (Value.bool b)) (text_eq L M), rfl⟩
set_option maxRecDepth 100000 in
set_option maxHeartbeats 1000000 in
theorem clone_some (L : List UInt8) (ad : Addr) (c B : Nat) (w : World) (hr : RB w B (some ad) L) (hl : L.length ≤ 140737488351232) :
    Calls Try.prog 42 #[.slice (some ad) L.length c] w (GivesOne L w) := by
  obtain ⟨i0, hi0, hz0, hz1, hz2⟩ := info_parts Try.info5
  have hr := rb_lt hr
  have hn : (binOp .eql 22 (.slice (some ad) L.length c) (.slice none 0 0)).run Try.prog w = .ok (.bool false) w := Lib.run_eql_slice_nil w 22 5 (some ad) L.length c 0 0 Try.underlying22
  go_enter Try.func42, Try.ntmps42
  go_wp2_with (at_builtin; refine wpList_append_any _ rfl (.tmp 5) (.tmp 6) _ rfl w.heap.size 5 i0 _ 1 1 Try.underlying22 hi0 hz0 hz1 hz2 rfl (by omega) (.slice (some ⟨w.heap.size, 0, none⟩) 0 0) 0 [] rfl (World.ownsRow_made w #[] 0 (Nat.le_refl _) (by decide) rfl) w.heap.size (some ad) L.length c (cells L) rfl (hr.alloc (Nat.le_refl _) _) (cells_one _) (by simp only [maxLen]; omega) (by omega) (by simp) ?_; intro v5 w5 ho5 hg5 hat5; simp only [Nat.zero_add, List.nil_append] at ho5; have hb5 : Below w.heap.size w w5 := ((Below.refl _ _).alloc (Nat.le_refl _) _).grown hg5 (by simp) (by simp [Value.ownBlock]))
  obtain ⟨A3, c3, hv⟩ := own_form ho5
  go_ret
  exact ⟨A3, c3, by rw [hv]; rfl, by rw [hv] at ho5; exact ho5, hb5⟩
theorem clone_none (n c : Nat) (w : World) : Calls Try.prog 42 #[.slice none n c] w fun e w' => e = .returned (.slice none 0 0) ∧ w = w' := by
  have hn : (binOp .eql 22 (.slice none n c) (.slice none 0 0)).run Try.prog w = .ok (.bool true) w := Lib.run_eql_slice_nil w 22 5 none n c 0 0 Try.underlying22
  go_enter Try.func42, Try.ntmps42
  go_wp2
  go_ret
  exact ⟨rfl, rfl⟩
/-- bytes.Clone. -/
theorem clone_any (L : List UInt8) (A : Option Addr) (c B : Nat) (w : World) (hr : RB w B A L) (hl : L.length ≤ 140737488351232) :
    Calls Try.prog 42 #[.slice A L.length c] w (GivesOne L w) := by
  rcases A with _ | ad
  · have hL : L = [] := by
      rcases L with _ | ⟨x, L⟩
      · rfl
      · obtain ⟨ad, h, _⟩ := hr.2 (by simp)
        cases h
    subst hL
    refine (clone_none _ c w).mono fun e w' h => ?_
    obtain ⟨he, rfl⟩ := h
    exact ⟨none, 0, he, World.ownsRow_nil _ _ _ _, Below.refl _ _⟩
  · exact clone_some L ad c B w hr hl

end Go.Proofs.Ytepeoggacmaenaa
