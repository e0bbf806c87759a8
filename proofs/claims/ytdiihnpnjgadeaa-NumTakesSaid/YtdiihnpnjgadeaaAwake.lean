/- The walk of awake: chapter 1's example, and others, hold. -/
import Derived.Test.YtdiihnpnjgadeaaOps
import Derived.Test.YtdiihnpnjgadeaaFix
import Derived.Test.YtdiihnpnjgadeaaUnfix
import Derived.Lib.SmallJoins
namespace Go.Proofs.Ytdiihnpnjgadeaa
open Go.RowKit

theorem rb_new (w : World) (L : List UInt8) : RB (w.alloc (.cells (cells L).toArray 5)) (w.heap.size + 1) (some ⟨w.heap.size, 0, none⟩) L := by
  refine ⟨by simp [cells_length], fun h0 => ⟨_, rfl, by simp, fun j u hu => ?_⟩⟩
  have h := heap_alloc_new w (.cells (cells L).toArray 5)
  have e : (⟨w.heap.size, 0, none⟩ : Addr).add j = ⟨w.heap.size, j, none⟩ := by unfold Addr.add; split <;> simp_all
  rw [e, (blk_cell h j).1]
  simpa using hu

theorem rb_newm (w : World) (L : List UInt8) (fr : Nat × Nat) : RB (w.alloc (.cells (cells L).toArray 5 fr)) (w.heap.size + 1) (some ⟨w.heap.size, 0, none⟩) L := by
  refine ⟨by simp [cells_length], fun h0 => ⟨_, rfl, by simp, fun j u hu => ?_⟩⟩
  have e : (⟨w.heap.size, 0, none⟩ : Addr).add j = ⟨w.heap.size, j, none⟩ := by unfold Addr.add; split <;> simp_all
  rw [e, World.cell?_alloc_mark]
  simpa using hu

theorem put300 : putL 300 = [172, 2] := by
  rw [putL_big _ (by decide), putL_small _ (by decide)]; rfl
theorem put2 : putL 2 = [2] := by rw [putL_small _ (by decide)]; rfl

theorem aw_put (w : World) : Calls Try.prog 8 #[.int .i64 300] w (GivesBytes [172, 2] w) := by
  have h := put_yes 300 w (by decide)
  rw [put300] at h
  exact h
theorem aw_get3 (g0 : Nat) (w : World) (hg0 : g0 = w.heap.size) : Calls Try.prog 12 #[.slice (some ⟨g0, 0, none⟩) 3 3] (w.alloc (.cells #[.int .u8 172, .int .u8 2, .int .u8 9] 5)) fun e w' => e = .returned (.tuple #[.int .i64 300, .int .i64 2, .int .i64 0]) ∧ w.alloc (.cells #[.int .u8 172, .int .u8 2, .int .u8 9] 5) = w' := by
  subst hg0
  have h := get_any [172, 2, 9] (some ⟨w.heap.size, 0, none⟩) 3 (w.heap.size + 1) _ (rb_new w [172, 2, 9]) (by decide)
  have e : getL [172, 2, 9] = some (300, 2) := by decide
  rw [e] at h
  exact h
theorem aw_get2 (g0 : Nat) (w : World) (hg0 : g0 = w.heap.size) : Calls Try.prog 12 #[.slice (some ⟨g0, 0, none⟩) 2 2] (w.alloc (.cells #[.int .u8 128, .int .u8 0] 5)) fun e w' => e = .returned (.tuple #[.int .i64 0, .int .i64 0, .int .i64 5]) ∧ w.alloc (.cells #[.int .u8 128, .int .u8 0] 5) = w' := by
  subst hg0
  have h := get_any [128, 0] (some ⟨w.heap.size, 0, none⟩) 2 (w.heap.size + 1) _ (rb_new w [128, 0]) (by decide)
  have e : getL [128, 0] = none := by decide
  rw [e] at h
  exact h
theorem aw_text (g0 : Nat) (w : World) (hg0 : g0 = w.heap.size) : Calls Try.prog 16 #[.slice (some ⟨g0, 0, none⟩) 2 2] (w.alloc (.cells #[.int .u8 97, .int .u8 98] 5 (2, 3))) (GivesBytes [2, 97, 98] (w.alloc (.cells #[.int .u8 97, .int .u8 98] 5 (2, 3)))) := by
  subst hg0
  have h := text_yes [97, 98] (some ⟨w.heap.size, 0, none⟩) 2 0 _ ((rb_newm w [97, 98] (2, 3)).more (by simp)) (by decide)
  have e : putL ([97, 98] : List UInt8).length ++ [97, 98] = ([2, 97, 98] : List UInt8) := by
    show putL 2 ++ _ = _
    rw [put2]; rfl
  rw [e] at h
  exact h
theorem aw_fix2 (w : World) : Calls Try.prog 10 #[.int .i64 258, .int .i64 2] w (GivesBytes [2, 1] w) := by
  have h := fix_yes 258 2 w (by decide) (by decide) (by decide) (by decide)
  exact h
theorem aw_fix1 (w : World) : Calls Try.prog 10 #[.int .i64 256, .int .i64 1] w (GivesErr 1 w) := fix_no 256 1 w (.inr (.inr (.inr (.inr (by decide)))))
theorem aw_unfix (g0 : Nat) (w : World) (hg0 : g0 = w.heap.size) : Calls Try.prog 13 #[.slice (some ⟨g0, 0, none⟩) 2 2] (w.alloc (.cells #[.int .u8 2, .int .u8 1] 5)) fun e w' => e = .returned (.tuple #[.int .i64 258, .int .i64 0]) ∧ w.alloc (.cells #[.int .u8 2, .int .u8 1] 5) = w' := by
  subst hg0
  have h := unfix_any [2, 1] (some ⟨w.heap.size, 0, none⟩) 2 (w.heap.size + 1) _ (rb_new w [2, 1]) (by decide)
  have e : unfixR [2, 1] = (258, 0) := by decide
  rw [e] at h
  exact h
theorem aw_from (g0 : Nat) (w : World) (hg0 : g0 = w.heap.size) : Calls Try.prog 18 #[.slice (some ⟨g0, 0, none⟩) 5 5] (w.alloc (.cells #[.int .u8 2, .int .u8 97, .int .u8 98, .int .u8 7, .int .u8 5] 5)) fun e w' => ∃ g, e = .returned (.pointer (some ⟨g, 0, none⟩)) ∧ w.heap.size + 1 ≤ g ∧ Cur w' g (some [2, 97, 98, 7, 5]) ∧ Below (w.heap.size + 1) (w.alloc (.cells #[.int .u8 2, .int .u8 97, .int .u8 98, .int .u8 7, .int .u8 5] 5)) w' := by
  subst hg0
  have h := from_any [2, 97, 98, 7, 5] (some ⟨w.heap.size, 0, none⟩) 5 _ ((rb_new w [2, 97, 98, 7, 5]).more (by simp)) (by decide)
  refine h.mono fun e w' ⟨g, h1, h2, h3, h4⟩ => ⟨g, h1, by simpa using h2, h3, h4.mono (by simp)⟩
theorem aw_ctext (g : Nat) (w : World) (h : Cur w g (some [2, 97, 98, 7, 5])) : Calls Try.prog 19 #[.pointer (some ⟨g, 0, none⟩)] w (GivesCur g (some [7, 5], [97, 98]) w) := ctext_any g _ w h
theorem aw_byte (g : Nat) (w : World) (h : Cur w g (some [7, 5])) : Calls Try.prog 26 #[.pointer (some ⟨g, 0, none⟩)] w fun e w' => e = .returned (.int .i64 7) ∧ Cur w' g (some [5]) ∧ Only w w' g := byte_any g _ w h
theorem aw_take (g : Nat) (w : World) (h : Cur w g (some [5])) : Calls Try.prog 29 #[.pointer (some ⟨g, 0, none⟩), .int .i64 2] w (GivesCur g (none, []) w) := take_any g 2 _ w h
theorem aw_bad (g : Nat) (w : World) (h : Cur w g none) : Calls Try.prog 21 #[.pointer (some ⟨g, 0, none⟩)] w fun e w' => e = .returned (.bool true) ∧ w = w' := bad_any g _ w h
theorem aw_left (g : Nat) (w : World) (h : Cur w g none) : Calls Try.prog 20 #[.pointer (some ⟨g, 0, none⟩)] w fun e w' => e = .returned (.int .i64 0) ∧ w = w' := left_any g _ w h


end Go.Proofs.Ytdiihnpnjgadeaa
