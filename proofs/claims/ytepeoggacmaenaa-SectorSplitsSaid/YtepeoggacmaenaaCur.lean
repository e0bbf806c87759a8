/- The walks of num's cursor: copied, From, Bad, Left, fail. -/
import Derived.Test.YtepeoggacmaenaaMem
import Derived.Lib.Hide
import Derived.Laws.CopyOwn
set_option linter.unusedVariables false
set_option linter.unusedSimpArgs false
namespace Go.Proofs.Ytepeoggacmaenaa
open Go.RowKit

set_option maxRecDepth 100000 in
set_option maxHeartbeats 1000000 in
theorem copied_any (L : List UInt8) (n : Nat) (A : Option Addr) (c : Nat) (w : World) (hn : n = L.length) (hr : RB w w.heap.size A L) (hl : L.length ≤ 1048576) :
    Calls Try.prog 45 #[.slice A n c] w (GivesOne L w) := by
  subst hn
  obtain ⟨i0, hi0, hz0, hz1, hz2⟩ := info_parts Try.info5
  have hby : i0.bytes = 1 := hz2
  go_enter Try.func45, Try.ntmps45
  go_wp2_with (first
    | (at_make; refine wpList_make_full _ rfl _ _ 22 rfl w.heap.size 5 i0 _ 1 Try.underlying22 hi0 hz0 hz1 .i64 .i64 _ _ L.length rfl rfl rfl rfl (by rw [hby]; omega) (by unfold maxLen; omega) (Nat.le_refl _) ?_; intro w1 hown hgrow; have hg1 := made_block hown; have hb1 : Below w.heap.size w w1 := (Below.refl _ _).grown hgrow (Nat.le_refl _) (by simp); have hr1 := hr.below hb1; clear hown hgrow)
    | (with_reducible show wpList _ _ _ (⟨some 9, _, _, _, _, _⟩ :: _) _ _; refine wpList_copy_splice rfl (.tmp 7) (.tmp 8) 22 22 rfl 5 Try.underlying22 Try.size5 (some ⟨w.heap.size, 0, none⟩) A L.length L.length L.length c rfl rfl w.heap.size 0 (List.replicate L.length (.int .u8 0)) 5 hg1 (cells L) (by rw [cells_length]; simp) (rb_src hr1 _) (by simp [cells_length]) (cells_one _) w.heap.size w hb1 (Nat.le_refl _) ?_; intro w2 hg2 hb2))
  go_ret
  refine ⟨some ⟨w.heap.size, 0, none⟩, L.length, rfl, ?_, hb2⟩
  have h2 := hg2.out
  rw [splice_all _ _ (by simp [cells_length])] at h2
  exact block_own h2 (Nat.le_refl _) hl
/-- A cursor's block, and where it stands: what is left, or that it is bad. -/
def Cur (w : World) (g : Nat) : Option (List UInt8) → Prop
  | none => w.heap[g]? = some (.cells #[.slice none 0 0, .bool true] 66 (0, 0))
  | some L => ∃ A c, w.heap[g]? = some (.cells #[.slice A L.length c, .bool false] 66 (0, 0)) ∧ RB w w.heap.size A L ∧ L.length ≤ c ∧ L.length ≤ 1048576
set_option maxRecDepth 100000 in
set_option maxHeartbeats 1000000 in
theorem from_any (L : List UInt8) (A : Option Addr) (c : Nat) (w : World) (hr : RB w w.heap.size A L) (hl : L.length ≤ 1048576) :
    Calls Try.prog 28 #[.slice A L.length c] w fun e w' => ∃ g, e = .returned (.pointer (some ⟨g, 0, none⟩)) ∧ w.heap.size ≤ g ∧ Cur w' g (some L) ∧ Below w.heap.size w w' := by
  go_enter Try.func28, Try.ntmps28
  go_wp2_with (go_at_call 45; refine (copied_any L _ _ _ _ rfl hr hl).mono ?_; rintro e w1 ⟨A1, c1, rfl, hown1, hb1⟩)
  go_ret
  have hz := hb1.size
  exact ⟨w1.heap.size, rfl, hz, ⟨A1, c1, heap_alloc_new _ _, ((own_rb hown1).alloc (Nat.le_refl _) _).more (by simp), own_le hown1, hl⟩, hb1.alloc hz _⟩
set_option maxHeartbeats 1000000 in
theorem bad_any (g : Nat) (st : Option (List UInt8)) (w : World) (h : Cur w g st) : Calls Try.prog 44 #[.pointer (some ⟨g, 0, none⟩)] w fun e w' => e = .returned (.bool st.isNone) ∧ w = w' := by
  rcases st with _ | L
  · have hc : w.cell? ⟨g, 1, none⟩ = some (.bool true) := (blk_cell h 1).1
    clear h
    go_enter Try.func44, Try.ntmps44
    go_wp2
    go_ret
    exact ⟨rfl, rfl⟩
  · obtain ⟨A, c, h, _, _⟩ := h
    have hc : w.cell? ⟨g, 1, none⟩ = some (.bool false) := (blk_cell h 1).1
    clear h
    go_enter Try.func44, Try.ntmps44
    go_wp2
    go_ret
    exact ⟨rfl, rfl⟩
theorem bad_nil (w : World) : Calls Try.prog 44 #[.pointer none] w fun e w' => e = .returned (.bool true) ∧ w = w' := by
  go_enter Try.func44, Try.ntmps44
  go_wp2
  go_ret
  exact ⟨rfl, rfl⟩
/-- What is left, as a number. -/
def leftN : Option (List UInt8) → Nat
  | none => 0
  | some L => L.length
set_option maxHeartbeats 1000000 in
theorem left_any (g : Nat) (st : Option (List UInt8)) (w : World) (h : Cur w g st) : Calls Try.prog 33 #[.pointer (some ⟨g, 0, none⟩)] w fun e w' => e = .returned (.int .i64 (leftN st : Int)) ∧ w = w' := by
  have hb := bad_any g st w h
  rcases st with _ | L
  · clear h
    go_enter Try.func33, Try.ntmps33
    go_wp2_with (go_at_call 44; refine hb.mono ?_; rintro e w' ⟨rfl, rfl⟩)
    go_ret
    exact ⟨rfl, rfl⟩
  · obtain ⟨A, c, h, _, _⟩ := h
    have hc : w.cell? ⟨g, 0, none⟩ = some (.slice A L.length c) := (blk_cell h 0).1
    clear h
    go_enter Try.func33, Try.ntmps33
    go_wp2_with (go_at_call 44; refine hb.mono ?_; rintro e w' ⟨rfl, rfl⟩)
    go_ret
    exact ⟨rfl, rfl⟩
theorem left_nil (w : World) : Calls Try.prog 33 #[.pointer none] w fun e w' => e = .returned (.int .i64 0) ∧ w = w' := by
  go_enter Try.func33, Try.ntmps33
  go_wp2_with (go_at_call 44; refine (bad_nil _).mono ?_; rintro e w' ⟨rfl, rfl⟩)
  go_ret
  exact ⟨rfl, rfl⟩
/-- Bytes stay where only the cursor's block is written. -/
theorem rb_far {w : World} {B g i : Nat} {A : Option Addr} {L : List UInt8} {cs : Array Value} {t : TypeId} (h : RB w B A L) (hg : w.heap[g]? = some (.cells cs t (0, 0))) (hcs : ∀ (j : Nat) (k : IntKind) (z : Int), cs[j]? ≠ some (.int k z)) (u : Value) : RB (w.setCell ⟨g, i, none⟩ u) B A L := by
  refine ⟨h.1, fun hn => ?_⟩
  obtain ⟨b, off, rfl, hb, hc⟩ := RB.at_ h hn
  have hne : b ≠ g := by
    rintro rfl
    have h0 := hc 0 hn
    rw [Nat.add_zero, (blk_cell hg off).1] at h0
    exact hcs _ _ _ h0
  obtain ⟨ad, e, hb', hc'⟩ := h.2 hn
  injection e with e
  subst e
  refine ⟨_, rfl, hb', fun j v hv => ?_⟩
  rw [World.cell?_setCell_other _ _ _ _ (by intro hx; apply hne; have h9 := congrArg Addr.block hx; rw [block_of_add] at h9; exact h9.symm)]
  exact hc' j v hv
theorem cur_cells (A : Option Addr) (n c : Nat) (b : Bool) : ∀ (j : Nat) (k : IntKind) (z : Int), (#[Value.slice A n c, Value.bool b])[j]? ≠ some (.int k z) := by
  intro j k z
  match j with
  | 0 => simp
  | 1 => simp
  | j + 2 => simp
set_option maxHeartbeats 1000000 in
theorem fail_any (g : Nat) (st : Option (List UInt8)) (w : World) (h : Cur w g st) : Calls Try.prog 46 #[.pointer (some ⟨g, 0, none⟩)] w fun e w' => e = .returned (.tuple #[]) ∧ Cur w' g none ∧ Only w w' g ∧ w'.heap.size = w.heap.size := by
  have hx : ∃ A n c b, w.heap[g]? = some (.cells #[.slice A n c, .bool b] 66 (0, 0)) := by
    rcases st with _ | L
    · exact ⟨_, _, _, _, h⟩
    · obtain ⟨A, c, h, _⟩ := h
      exact ⟨_, _, _, _, h⟩
  obtain ⟨A, n, c, b, hg⟩ := hx
  have hc0 : w.cell? ⟨g, 0, none⟩ = some (.slice A n c) := (blk_cell hg 0).1
  have hc1 : w.cell? ⟨g, 1, none⟩ = some (.bool b) := (blk_cell hg 1).1
  have hf0 : w.frozen? ⟨g, 0, none⟩ = false := (blk_cell hg 0).2
  have hf1 : w.frozen? ⟨g, 1, none⟩ = false := (blk_cell hg 1).2
  have HG := Lib.hid hg
  clear h hg
  go_enter Try.func46, Try.ntmps46
  go_wp2
  go_end0
  have h1 := Blk.set_ (Blk.set_ HG.out 1 (.bool true)) 0 (.slice none 0 0)
  exact ⟨rfl, h1, only_trans (only_set _ _ _ _) (only_set _ _ _ _), by simp [World.setCell]⟩

end Go.Proofs.Ytepeoggacmaenaa
