/- Lemmas under the proofs of this place: Cur, Unfix, BytesFns. No statement is proved here. -/
import Derived.Test.YtpedgkghfehkjaaBu03
import Derived.Lib.Hide
import Derived.Laws.CopyOwn
import Derived.Lib.SliceRun
section
set_option linter.unusedVariables false
set_option linter.unusedSimpArgs false
namespace Go.Proofs.Ytpedgkghfehkjaa
open Go.RowKit
set_option maxRecDepth 100000 in
set_option maxHeartbeats 1000000 in
theorem copied_any (L : List UInt8) (n : Nat) (A : Option Addr) (c : Nat) (w : World) (hn : n = L.length) (hr : RB w w.heap.size A L) (hl : L.length ≤ 1048576) :
    Calls Try.prog 46 #[.slice A n c] w (GivesOne L w) := by
  subst hn
  obtain ⟨i0, hi0, hz0, hz1, hz2⟩ := info_parts Try.info5
  have hby : i0.bytes = 1 := hz2
  go_enter Try.func46, Try.ntmps46
  go_wp2_with (first
    | (at_make; refine wpList_make_full _ rfl _ _ 22 rfl w.heap.size 5 i0 _ 1 Try.underlying22 hi0 hz0 hz1 .i64 .i64 _ _ L.length rfl rfl rfl rfl (by rw [hby]; omega) (by unfold maxLen; omega) (Nat.le_refl _) ?_; intro w1 hown hgrow; have hg1 := made_block hown; have hb1 : Below w.heap.size w w1 := (Below.refl _ _).grown hgrow (Nat.le_refl _) (by simp); have hr1 := hr.below hb1; clear hown hgrow)
    | (with_reducible show wpList _ _ _ (⟨some 9, _, _, _, _, _⟩ :: _) _ _; refine wpList_copy_splice rfl (.tmp 7) (.tmp 8) 22 22 rfl 5 Try.underlying22 Try.size5 (some ⟨w.heap.size, 0, none⟩) A L.length L.length L.length c rfl rfl w.heap.size 0 (List.replicate L.length (.int .u8 0)) 5 hg1 (cells L) (by rw [cells_length]; simp) (rb_src hr1 _) (by simp [cells_length]) (cells_one _) w.heap.size w hb1 (Nat.le_refl _) ?_; intro w2 hg2 hb2))
  go_ret
  refine ⟨some ⟨w.heap.size, 0, none⟩, L.length, rfl, ?_, hb2⟩
  have h2 := hg2.out
  rw [splice_all _ _ (by simp [cells_length])] at h2
  exact block_own h2 (Nat.le_refl _) hl
def Cur (w : World) (g : Nat) : Option (List UInt8) → Prop
  | none => w.heap[g]? = some (.cells #[.slice none 0 0, .bool true] 70 (0, 0))
  | some L => ∃ A c, w.heap[g]? = some (.cells #[.slice A L.length c, .bool false] 70 (0, 0)) ∧ RB w w.heap.size A L ∧ L.length ≤ c ∧ L.length ≤ 1048576
set_option maxRecDepth 100000 in
set_option maxHeartbeats 1000000 in
theorem from_any (L : List UInt8) (A : Option Addr) (c : Nat) (w : World) (hr : RB w w.heap.size A L) (hl : L.length ≤ 1048576) :
    Calls Try.prog 27 #[.slice A L.length c] w fun e w' => ∃ g, e = .returned (.pointer (some ⟨g, 0, none⟩)) ∧ w.heap.size ≤ g ∧ Cur w' g (some L) ∧ Below w.heap.size w w' := by
  go_enter Try.func27, Try.ntmps27
  go_wp2_with (go_at_call 46; refine (copied_any L _ _ _ _ rfl hr hl).mono ?_; rintro e w1 ⟨A1, c1, rfl, hown1, hb1⟩)
  go_ret
  have hz := hb1.size
  exact ⟨w1.heap.size, rfl, hz, ⟨A1, c1, heap_alloc_new _ _, ((own_rb hown1).alloc (Nat.le_refl _) _).more (by simp), own_le hown1, hl⟩, hb1.alloc hz _⟩
set_option maxHeartbeats 1000000 in
theorem bad_any (g : Nat) (st : Option (List UInt8)) (w : World) (h : Cur w g st) : Calls Try.prog 45 #[.pointer (some ⟨g, 0, none⟩)] w fun e w' => e = .returned (.bool st.isNone) ∧ w = w' := by
  rcases st with _ | L
  · have hc : w.cell? ⟨g, 1, none⟩ = some (.bool true) := (blk_cell h 1).1
    clear h
    go_enter Try.func45, Try.ntmps45
    go_wp2
    go_ret
    exact ⟨rfl, rfl⟩
  · obtain ⟨A, c, h, _, _⟩ := h
    have hc : w.cell? ⟨g, 1, none⟩ = some (.bool false) := (blk_cell h 1).1
    clear h
    go_enter Try.func45, Try.ntmps45
    go_wp2
    go_ret
    exact ⟨rfl, rfl⟩
def leftN : Option (List UInt8) → Nat
  | none => 0
  | some L => L.length
set_option maxHeartbeats 1000000 in
theorem left_any (g : Nat) (st : Option (List UInt8)) (w : World) (h : Cur w g st) : Calls Try.prog 44 #[.pointer (some ⟨g, 0, none⟩)] w fun e w' => e = .returned (.int .i64 (leftN st : Int)) ∧ w = w' := by
  have hb := bad_any g st w h
  rcases st with _ | L
  · clear h
    go_enter Try.func44, Try.ntmps44
    go_wp2_with (go_at_call 45; refine hb.mono ?_; rintro e w' ⟨rfl, rfl⟩)
    go_ret
    exact ⟨rfl, rfl⟩
  · obtain ⟨A, c, h, _, _⟩ := h
    have hc : w.cell? ⟨g, 0, none⟩ = some (.slice A L.length c) := (blk_cell h 0).1
    clear h
    go_enter Try.func44, Try.ntmps44
    go_wp2_with (go_at_call 45; refine hb.mono ?_; rintro e w' ⟨rfl, rfl⟩)
    go_ret
    exact ⟨rfl, rfl⟩
theorem rb_far {w : World} {B g i : Nat} {A : Option Addr} {L : List UInt8} {cs : Array Value} {t : TypeId} (h : RB w B A L) (hg : w.heap[g]? = some (.cells cs t (0, 0))) (hcs : ∀ (j : Nat) (k : IntKind) (z : Int), cs[j]? ≠ some (.int k z)) (u : Value) : RB (w.setCell ⟨g, i, none⟩ u) B A L := by
  refine ⟨h.1, fun hn => ?_⟩
  obtain ⟨b, off, rfl, hb, hc⟩ := RB.at_ h hn
  have hne : b ≠ g := by
    rintro rfl
    have h0 := hc 0 hn
    rw [Nat.add_zero, (blk_cell hg off).1] at h0
    exact hcs _ _ _ h0
  obtain ⟨ad, e, hb', hc'⟩ := h.2 hn
  injection e with e
  subst e
  refine ⟨_, rfl, hb', fun j v hv => ?_⟩
  rw [World.cell?_setCell_other _ _ _ _ (by intro hx; apply hne; have h9 := congrArg Addr.block hx; rw [block_of_add] at h9; exact h9.symm)]
  exact hc' j v hv
theorem cur_cells (A : Option Addr) (n c : Nat) (b : Bool) : ∀ (j : Nat) (k : IntKind) (z : Int), (#[Value.slice A n c, Value.bool b])[j]? ≠ some (.int k z) := by
  intro j k z
  match j with
  | 0 => simp
  | 1 => simp
  | j + 2 => simp
set_option maxHeartbeats 1000000 in
theorem fail_any (g : Nat) (st : Option (List UInt8)) (w : World) (h : Cur w g st) : Calls Try.prog 53 #[.pointer (some ⟨g, 0, none⟩)] w fun e w' => e = .returned (.tuple #[]) ∧ Cur w' g none ∧ Only w w' g ∧ w'.heap.size = w.heap.size := by
  have hx : ∃ A n c b, w.heap[g]? = some (.cells #[.slice A n c, .bool b] 70 (0, 0)) := by
    rcases st with _ | L
    · exact ⟨_, _, _, _, h⟩
    · obtain ⟨A, c, h, _⟩ := h
      exact ⟨_, _, _, _, h⟩
  obtain ⟨A, n, c, b, hg⟩ := hx
  have hc0 : w.cell? ⟨g, 0, none⟩ = some (.slice A n c) := (blk_cell hg 0).1
  have hc1 : w.cell? ⟨g, 1, none⟩ = some (.bool b) := (blk_cell hg 1).1
  have hf0 : w.frozen? ⟨g, 0, none⟩ = false := (blk_cell hg 0).2
  have hf1 : w.frozen? ⟨g, 1, none⟩ = false := (blk_cell hg 1).2
  have HG := Lib.hid hg
  clear h hg
  go_enter Try.func53, Try.ntmps53
  go_wp2
  go_end0
  have h1 := Blk.set_ (Blk.set_ HG.out 1 (.bool true)) 0 (.slice none 0 0)
  exact ⟨rfl, h1, only_trans (only_set _ _ _ _) (only_set _ _ _ _), by simp [World.setCell]⟩
end Go.Proofs.Ytpedgkghfehkjaa
end
section
set_option linter.unusedVariables false
set_option linter.unusedSimpArgs false
namespace Go.Proofs.Ytpedgkghfehkjaa
open Go.RowKit
def unfixR (L : List UInt8) : Nat × Nat :=
  if L.length < 1 ∨ 4 < L.length then (0, 1) else if 2147483647 < unfixL L then (0, 5) else (unfixL L, 0)
theorem unfix_ok {n : Nat} {L : List UInt8} (hl : L.length = n) (h1 : 1 ≤ n) (h4 : n ≤ 4) (h : unfixL L ≤ 2147483647) : unfixR L = (unfixL L, 0) := by unfold unfixR; rw [if_neg (by omega), if_neg (by omega)]
theorem unfix_bad {n : Nat} {L : List UInt8} (hl : L.length = n) (h1 : 1 ≤ n) (h4 : n ≤ 4) (h : ¬ unfixL L ≤ 2147483647) : unfixR L = (0, 5) := by unfold unfixR; rw [if_neg (by omega), if_pos (by omega)]
def UnfixPost (r : Nat × Nat) (e : Ending) : Prop := e = .returned (.tuple #[.int .i64 (r.1 : Int), .int .i64 (r.2 : Int)])
theorem unfix_take (L : List UInt8) (k : Nat) (h : k < L.length) : unfixL (L.take (k + 1)) = unfixL (L.take k) + L[k].toNat * 256 ^ k := by
  rw [List.take_succ_eq_append_getElem h, unfixL_append]
  simp [unfixL, Nat.min_eq_left (Nat.le_of_lt h), Nat.mul_comm]
theorem unfix_or (acc x k : Nat) (hk : k < 4) (ha : acc < 256 ^ k) (hx : x < 256) :
    bits .or .u64 (acc : Int) (IntKind.u64.wrap ((x : Int) * 2 ^ (8 * k))) = ((acc + x * 256 ^ k : Nat) : Int) ∧ acc + x * 256 ^ k < 256 ^ (k + 1) := by
  have e : (256 : Nat) ^ k = 2 ^ (8 * k) := by rw [Nat.pow_mul]
  have hle : (256 : Nat) ^ k ≤ 256 ^ 3 := Nat.pow_le_pow_right (by omega) (by omega)
  have hm : x * 256 ^ k ≤ 255 * 256 ^ k := Nat.mul_le_mul_right _ (by omega)
  refine ⟨?_, by rw [Nat.pow_succ]; omega⟩
  rw [e] at ha hm hle ⊢
  exact or_shl acc x (8 * k) ha (by omega)
set_option maxRecDepth 100000 in
set_option maxHeartbeats 2000000 in
theorem unfix_any (L : List UInt8) (A : Option Addr) (c B : Nat) (w : World) (hr : RB w B A L) (hl : L.length ≤ 1048576) :
    Calls Try.prog 52 #[.slice A L.length c] w fun e w' => UnfixPost (unfixR L) e ∧ w = w' := by
  by_cases h1 : L.length < 1
  · have HR : Hid (unfixR L = (0, 1)) := by show _ = _; unfold unfixR; rw [if_pos (.inl h1)]
    go_enter Try.func52, Try.ntmps52
    go_wp2
    go_ret2
    exact ⟨by rw [HR.out]; exact rfl, rfl⟩
  by_cases h4 : 4 < L.length
  · have HR : Hid (unfixR L = (0, 1)) := by show _ = _; unfold unfixR; rw [if_pos (.inr h4)]
    go_enter Try.func52, Try.ntmps52
    go_wp2
    go_ret2
    exact ⟨by rw [HR.out]; exact rfl, rfl⟩
  obtain ⟨b, off, rfl, hb, hcell⟩ := hr.at_ (by omega)
  have HC : Hid (∀ (k : Nat) (hk : k < L.length), w.cell? ⟨b, off + k, none⟩ = some (Value.int .u8 (L[k].toNat : Int))) := hcell
  have HR : Hid (unfixR L = if 2147483647 < unfixL L then (0, 5) else (unfixL L, 0)) := by show _ = _; unfold unfixR; rw [if_neg (by omega)]
  clear hcell hr
  go_enter Try.func52, Try.ntmps52
  go_wp2
  go_loop [4, 17] (fun n i => ∃ k acc : Nat, k ≤ L.length ∧ i = .int .i64 (k : Int) ∧ n = .int .u64 (acc : Int) ∧ acc = unfixL (L.take k)) (fun _ i => 5 - (intOf i).toNat)
  case atStart => exact ⟨0, 0, by omega, rfl, rfl, rfl⟩
  case round =>
    obtain ⟨k, acc, hkl, rfl, rfl, hacc⟩ := hrel
    have hlt2 : acc < 256 ^ k := by have := unfixL_lt (L.take k); rw [hacc]; rwa [List.length_take, Nat.min_eq_left hkl] at this
    by_cases hlt : k < L.length
    · obtain ⟨x, hx⟩ : ∃ x : Nat, x = L[k].toNat := ⟨_, rfl⟩
      have hck := HC.out k hlt
      rw [← hx] at hck
      have hx256 : x < 256 := by rw [hx]; exact byte_lt _
      obtain ⟨acc', ha'⟩ : ∃ acc' : Nat, acc' = acc + x * 256 ^ k := ⟨_, rfl⟩
      obtain ⟨he, _⟩ := unfix_or acc x k (by omega) hlt2 hx256
      rw [← ha'] at he
      have HA : Hid (acc' = unfixL (L.take (k + 1))) := by show _ = _; rw [unfix_take L k hlt, ← hacc, ← hx, ha']
      clear hx ha' hacc hlt2
      go_wp2
      go_round
      case rel => exact ⟨k + 1, acc', by omega, by go_num, rfl, HA.out⟩
      case measure => simp [intOf]; omega
    · have hk : k = L.length := by omega
      have HA : Hid (acc = unfixL L) := by show _ = _; rw [hacc, List.take_of_length_le (by omega)]
      have hlt3 : acc < 4294967296 := Nat.lt_of_lt_of_le hlt2 (Nat.le_trans (Nat.pow_le_pow_right (by omega) (show k ≤ 4 by omega)) (by decide))
      clear hacc hlt2 hk
      by_cases hm : 2147483647 < acc
      · go_wp2
        go_ret2
        exact ⟨by rw [HR.out, ← HA.out, if_pos hm]; exact rfl, rfl⟩
      · go_wp2
        go_ret2
        exact ⟨by rw [HR.out, ← HA.out, if_neg hm]; exact rfl, rfl⟩
end Go.Proofs.Ytpedgkghfehkjaa
end
section
set_option linter.unusedVariables false
namespace Go.Proofs.Ytpedgkghfehkjaa
open Go.RowKit
theorem equal_any (L M : List UInt8) (A C : Option Addr) (c d B E : Nat) (w : World) (ha : RB w B A L) (hb : RB w E C M) :
    Calls Try.prog 41 #[.slice A L.length c, .slice C M.length d] w fun e w' => e = .returned (.bool (decide (L = M))) ∧ w = w' := by
  have e1 := run_str (P := Try.prog) 22 5 9 Try.underlying22 Try.underlying5 Try.underlying9 ha L.length c rfl
  have e2 := run_str (P := Try.prog) 22 5 9 Try.underlying22 Try.underlying5 Try.underlying9 hb M.length d rfl
  go_enter Try.func41, Try.ntmps41
  go_wp2
  go_ret
  exact ⟨congrArg (fun b => Ending.returned (Value.bool b)) (text_eq L M), rfl⟩
set_option maxRecDepth 100000 in
set_option maxHeartbeats 1000000 in
theorem clone_some (L : List UInt8) (ad : Addr) (c B : Nat) (w : World) (hr : RB w B (some ad) L) (hl : L.length ≤ 140737488351232) :
    Calls Try.prog 34 #[.slice (some ad) L.length c] w (GivesOne L w) := by
  obtain ⟨i0, hi0, hz0, hz1, hz2⟩ := info_parts Try.info5
  have hr := rb_lt hr
  have hn : (binOp .eql 22 (.slice (some ad) L.length c) (.slice none 0 0)).run Try.prog w = .ok (.bool false) w := Lib.run_eql_slice_nil w 22 5 (some ad) L.length c 0 0 Try.underlying22
  go_enter Try.func34, Try.ntmps34
  go_wp2_with (at_builtin; refine wpList_append_any _ rfl (.tmp 5) (.tmp 6) _ rfl w.heap.size 5 i0 _ 1 1 Try.underlying22 hi0 hz0 hz1 hz2 rfl (by omega) (.slice (some ⟨w.heap.size, 0, none⟩) 0 0) 0 [] rfl (World.ownsRow_made w #[] 0 (Nat.le_refl _) (by decide) rfl) w.heap.size (some ad) L.length c (cells L) rfl (hr.alloc (Nat.le_refl _) _) (cells_one _) (by simp only [maxLen]; omega) (by omega) (by simp) ?_; intro v5 w5 ho5 hg5 hat5; simp only [Nat.zero_add, List.nil_append] at ho5; have hb5 : Below w.heap.size w w5 := ((Below.refl _ _).alloc (Nat.le_refl _) _).grown hg5 (by simp) (by simp [Value.ownBlock]))
  obtain ⟨A3, c3, hv⟩ := own_form ho5
  go_ret
  exact ⟨A3, c3, by rw [hv]; rfl, by rw [hv] at ho5; exact ho5, hb5⟩
theorem clone_none (n c : Nat) (w : World) : Calls Try.prog 34 #[.slice none n c] w fun e w' => e = .returned (.slice none 0 0) ∧ w = w' := by
  have hn : (binOp .eql 22 (.slice none n c) (.slice none 0 0)).run Try.prog w = .ok (.bool true) w := Lib.run_eql_slice_nil w 22 5 none n c 0 0 Try.underlying22
  go_enter Try.func34, Try.ntmps34
  go_wp2
  go_ret
  exact ⟨rfl, rfl⟩
theorem clone_any (L : List UInt8) (A : Option Addr) (c B : Nat) (w : World) (hr : RB w B A L) (hl : L.length ≤ 140737488351232) :
    Calls Try.prog 34 #[.slice A L.length c] w (GivesOne L w) := by
  rcases A with _ | ad
  · have hL : L = [] := by
      rcases L with _ | ⟨x, L⟩
      · rfl
      · obtain ⟨ad, h, _⟩ := hr.2 (by simp)
        cases h
    subst hL
    refine (clone_none _ c w).mono fun e w' h => ?_
    obtain ⟨he, rfl⟩ := h
    exact ⟨none, 0, he, World.ownsRow_nil _ _ _ _, Below.refl _ _⟩
  · exact clone_some L ad c B w hr hl
end Go.Proofs.Ytpedgkghfehkjaa
end
