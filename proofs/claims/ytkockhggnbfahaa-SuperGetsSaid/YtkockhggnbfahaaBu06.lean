/- Lemmas under the proofs of this place: SectRMay, Nots, Cur. No statement is proved here. -/
import Derived.Test.YtkockhggnbfahaaBu01
import Derived.Test.YtkockhggnbfahaaBu04
import Derived.Lib.Hide
import Derived.Laws.CopyOwn
section
set_option linter.unusedVariables false
namespace Go.Proofs.Ytkockhggnbfahaa
open Go.RowKit
def secV (s : Sd) (A : Option Addr) (c : Nat) : Value := .agg #[.int .i64 s.kind, .int .i64 s.epoch, .int .i64 s.number, .int .i64 s.left, .slice A s.data.length c]
set_option maxRecDepth 100000 in
set_option maxHeartbeats 2000000 in
theorem rmay_any (s : Sd) (A : Option Addr) (c : Nat) (w : World) : Calls Try.prog 68 #[secV s A c] w fun e w' => e = .returned (.bool s.may) ∧ Below w.heap.size w w' := by
  obtain ⟨k, ep, n, l, D⟩ := s
  unfold secV
  obtain ⟨m, hm⟩ : ∃ m, m = D.length := ⟨_, rfl⟩
  have HS : Hid (Sd.may ⟨k, ep, n, l, D⟩ = (decide (1 ≤ k) && (decide (k ≤ 255) && (decide (0 ≤ ep) && (decide (ep ≤ 2147483647) && (decide (0 ≤ n) && (decide (n ≤ 2147483647) && (decide (0 ≤ l) && (decide (l ≤ 65535) && decide (m ≤ 48)))))))))) := by show _ = _; rw [hm]; rfl
  simp only
  rw [← hm]
  have HB : Hid (Below w.heap.size w (w.alloc (.cells #[.int .i64 k, .int .i64 ep, .int .i64 n, .int .i64 l, .slice A m c] 70))) := (Below.refl _ _).alloc (Nat.le_refl _) _
  clear hm
  by_cases h0 : 1 ≤ k
  rotate_left
  · have HM : Hid (Sd.may ⟨k, ep, n, l, D⟩ = false) := by show _ = _; rw [HS.out]; simp; omega
    have d0 : decide (1 ≤ k) = false := decide_eq_false h0
    have e0 : decide (k ≥ 1) = false := decide_eq_false (by omega)
    clear HS
    go_enter Try.func68, Try.ntmps68
    go_wp2
    go_ret
    rw [HM.out]
    exact ⟨rfl, HB.out⟩
  have d0 : decide (1 ≤ k) = true := decide_eq_true h0
  have e0 : decide (k ≥ 1) = true := decide_eq_true (by omega)
  by_cases h1 : k ≤ 255
  rotate_left
  · have HM : Hid (Sd.may ⟨k, ep, n, l, D⟩ = false) := by show _ = _; rw [HS.out]; simp; omega
    have d1 : decide (k ≤ 255) = false := decide_eq_false h1
    clear HS
    go_enter Try.func68, Try.ntmps68
    go_wp2
    go_ret
    rw [HM.out]
    exact ⟨rfl, HB.out⟩
  have d1 : decide (k ≤ 255) = true := decide_eq_true h1
  by_cases h2 : 0 ≤ ep
  rotate_left
  · have HM : Hid (Sd.may ⟨k, ep, n, l, D⟩ = false) := by show _ = _; rw [HS.out]; simp; omega
    have d2 : decide (0 ≤ ep) = false := decide_eq_false h2
    have e2 : decide (ep ≥ 0) = false := decide_eq_false (by omega)
    clear HS
    go_enter Try.func68, Try.ntmps68
    go_wp2
    go_ret
    rw [HM.out]
    exact ⟨rfl, HB.out⟩
  have d2 : decide (0 ≤ ep) = true := decide_eq_true h2
  have e2 : decide (ep ≥ 0) = true := decide_eq_true (by omega)
  by_cases h3 : ep ≤ 2147483647
  rotate_left
  · have HM : Hid (Sd.may ⟨k, ep, n, l, D⟩ = false) := by show _ = _; rw [HS.out]; simp; omega
    have d3 : decide (ep ≤ 2147483647) = false := decide_eq_false h3
    clear HS
    go_enter Try.func68, Try.ntmps68
    go_wp2
    go_ret
    rw [HM.out]
    exact ⟨rfl, HB.out⟩
  have d3 : decide (ep ≤ 2147483647) = true := decide_eq_true h3
  by_cases h4 : 0 ≤ n
  rotate_left
  · have HM : Hid (Sd.may ⟨k, ep, n, l, D⟩ = false) := by show _ = _; rw [HS.out]; simp; omega
    have d4 : decide (0 ≤ n) = false := decide_eq_false h4
    have e4 : decide (n ≥ 0) = false := decide_eq_false (by omega)
    clear HS
    go_enter Try.func68, Try.ntmps68
    go_wp2
    go_ret
    rw [HM.out]
    exact ⟨rfl, HB.out⟩
  have d4 : decide (0 ≤ n) = true := decide_eq_true h4
  have e4 : decide (n ≥ 0) = true := decide_eq_true (by omega)
  by_cases h5 : n ≤ 2147483647
  rotate_left
  · have HM : Hid (Sd.may ⟨k, ep, n, l, D⟩ = false) := by show _ = _; rw [HS.out]; simp; omega
    have d5 : decide (n ≤ 2147483647) = false := decide_eq_false h5
    clear HS
    go_enter Try.func68, Try.ntmps68
    go_wp2
    go_ret
    rw [HM.out]
    exact ⟨rfl, HB.out⟩
  have d5 : decide (n ≤ 2147483647) = true := decide_eq_true h5
  by_cases h6 : 0 ≤ l
  rotate_left
  · have HM : Hid (Sd.may ⟨k, ep, n, l, D⟩ = false) := by show _ = _; rw [HS.out]; simp; omega
    have d6 : decide (0 ≤ l) = false := decide_eq_false h6
    have e6 : decide (l ≥ 0) = false := decide_eq_false (by omega)
    clear HS
    go_enter Try.func68, Try.ntmps68
    go_wp2
    go_ret
    rw [HM.out]
    exact ⟨rfl, HB.out⟩
  have d6 : decide (0 ≤ l) = true := decide_eq_true h6
  have e6 : decide (l ≥ 0) = true := decide_eq_true (by omega)
  by_cases h7 : l ≤ 65535
  rotate_left
  · have HM : Hid (Sd.may ⟨k, ep, n, l, D⟩ = false) := by show _ = _; rw [HS.out]; simp; omega
    have d7 : decide (l ≤ 65535) = false := decide_eq_false h7
    clear HS
    go_enter Try.func68, Try.ntmps68
    go_wp2
    go_ret
    rw [HM.out]
    exact ⟨rfl, HB.out⟩
  have d7 : decide (l ≤ 65535) = true := decide_eq_true h7
  by_cases h8 : m ≤ 48
  rotate_left
  · have HM : Hid (Sd.may ⟨k, ep, n, l, D⟩ = false) := by show _ = _; rw [HS.out]; simp; omega
    have d8 : decide (m ≤ 48) = false := decide_eq_false h8
    have e8 : decide ((m : Int) ≤ 48) = false := decide_eq_false (by omega)
    clear HS
    go_enter Try.func68, Try.ntmps68
    go_wp2
    go_ret
    rw [HM.out]
    exact ⟨rfl, HB.out⟩
  have d8 : decide (m ≤ 48) = true := decide_eq_true h8
  have e8 : decide ((m : Int) ≤ 48) = true := decide_eq_true (by omega)
  have HM : Hid (Sd.may ⟨k, ep, n, l, D⟩ = true) := by show _ = _; rw [HS.out]; simp; omega
  clear HS
  go_enter Try.func68, Try.ntmps68
  go_wp2
  go_ret
  rw [HM.out]
  exact ⟨rfl, HB.out⟩
end Go.Proofs.Ytkockhggnbfahaa
end
section
set_option linter.unusedVariables false
namespace Go.Proofs.Ytkockhggnbfahaa
open Go.RowKit
theorem Try.notFalse (w : World) : Sem.run Try.prog (Op.unary UnOp.not (Value.bool false)) w = Result.ok (Value.bool true) w := rfl
theorem Try.notTrue (w : World) : Sem.run Try.prog (Op.unary UnOp.not (Value.bool true)) w = Result.ok (Value.bool false) w := rfl
end Go.Proofs.Ytkockhggnbfahaa
end
section
set_option linter.unusedVariables false
set_option linter.unusedSimpArgs false
namespace Go.Proofs.Ytkockhggnbfahaa
open Go.RowKit
set_option maxRecDepth 100000 in
set_option maxHeartbeats 1000000 in
theorem copied_any (L : List UInt8) (n : Nat) (A : Option Addr) (c : Nat) (w : World) (hn : n = L.length) (hr : RB w w.heap.size A L) (hl : L.length ≤ 1048576) :
    Calls Try.prog 72 #[.slice A n c] w (GivesOne L w) := by
  subst hn
  obtain ⟨i0, hi0, hz0, hz1, hz2⟩ := info_parts Try.info5
  have hby : i0.bytes = 1 := hz2
  go_enter Try.func72, Try.ntmps72
  go_wp2_with (first
    | (at_make; refine wpList_make_full _ rfl _ _ 26 rfl w.heap.size 5 i0 _ 1 Try.underlying26 hi0 hz0 hz1 .i64 .i64 _ _ L.length rfl rfl rfl rfl (by rw [hby]; omega) (by unfold maxLen; omega) (Nat.le_refl _) ?_; intro w1 hown hgrow; have hg1 := made_block hown; have hb1 : Below w.heap.size w w1 := (Below.refl _ _).grown hgrow (Nat.le_refl _) (by simp); have hr1 := hr.below hb1; clear hown hgrow)
    | (with_reducible show wpList _ _ _ (⟨some 9, _, _, _, _, _⟩ :: _) _ _; refine wpList_copy_splice rfl (.tmp 7) (.tmp 8) 26 26 rfl 5 Try.underlying26 Try.size5 (some ⟨w.heap.size, 0, none⟩) A L.length L.length L.length c rfl rfl w.heap.size 0 (List.replicate L.length (.int .u8 0)) 5 hg1 (cells L) (by rw [cells_length]; simp) (rb_src hr1 _) (by simp [cells_length]) (cells_one _) w.heap.size w hb1 (Nat.le_refl _) ?_; intro w2 hg2 hb2))
  go_ret
  refine ⟨some ⟨w.heap.size, 0, none⟩, L.length, rfl, ?_, hb2⟩
  have h2 := hg2.out
  rw [splice_all _ _ (by simp [cells_length])] at h2
  exact block_own h2 (Nat.le_refl _) hl
def Cur (w : World) (g : Nat) : Option (List UInt8) → Prop
  | none => w.heap[g]? = some (.cells #[.slice none 0 0, .bool true] 116 (0, 0))
  | some L => ∃ A c, w.heap[g]? = some (.cells #[.slice A L.length c, .bool false] 116 (0, 0)) ∧ RB w w.heap.size A L ∧ L.length ≤ c ∧ L.length ≤ 1048576
set_option maxRecDepth 100000 in
set_option maxHeartbeats 1000000 in
theorem from_any (L : List UInt8) (A : Option Addr) (c : Nat) (w : World) (hr : RB w w.heap.size A L) (hl : L.length ≤ 1048576) :
    Calls Try.prog 32 #[.slice A L.length c] w fun e w' => ∃ g, e = .returned (.pointer (some ⟨g, 0, none⟩)) ∧ w.heap.size ≤ g ∧ Cur w' g (some L) ∧ Below w.heap.size w w' := by
  go_enter Try.func32, Try.ntmps32
  go_wp2_with (go_at_call 72; refine (copied_any L _ _ _ _ rfl hr hl).mono ?_; rintro e w1 ⟨A1, c1, rfl, hown1, hb1⟩)
  go_ret
  have hz := hb1.size
  exact ⟨w1.heap.size, rfl, hz, ⟨A1, c1, heap_alloc_new _ _, ((own_rb hown1).alloc (Nat.le_refl _) _).more (by simp), own_le hown1, hl⟩, hb1.alloc hz _⟩
set_option maxHeartbeats 1000000 in
theorem bad_any (g : Nat) (st : Option (List UInt8)) (w : World) (h : Cur w g st) : Calls Try.prog 75 #[.pointer (some ⟨g, 0, none⟩)] w fun e w' => e = .returned (.bool st.isNone) ∧ w = w' := by
  rcases st with _ | L
  · have hc : w.cell? ⟨g, 1, none⟩ = some (.bool true) := (blk_cell h 1).1
    clear h
    go_enter Try.func75, Try.ntmps75
    go_wp2
    go_ret
    exact ⟨rfl, rfl⟩
  · obtain ⟨A, c, h, _, _⟩ := h
    have hc : w.cell? ⟨g, 1, none⟩ = some (.bool false) := (blk_cell h 1).1
    clear h
    go_enter Try.func75, Try.ntmps75
    go_wp2
    go_ret
    exact ⟨rfl, rfl⟩
def leftN : Option (List UInt8) → Nat
  | none => 0
  | some L => L.length
set_option maxHeartbeats 1000000 in
theorem left_any (g : Nat) (st : Option (List UInt8)) (w : World) (h : Cur w g st) : Calls Try.prog 34 #[.pointer (some ⟨g, 0, none⟩)] w fun e w' => e = .returned (.int .i64 (leftN st : Int)) ∧ w = w' := by
  have hb := bad_any g st w h
  rcases st with _ | L
  · clear h
    go_enter Try.func34, Try.ntmps34
    go_wp2_with (go_at_call 75; refine hb.mono ?_; rintro e w' ⟨rfl, rfl⟩)
    go_ret
    exact ⟨rfl, rfl⟩
  · obtain ⟨A, c, h, _, _⟩ := h
    have hc : w.cell? ⟨g, 0, none⟩ = some (.slice A L.length c) := (blk_cell h 0).1
    clear h
    go_enter Try.func34, Try.ntmps34
    go_wp2_with (go_at_call 75; refine hb.mono ?_; rintro e w' ⟨rfl, rfl⟩)
    go_ret
    exact ⟨rfl, rfl⟩
theorem rb_far {w : World} {B g i : Nat} {A : Option Addr} {L : List UInt8} {cs : Array Value} {t : TypeId} (h : RB w B A L) (hg : w.heap[g]? = some (.cells cs t (0, 0))) (hcs : ∀ (j : Nat) (k : IntKind) (z : Int), cs[j]? ≠ some (.int k z)) (u : Value) : RB (w.setCell ⟨g, i, none⟩ u) B A L := by
  refine ⟨h.1, fun hn => ?_⟩
  obtain ⟨b, off, rfl, hb, hc⟩ := RB.at_ h hn
  have hne : b ≠ g := by
    rintro rfl
    have h0 := hc 0 hn
    rw [Nat.add_zero, (blk_cell hg off).1] at h0
    exact hcs _ _ _ h0
  obtain ⟨ad, e, hb', hc'⟩ := h.2 hn
  injection e with e
  subst e
  refine ⟨_, rfl, hb', fun j v hv => ?_⟩
  rw [World.cell?_setCell_other _ _ _ _ (by intro hx; apply hne; have h9 := congrArg Addr.block hx; rw [block_of_add] at h9; exact h9.symm)]
  exact hc' j v hv
theorem cur_cells (A : Option Addr) (n c : Nat) (b : Bool) : ∀ (j : Nat) (k : IntKind) (z : Int), (#[Value.slice A n c, Value.bool b])[j]? ≠ some (.int k z) := by
  intro j k z
  match j with
  | 0 => simp
  | 1 => simp
  | j + 2 => simp
set_option maxHeartbeats 1000000 in
theorem fail_any (g : Nat) (st : Option (List UInt8)) (w : World) (h : Cur w g st) : Calls Try.prog 93 #[.pointer (some ⟨g, 0, none⟩)] w fun e w' => e = .returned (.tuple #[]) ∧ Cur w' g none ∧ Only w w' g ∧ w'.heap.size = w.heap.size := by
  have hx : ∃ A n c b, w.heap[g]? = some (.cells #[.slice A n c, .bool b] 116 (0, 0)) := by
    rcases st with _ | L
    · exact ⟨_, _, _, _, h⟩
    · obtain ⟨A, c, h, _⟩ := h
      exact ⟨_, _, _, _, h⟩
  obtain ⟨A, n, c, b, hg⟩ := hx
  have hc0 : w.cell? ⟨g, 0, none⟩ = some (.slice A n c) := (blk_cell hg 0).1
  have hc1 : w.cell? ⟨g, 1, none⟩ = some (.bool b) := (blk_cell hg 1).1
  have hf0 : w.frozen? ⟨g, 0, none⟩ = false := (blk_cell hg 0).2
  have hf1 : w.frozen? ⟨g, 1, none⟩ = false := (blk_cell hg 1).2
  have HG := Lib.hid hg
  clear h hg
  go_enter Try.func93, Try.ntmps93
  go_wp2
  go_end0
  have h1 := Blk.set_ (Blk.set_ HG.out 1 (.bool true)) 0 (.slice none 0 0)
  exact ⟨rfl, h1, only_trans (only_set _ _ _ _) (only_set _ _ _ _), by simp [World.setCell]⟩
end Go.Proofs.Ytkockhggnbfahaa
end
