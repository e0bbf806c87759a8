/- The walk of layer 7's awake. -/
import Derived.Test.YtepeoggacmaenaaSectProg
import Derived.Test.YtepeoggacmaenaaSectRGet
import Derived.Test.YtepeoggacmaenaaSectRSame
set_option linter.unusedVariables false
namespace Go.Proofs.Ytepeoggacmaenaa
open Go.RowKit Go.Joins

theorem Try.secBuildA (w : World) : Sem.run Try.prog (Instr.build 24 #[(0, .int .i64 2), (1, .int .i64 3), (2, .int .i64 5)]) w = .ok (.agg #[.int .i64 2, .int .i64 3, .int .i64 5, .int .i64 0, .slice none 0 0]) w := by kernel_rfl
theorem Try.secBuildB (A : Option Addr) (m c : Nat) (w : World) : Sem.run Try.prog (Instr.build 24 #[(0, .int .i64 1), (3, .int .i64 1), (4, .slice A m c)]) w = .ok (.agg #[.int .i64 1, .int .i64 0, .int .i64 0, .int .i64 1, .slice A m c]) w := by kernel_rfl
theorem Try.secBuildC (A : Option Addr) (m c : Nat) (w : World) : Sem.run Try.prog (Instr.build 24 #[(0, .int .i64 1), (2, .int .i64 7), (4, .slice A m c)]) w = .ok (.agg #[.int .i64 1, .int .i64 0, .int .i64 7, .int .i64 0, .slice A m c]) w := by kernel_rfl
/-- Zero bytes that are made. -/
theorem zeros_rb (w : World) (n : Nat) (cs : Array Value) (h : cs.toList = cells (List.replicate n 0)) (h0 : 0 < n) : RB (w.alloc (.cells cs 5)) (w.alloc (.cells cs 5)).heap.size (some ⟨w.heap.size, 0, none⟩) (List.replicate n 0) := by
  refine ⟨by simp [cells_length], fun _ => ⟨_, rfl, by simp, fun j u hu => ?_⟩⟩
  have hh := heap_alloc_new w (.cells cs 5)
  have e : (⟨w.heap.size, 0, none⟩ : Addr).add j = ⟨w.heap.size, j, none⟩ := by unfold Addr.add; split <;> simp_all
  rw [e, (blk_cell hh j).1, ← Array.getElem?_toList, h]
  exact hu
/-- One sector in a block of its own. -/
theorem one_sl (w : World) (s : Sd) (A : Option Addr) (c : Nat) (h : RB w w.heap.size A s.data) : SL (w.alloc (.cells #[.int .i64 s.kind, .int .i64 s.epoch, .int .i64 s.number, .int .i64 s.left, .slice A s.data.length c] 24)) (w.alloc (.cells #[.int .i64 s.kind, .int .i64 s.epoch, .int .i64 s.number, .int .i64 s.left, .slice A s.data.length c] 24)).heap.size (some ⟨w.heap.size, 0, none⟩) [s] := fun _ => by
  have h0 := Blk.new w 24 #[.int .i64 s.kind, .int .i64 s.epoch, .int .i64 s.number, .int .i64 s.left, .slice A s.data.length c]
  have hb : Below w.heap.size w (w.alloc (.cells #[.int .i64 s.kind, .int .i64 s.epoch, .int .i64 s.number, .int .i64 s.left, .slice A s.data.length c] 24)) := (Below.refl _ _).alloc (Nat.le_refl _) _
  refine ⟨w.heap.size, 0, rfl, by simp, fun i hi => ?_⟩
  have : i = 0 := by simpa using hi
  subst this
  exact ⟨A, c, rb_up7 h hb, by rw [h0.cell]; rfl, by rw [h0.cell]; rfl, by rw [h0.cell]; rfl, by rw [h0.cell]; rfl, by rw [h0.cell]; rfl⟩
theorem byte1_rb (w : World) : RB (w.alloc (.cells #[.int .u8 1] 5)) (w.alloc (.cells #[.int .u8 1] 5)).heap.size (some ⟨w.heap.size, 0, none⟩) [1] := (show RB (w.alloc (.cells (cells [1]).toArray 5)) (w.heap.size + 1) (some ⟨w.heap.size, 0, none⟩) [1] from rb_new w [1]).more (by simp)
theorem byteab_rb (w : World) : RB (w.alloc (.cells #[.int .u8 97, .int .u8 98] 5 (2, 3))) (w.alloc (.cells #[.int .u8 97, .int .u8 98] 5 (2, 3))).heap.size (some ⟨w.heap.size, 0, none⟩) [97, 98] := (rb_newm w [97, 98] (2, 3)).more (by simp)
theorem two_sl (w : World) : SL ((w.alloc (.cells #[.int .u8 1] 5)).alloc (.cells #[.int .i64 1, .int .i64 0, .int .i64 0, .int .i64 1, .slice (some ⟨w.heap.size, 0, none⟩) 1 1] 24)) ((w.alloc (.cells #[.int .u8 1] 5)).alloc (.cells #[.int .i64 1, .int .i64 0, .int .i64 0, .int .i64 1, .slice (some ⟨w.heap.size, 0, none⟩) 1 1] 24)).heap.size (some ⟨w.heap.size + 1, 0, none⟩) [⟨1, 0, 0, 1, [1]⟩] := by
  have h := one_sl (w.alloc (.cells #[.int .u8 1] 5)) ⟨1, 0, 0, 1, [1]⟩ (some ⟨w.heap.size, 0, none⟩) 1 (byte1_rb w)
  have e : (w.alloc (.cells #[.int .u8 1] 5)).heap.size = w.heap.size + 1 := by simp
  rw [← e]
  exact h
theorem aw_cells {W : World} {lb lo : Nat} (h : SL W W.heap.size (some ⟨lb, lo, none⟩) [⟨2, 3, 5, 1, List.replicate 48 0⟩, ⟨3, 3, 6, 0, [0]⟩]) : W.cell? ⟨lb, lo, none⟩ = some (.int .i64 2) ∧ W.cell? ⟨lb, lo + 3, none⟩ = some (.int .i64 1) ∧ W.cell? ⟨lb, lo + 5, none⟩ = some (.int .i64 3) ∧ W.cell? ⟨lb, lo + 5 + 2, none⟩ = some (.int .i64 6) ∧ W.cell? ⟨lb, lo + 5 + 3, none⟩ = some (.int .i64 0) := by
  obtain ⟨b, o, e, _, hc⟩ := h (by simp)
  simp only [Option.some.injEq, Addr.mk.injEq, and_true] at e
  obtain ⟨rfl, rfl⟩ := e
  obtain ⟨_, _, _, a0, a1, a2, a3, _⟩ := hc 0 (by simp)
  obtain ⟨_, _, _, b0, b1, b2, b3, _⟩ := hc 1 (by simp)
  exact ⟨a0, a3, b0, b2, b3⟩
/-- A variable that holds a sector. -/
theorem var_at (w W : World) (k e n l : Int) (A : Option Addr) (m c : Nat) (hb : Below (w.alloc (.cells #[.int .i64 k, .int .i64 e, .int .i64 n, .int .i64 l, .slice A m c] 24)).heap.size (w.alloc (.cells #[.int .i64 k, .int .i64 e, .int .i64 n, .int .i64 l, .slice A m c] 24)) W) : W.cell? ⟨w.heap.size, 0, none⟩ = some (.int .i64 k) ∧ W.cell? ⟨w.heap.size, 1, none⟩ = some (.int .i64 e) ∧ W.cell? ⟨w.heap.size, 2, none⟩ = some (.int .i64 n) ∧ W.cell? ⟨w.heap.size, 3, none⟩ = some (.int .i64 l) ∧ W.cell? ⟨w.heap.size, 4, none⟩ = some (.slice A m c) := by
  have h0 : Blk W w.heap.size 24 #[.int .i64 k, .int .i64 e, .int .i64 n, .int .i64 l, .slice A m c] := Blk.below (Blk.new w _ _) hb (by simp)
  exact ⟨by rw [h0.cell]; rfl, by rw [h0.cell]; rfl, by rw [h0.cell]; rfl, by rw [h0.cell]; rfl, by rw [h0.cell]; rfl⟩
set_option maxRecDepth 100000 in
set_option maxHeartbeats 4000000 in
theorem awake7_any (w : World) : Calls Try.prog 7 #[] w fun e w' => e = .returned (.bool true) ∧ Below w.heap.size w w' := by
  obtain ⟨i0, hi0, hz0, hz1, hz2⟩ := info_parts Try.info5
  have hby : i0.bytes = 1 := hz2
  have nA := fun w' => Try.secBuildA w'
  have nB := fun A m c w' => Try.secBuildB A m c w'
  have nC := fun A m c w' => Try.secBuildC A m c w'
  have n0 := fun w' => Try.secBuild0 w'
  have hcv : ∀ (W : World) (g n c : Nat) (C : Array Value), g = W.heap.size → (convert 22 22 (.slice (some ⟨g, 0, none⟩) n c)).run Try.prog (W.alloc (.cells C 5)) = .ok (.slice (some ⟨g, 0, none⟩) n c) (W.alloc (.cells C 5 (C.size, C.size + 1))) := fun W g n c C h => run_convert_bytes_const_at W 22 5 C n c g h Try.underlying22 Try.underlying5
  have a24 := fun w' => Try.aggSec w'
  have s24 := fun w' => Try.sizeSec w'
  have y0 := fun w' => Try.notFalse w'
  have y1 := fun w' => Try.notTrue w'
  have HSp : Hid (∀ W (A : Option Addr), RB W W.heap.size A aw49 → Calls Try.prog 13 #[.agg #[.int .i64 2, .int .i64 3, .int .i64 5, .int .i64 0, .slice none 0 0], .slice A 49 49] W fun e w' => ∃ b o c, e = .returned (.tuple #[.slice (some ⟨b, o, none⟩) 2 c, .int .i64 0]) ∧ Hid (SL w' w'.heap.size (some ⟨b, o, none⟩) [⟨2, 3, 5, 1, List.replicate 48 0⟩, ⟨3, 3, 6, 0, [0]⟩]) ∧ Below W.heap.size W w') := fun W A hr => by
    have h1 := ssplit_any ⟨2, 3, 5, 0, []⟩ none 0 aw49 A 49 W (by simp [aw49]) hr (by simp [aw49]) (by omega) (by constructor <;> decide)
    rw [aw_split] at h1
    refine h1.mono fun e w' hh => ?_
    obtain ⟨A', c, he, hs, hb⟩ := hh
    obtain ⟨b, o, rfl, _, _⟩ := hs (by simp)
    exact ⟨b, o, c, he, hs, hb⟩
  have HJ1 : Hid (∀ W (A : Option Addr) (c : Nat), SL W W.heap.size A [⟨2, 3, 5, 1, List.replicate 48 0⟩, ⟨3, 3, 6, 0, [0]⟩] → Calls Try.prog 15 #[.slice A 2 c] W fun e w' => (∃ A c, e = .returned (.tuple #[.slice A 49 c, .bool true])) ∧ Below W.heap.size W w') := fun W A c hs => by
    have h1 := sjoin_any [⟨2, 3, 5, 1, List.replicate 48 0⟩, ⟨3, 3, 6, 0, [0]⟩] A c W hs (by simp) (by simp)
    rw [aw_join] at h1
    refine h1.mono fun e w' hh => ?_
    obtain ⟨A', c, he, _, hb⟩ := hh
    exact ⟨⟨A', c, he⟩, hb⟩
  have HJ2 : Hid (∀ W (A : Option Addr) (c : Nat), SL W W.heap.size A [⟨1, 0, 0, 1, [1]⟩] → Calls Try.prog 15 #[.slice A 1 c] W fun e w' => (∃ A c, e = .returned (.tuple #[.slice A 0 c, .bool false])) ∧ Below W.heap.size W w') := fun W A c hs => by
    have h1 := sjoin_any [⟨1, 0, 0, 1, [1]⟩] A c W hs (by simp) (by simp)
    rw [aw_no] at h1
    refine h1.mono fun e w' hh => ?_
    obtain ⟨A', c, he, _, hb⟩ := hh
    exact ⟨⟨A', c, he⟩, hb⟩
  have HP1 : Hid (∀ W (A : Option Addr) (c : Nat), RB W W.heap.size A [97, 98] → Calls Try.prog 8 #[.agg #[.int .i64 1, .int .i64 0, .int .i64 7, .int .i64 0, .slice A 2 c]] W fun e w' => ∃ A c, e = .returned (.tuple #[.slice A 64 c, .int .i64 0]) ∧ Hid (RBc w' A (Sd.bytes ⟨1, 0, 7, 0, [97, 98]⟩) c) ∧ Below W.heap.size W w') := fun W A c hr => by
    refine (sput_any ⟨1, 0, 7, 0, [97, 98]⟩ A c W hr (by simp)).mono fun e w' hh => ?_
    obtain ⟨A', c, he, ho, hb⟩ := hh.1 aw_may
    rw [Sd.bytes_length _ (by simp)] at he
    exact ⟨A', c, he, own_cap7 ho, hb⟩
  have HP2 : Hid (∀ W, Calls Try.prog 8 #[.agg #[.int .i64 0, .int .i64 0, .int .i64 0, .int .i64 0, .slice none 0 0]] W fun e w' => e = .returned (.tuple #[.slice none 0 0, .int .i64 1]) ∧ Below W.heap.size W w') := fun W =>
    (sput_any .zero none 0 W (RB.none_ _ _) (by simp [Sd.zero])).mono fun e w' hh => hh.2 aw_zero
  have HG1 : Hid (∀ W (A : Option Addr) (c : Nat), RBc W A (Sd.bytes ⟨1, 0, 7, 0, [97, 98]⟩) c → Calls Try.prog 10 #[.slice A 64 c] W fun e w' => ∃ A c, e = .returned (.tuple #[.agg #[.int .i64 1, .int .i64 0, .int .i64 7, .int .i64 0, .slice A 2 c], .int .i64 0]) ∧ Hid (RB w' w'.heap.size A [97, 98]) ∧ Below W.heap.size W w') := fun W A c hr => by
    have h64 : (Sd.bytes ⟨1, 0, 7, 0, [97, 98]⟩).length = 64 := Sd.bytes_length _ (by simp)
    have h1 := sget_any _ A c W hr.1 hr.2.1 hr.2.2 (by omega)
    rw [getS_put _ aw_may, h64] at h1
    refine h1.mono fun e w' hh => ?_
    obtain ⟨A', c, he, hr, hb⟩ := hh
    exact ⟨A', c, he, hr, hb⟩
  have HG2 : Hid (∀ W (A : Option Addr), RB W W.heap.size A (List.replicate 64 0) → Calls Try.prog 10 #[.slice A 64 64] W fun e w' => (∃ A c, e = .returned (.tuple #[.agg #[.int .i64 0, .int .i64 0, .int .i64 0, .int .i64 0, .slice A 0 c], .int .i64 12])) ∧ Below W.heap.size W w') := fun W A hr => by
    have h64 : (List.replicate 64 (0 : UInt8)).length = 64 := List.length_replicate
    have h1 := sget_any (List.replicate 64 0) A 64 W hr (by omega) (by omega) (by omega)
    rw [getS_sum h64 aw_sum, h64] at h1
    refine h1.mono fun e w' hh => ?_
    obtain ⟨A', c, he, hr, hb⟩ := hh
    exact ⟨⟨A', c, he⟩, hb⟩
  have HG3 : Hid (∀ W, Calls Try.prog 10 #[.slice none 0 0] W fun e w' => (∃ A c, e = .returned (.tuple #[.agg #[.int .i64 0, .int .i64 0, .int .i64 0, .int .i64 0, .slice A 0 c], .int .i64 11])) ∧ Below W.heap.size W w') := fun W => by
    have h1 := sget_any [] none 0 W (RB.none_ _ _) (by simp) (by omega) (by simp)
    rw [getS_size (by simp)] at h1
    refine h1.mono fun e w' hh => ?_
    obtain ⟨A', c, he, hr, hb⟩ := hh
    exact ⟨⟨A', c, he⟩, hb⟩
  have HSm : Hid (∀ W (A A' : Option Addr) (c c' : Nat), RB W W.heap.size A [97, 98] → RB W W.heap.size A' [97, 98] → Calls Try.prog 11 #[.agg #[.int .i64 1, .int .i64 0, .int .i64 7, .int .i64 0, .slice A 2 c], .agg #[.int .i64 1, .int .i64 0, .int .i64 7, .int .i64 0, .slice A' 2 c']] W fun e w' => e = .returned (.bool true) ∧ Below W.heap.size W w') := fun W A A' c c' h1 h2 => rsame_yes ⟨1, 0, 7, 0, [97, 98]⟩ A A' c c' W h1 h2
  have HN1 : Hid (∀ W, Calls Try.prog 17 #[.int .i64 48] W fun e w' => e = .returned (.int .i64 1) ∧ W = w') := fun W => sneed_any 48 (by omega) W
  have HN0 : Hid (∀ W, Calls Try.prog 17 #[.int .i64 0] W fun e w' => e = .returned (.int .i64 0) ∧ W = w') := fun W => sneed_any 0 (by omega) W
  have HM49 : Hid (List.replicate 49 (0 : UInt8) = aw49) := rfl
  go_enter Try.func7, Try.ntmps7
  go_wp2_with (first
    | (at_make; refine wpList_make_full _ rfl _ _ 22 rfl w.heap.size 5 i0 _ 1 Try.underlying22 hi0 hz0 hz1 .i64 .i64 _ _ 49 rfl rfl rfl rfl (by rw [hby]; omega) (by unfold maxLen; omega) (Nat.le_refl _) ?_; intro w1 hown1 hgrow1; have hb1 : Below w.heap.size w w1 := (Below.refl _ _).grown hgrow1 (Nat.le_refl _) (by simp); have r1 := made_rb hown1; rw [HM49.out] at r1; clear hown1 hgrow1)
    | (go_at_call 13; (with_reducible refine (HSp.out _ _ r1).mono ?_); rintro e w2 ⟨lb, lo, c2, rfl, h2, kb2⟩; have hb2 := chain7 hb1 kb2; have h2o := h2.out)
    | (go_at_call 15; (with_reducible refine (HJ1.out _ _ _ h2o).mono ?_); rintro e w3 ⟨⟨A3, c3, rfl⟩, kb3⟩; have hb3 := chain7 hb2 kb3; have k23 := kb3)
    | (go_at_call 15; (with_reducible refine (HJ2.out _ _ _ (two_sl w3)).mono ?_); rintro e w4 ⟨⟨A4, c4, rfl⟩, kb4⟩; have k24 := chain7 ((k23.alloc k23.size _).alloc (k23.alloc k23.size _).size _) kb4)
    | (go_at_call 8; (with_reducible refine (HP1.out _ _ _ (byteab_rb w4)).mono ?_); rintro e w5 ⟨A5, c5, rfl, r5, kb5⟩; have k25 := chain7 (k24.alloc k24.size _) kb5)
    | (go_at_call 10; (with_reducible refine (HG1.out _ _ _ r5.out).mono ?_); rintro e w6 ⟨A6, c6, rfl, r6, kb6⟩; have k26 := chain7 k25 kb6; have hv6 := Lib.hid (fun W hb => var_at w6 W 1 0 7 0 A6 2 c6 hb))
    | (at_make; refine wpList_make_full _ rfl _ _ 22 rfl (w6.alloc (.cells #[.int .i64 1, .int .i64 0, .int .i64 7, .int .i64 0, .slice A6 2 c6] 24)).heap.size 5 i0 _ 1 Try.underlying22 hi0 hz0 hz1 .i64 .i64 _ _ 64 rfl rfl rfl rfl (by rw [hby]; omega) (by unfold maxLen; omega) (Nat.le_refl _) ?_; intro w7 hown7 hgrow7; have j67 : Below (w6.alloc (.cells #[.int .i64 1, .int .i64 0, .int .i64 7, .int .i64 0, .slice A6 2 c6] 24)).heap.size (w6.alloc (.cells #[.int .i64 1, .int .i64 0, .int .i64 7, .int .i64 0, .slice A6 2 c6] 24)) w7 := (Below.refl _ _).grown hgrow7 (Nat.le_refl _) (by simp); have r7 := made_rb hown7; have e7 : (w6.alloc (.cells #[.int .i64 1, .int .i64 0, .int .i64 7, .int .i64 0, .slice A6 2 c6] 24)).heap.size = w6.heap.size + 1 := (by simp); rw [e7] at r7; clear hown7 hgrow7)
    | (go_at_call 10; (with_reducible refine (HG2.out _ _ r7).mono ?_); rintro e w8 ⟨⟨A8, c8, rfl⟩, kb8⟩; have j68 := chain7 j67 kb8)
    | (go_at_call 10; (with_reducible refine (HG3.out _).mono ?_); rintro e w9 ⟨⟨A9, c9, rfl⟩, kb9⟩; have j69 := chain7 (j68.alloc j68.size _) kb9)
    | (go_at_call 8; (with_reducible refine (HP2.out _).mono ?_); rintro e wa ⟨rfl, kba⟩; have j6a := chain7 (j69.alloc j69.size _) kba; have k6a : Below w6.heap.size w6 wa := chain7 ((Below.refl _ _).alloc (Nat.le_refl _) (.cells #[.int .i64 1, .int .i64 0, .int .i64 7, .int .i64 0, .slice A6 2 c6] 24)) j6a; have k2a := chain7 k26 k6a; obtain ⟨p0, p1, p2, p3, p4⟩ := aw_cells (h2o.up k2a); obtain ⟨q0, q1, q2, q3, q4⟩ := hv6.out _ j6a; have ra := rb_up7 r6.out k6a; have hba := chain7 hb2 k2a)
    | (go_at_call 11; (with_reducible refine (HSm.out _ _ _ _ _ (rb_up7 ra ((Below.refl _ _).alloc (Nat.le_refl _) _)) (byteab_rb wa)).mono ?_); rintro e wb ⟨rfl, kbb⟩; have hbb := chain7 (hba.alloc hba.size _) kbb)
    | (go_at_call 17; (with_reducible refine (HN1.out _).mono ?_); rintro e wc ⟨rfl, rfl⟩)
    | (go_at_call 17; (with_reducible refine (HN0.out _).mono ?_); rintro e wc ⟨rfl, rfl⟩))
  go_ret
  exact ⟨rfl, hbb⟩
end Go.Proofs.Ytepeoggacmaenaa
