/- Lemmas under the proofs of this place: CellAwake. No statement is proved here. -/
import Derived.Test.YtpedgkghfehkjaaBu20
import Derived.Test.YtpedgkghfehkjaaBu17
import Derived.Test.YtpedgkghfehkjaaBu16
import Derived.Test.YtpedgkghfehkjaaBu18
import Derived.Test.YtpedgkghfehkjaaBu22
import Derived.Test.YtpedgkghfehkjaaBu19
set_option linter.unusedVariables false
namespace Go.Proofs.Ytpedgkghfehkjaa
open Go.RowKit Go.Joins
theorem Try.cellBuildA (A : Option Addr) (m c : Nat) (w : World) : Sem.run Try.prog (Instr.build 24 #[(0, .int .i64 1), (2, .int .i64 7), (3, .slice A m c)]) w = .ok (.agg #[.int .i64 1, .int .i64 0, .int .i64 7, .slice A m c]) w := by kernel_rfl
theorem Try.cellBuildB (w : World) : Sem.run Try.prog (Instr.build 24 #[(0, .int .i64 1)]) w = .ok (.agg #[.int .i64 1, .int .i64 0, .int .i64 0, .slice none 0 0]) w := by kernel_rfl
def awC : Ce := ⟨1, 0, 7, [1]⟩
def aw300 : List UInt8 := List.replicate 300 0
def awL : List Ce := [⟨3, 0, 9, List.replicate 242 0⟩, ⟨3, 1, 0, List.replicate 58 0⟩]
theorem aw_cut : cutC 3 [5, 9] aw300 = (awL, 0) := by decide +kernel
theorem aw_cut1 : cutC 3 [5] aw300 = ([], 1) := by decide +kernel
theorem aw_cjoin : joinC awL = some aw300 := by decide +kernel
theorem aw_cno : joinC [awC] = none := by decide +kernel
theorem aw_cmay : Ce.may awC = true := by rfl
theorem aw_cmay0 : Ce.may ⟨1, 0, 0, []⟩ = false := by rfl
set_option maxRecDepth 1000000 in
theorem aw_csum : openL (List.replicate 256 0) = none := by decide +kernel
theorem one_cl (w : World) (s : Ce) (A : Option Addr) (c : Nat) (h : RB w w.heap.size A s.data) : CL (w.alloc (.cells #[.int .i64 s.owner, .int .i64 s.number, .int .i64 s.next, .slice A s.data.length c] 24)) (w.alloc (.cells #[.int .i64 s.owner, .int .i64 s.number, .int .i64 s.next, .slice A s.data.length c] 24)).heap.size (some ⟨w.heap.size, 0, none⟩) [s] := fun _ => by
  have h0 := Blk.new w 24 #[.int .i64 s.owner, .int .i64 s.number, .int .i64 s.next, .slice A s.data.length c]
  have hb : Below w.heap.size w (w.alloc (.cells #[.int .i64 s.owner, .int .i64 s.number, .int .i64 s.next, .slice A s.data.length c] 24)) := (Below.refl _ _).alloc (Nat.le_refl _) _
  refine ⟨w.heap.size, 0, rfl, by simp, fun i hi => ?_⟩
  have : i = 0 := by simpa using hi
  subst this
  exact ⟨A, c, rb_up7 h hb, by rw [h0.cell]; rfl, by rw [h0.cell]; rfl, by rw [h0.cell]; rfl, by rw [h0.cell]; rfl⟩
theorem two_cl (w : World) : CL ((w.alloc (.cells #[.int .u8 1] 5)).alloc (.cells #[.int .i64 1, .int .i64 0, .int .i64 7, .slice (some ⟨w.heap.size, 0, none⟩) 1 1] 24)) ((w.alloc (.cells #[.int .u8 1] 5)).alloc (.cells #[.int .i64 1, .int .i64 0, .int .i64 7, .slice (some ⟨w.heap.size, 0, none⟩) 1 1] 24)).heap.size (some ⟨w.heap.size + 1, 0, none⟩) [awC] := by
  have h := one_cl (w.alloc (.cells #[.int .u8 1] 5)) awC (some ⟨w.heap.size, 0, none⟩) 1 (byte1_rb w)
  have e : (w.alloc (.cells #[.int .u8 1] 5)).heap.size = w.heap.size + 1 := by simp
  rw [← e]
  exact h
theorem awc_cells {W : World} {lb lo : Nat} (h : CL W W.heap.size (some ⟨lb, lo, none⟩) awL) : ∃ A c, W.cell? ⟨lb, lo + 2, none⟩ = some (.int .i64 9) ∧ W.cell? ⟨lb, lo + 4 + 1, none⟩ = some (.int .i64 1) ∧ W.cell? ⟨lb, lo + 4 + 2, none⟩ = some (.int .i64 0) ∧ W.cell? ⟨lb, lo + 4 + 3, none⟩ = some (.slice A 58 c) := by
  obtain ⟨b, o, e, _, hc⟩ := h (by decide)
  simp only [Option.some.injEq, Addr.mk.injEq, and_true] at e
  obtain ⟨rfl, rfl⟩ := e
  obtain ⟨_, _, _, a0, a1, a2, a3⟩ := hc 0 (by decide)
  obtain ⟨A, c, _, b0, b1, b2, b3⟩ := hc 1 (by decide)
  refine ⟨A, c, a2, b1, b2, ?_⟩
  have e : (awL[1]'(by decide)).data.length = 58 := List.length_replicate
  rw [e] at b3
  exact b3
theorem ri_two (w : World) (a b : Int) (t : TypeId) : RI (w.alloc (.cells #[.int .i64 a, .int .i64 b] t)) (w.alloc (.cells #[.int .i64 a, .int .i64 b] t)).heap.size (some ⟨w.heap.size, 0, none⟩) [a, b] := fun _ => by
  have h0 := Blk.new w t #[.int .i64 a, .int .i64 b]
  refine ⟨w.heap.size, 0, rfl, by simp, fun k hk => ?_⟩
  rw [h0.cell]
  match k, hk with
  | 0, _ => rfl
  | 1, _ => rfl
theorem ri_one (w : World) (a : Int) (t : TypeId) : RI (w.alloc (.cells #[.int .i64 a] t)) (w.alloc (.cells #[.int .i64 a] t)).heap.size (some ⟨w.heap.size, 0, none⟩) [a] := fun _ => by
  have h0 := Blk.new w t #[.int .i64 a]
  refine ⟨w.heap.size, 0, rfl, by simp, fun k hk => ?_⟩
  rw [h0.cell]
  match k, hk with
  | 0, _ => rfl
theorem ri_up9 {w w' : World} {A : Option Addr} {Z : List Int} (h : RI w w.heap.size A Z) (hb : Below w.heap.size w w') : RI w' w'.heap.size A Z := fun hn => by
  obtain ⟨b, off, e, hlt, hc⟩ := (h.below hb) hn
  exact ⟨b, off, e, Nat.lt_of_lt_of_le hlt hb.size, hc⟩
set_option maxRecDepth 100000 in
set_option maxHeartbeats 4000000 in
theorem awake9_any (w : World) : Calls Try.prog 6 #[] w fun e w' => e = .returned (.bool true) ∧ Below w.heap.size w w' := by
  have nA := fun A m c w' => Try.cellBuildA A m c w'
  have nB := fun w' => Try.cellBuildB w'
  have n0 := fun w' => Try.cellBuild0 w'
  have a24 := fun w' => Try.aggCell w'
  have s24 := fun w' => Try.sizeCell w'
  have y0 := fun w' => Try.notFalse w'
  have y1 := fun w' => Try.notTrue w'
  have HC1 : Hid (∀ W (A B : Option Addr), RI W W.heap.size A [5, 9] → RB W W.heap.size B aw300 → Calls Try.prog 12 #[.int .i64 3, .slice A 2 2, .slice B 300 300] W fun e w' => ∃ b o c, e = .returned (.tuple #[.slice (some ⟨b, o, none⟩) 2 c, .int .i64 0]) ∧ Hid (CL w' w'.heap.size (some ⟨b, o, none⟩) awL) ∧ Below W.heap.size W w') := fun W A B hA hB => by
    have h1 := ccut_any 3 [5, 9] aw300 A B 2 300 W (by decide) (by decide) (by decide) (by decide) hA (by decide) (by decide) hB (by decide) (by decide)
    rw [aw_cut] at h1
    refine h1.mono fun e w' hh => ?_
    obtain ⟨A', c, he, hs, hb⟩ := hh
    obtain ⟨b, o, rfl, _, _⟩ := hs (by decide)
    exact ⟨b, o, c, he, hs, hb⟩
  have HC2 : Hid (∀ W (A B : Option Addr), RI W W.heap.size A [5] → RB W W.heap.size B aw300 → Calls Try.prog 12 #[.int .i64 3, .slice A 1 1, .slice B 300 300] W fun e w' => (∃ A c, e = .returned (.tuple #[.slice A 0 c, .int .i64 1])) ∧ Below W.heap.size W w') := fun W A B hA hB => by
    have h1 := ccut_any 3 [5] aw300 A B 1 300 W (by decide) (by decide) (by decide) (by decide) hA (by decide) (by decide) hB (by decide) (by decide)
    rw [aw_cut1] at h1
    refine h1.mono fun e w' hh => ?_
    obtain ⟨A', c, he, hs, hb⟩ := hh
    exact ⟨⟨A', c, he⟩, hb⟩
  have HJ1 : Hid (∀ W (A : Option Addr) (c : Nat), CL W W.heap.size A awL → Calls Try.prog 14 #[.slice A 2 c] W fun e w' => (∃ A c, e = .returned (.tuple #[.slice A 300 c, .bool true])) ∧ Below W.heap.size W w') := fun W A c hs => by
    have h1 := cjoin_any awL A c W hs (by decide) (by decide)
    rw [aw_cjoin] at h1
    refine h1.mono fun e w' hh => ?_
    obtain ⟨A', c, he, _, hb⟩ := hh
    exact ⟨⟨A', c, he⟩, hb⟩
  have HJ2 : Hid (∀ W (A : Option Addr) (c : Nat), CL W W.heap.size A [awC] → Calls Try.prog 14 #[.slice A 1 c] W fun e w' => (∃ A c, e = .returned (.tuple #[.slice A 0 c, .bool false])) ∧ Below W.heap.size W w') := fun W A c hs => by
    have h1 := cjoin_any [awC] A c W hs (by decide) (by decide)
    rw [aw_cno] at h1
    refine h1.mono fun e w' hh => ?_
    obtain ⟨A', c, he, _, hb⟩ := hh
    exact ⟨⟨A', c, he⟩, hb⟩
  have HP1 : Hid (∀ W (A : Option Addr) (c : Nat), RB W W.heap.size A [1] → Calls Try.prog 7 #[.agg #[.int .i64 1, .int .i64 0, .int .i64 7, .slice A 1 c]] W fun e w' => ∃ A c, e = .returned (.tuple #[.slice A 256 c, .int .i64 0]) ∧ Hid (RBc w' A (Ce.bytes awC) c) ∧ Below W.heap.size W w') := fun W A c hr => by
    refine (cput_any awC A c W hr (by decide)).mono fun e w' hh => ?_
    obtain ⟨A', c, he, ho, hb⟩ := hh.1 aw_cmay
    rw [Ce.bytes_length _ (by decide)] at he
    exact ⟨A', c, he, own_cap7 ho, hb⟩
  have HP2 : Hid (∀ W, Calls Try.prog 7 #[.agg #[.int .i64 1, .int .i64 0, .int .i64 0, .slice none 0 0]] W fun e w' => e = .returned (.tuple #[.slice none 0 0, .int .i64 1]) ∧ Below W.heap.size W w') := fun W =>
    (cput_any ⟨1, 0, 0, []⟩ none 0 W (RB.none_ _ _) (by decide)).mono fun e w' hh => hh.2 aw_cmay0
  have HG1 : Hid (∀ W (A : Option Addr) (c : Nat), RBc W A (Ce.bytes awC) c → Calls Try.prog 9 #[.slice A 256 c] W fun e w' => ∃ A c, e = .returned (.tuple #[.agg #[.int .i64 1, .int .i64 0, .int .i64 7, .slice A 1 c], .int .i64 0]) ∧ Hid (RB w' w'.heap.size A [1]) ∧ Below W.heap.size W w') := fun W A c hr => by
    have h64 : (Ce.bytes awC).length = 256 := Ce.bytes_length _ (by decide)
    have h1 := cget_any _ A c W hr.1 hr.2.1 hr.2.2 (by omega)
    rw [getC_put _ aw_cmay, h64] at h1
    refine h1.mono fun e w' hh => ?_
    obtain ⟨A', c, he, hr, hb⟩ := hh
    exact ⟨A', c, he, hr, hb⟩
  have HG2 : Hid (∀ W (A : Option Addr), RB W W.heap.size A (List.replicate 256 0) → Calls Try.prog 9 #[.slice A 256 256] W fun e w' => (∃ A c, e = .returned (.tuple #[.agg #[.int .i64 0, .int .i64 0, .int .i64 0, .slice A 0 c], .int .i64 12])) ∧ Below W.heap.size W w') := fun W A hr => by
    have h64 : (List.replicate 256 (0 : UInt8)).length = 256 := List.length_replicate
    have h1 := cget_any (List.replicate 256 0) A 256 W hr (by omega) (by omega) (by omega)
    rw [getC_sum h64 aw_csum, h64] at h1
    refine h1.mono fun e w' hh => ?_
    obtain ⟨A', c, he, hr, hb⟩ := hh
    exact ⟨⟨A', c, he⟩, hb⟩
  have HG3 : Hid (∀ W, Calls Try.prog 9 #[.slice none 0 0] W fun e w' => (∃ A c, e = .returned (.tuple #[.agg #[.int .i64 0, .int .i64 0, .int .i64 0, .slice A 0 c], .int .i64 11])) ∧ Below W.heap.size W w') := fun W => by
    have h1 := cget_any [] none 0 W (RB.none_ _ _) (by simp) (by omega) (by simp)
    rw [getC_size (by simp)] at h1
    refine h1.mono fun e w' hh => ?_
    obtain ⟨A', c, he, hr, hb⟩ := hh
    exact ⟨⟨A', c, he⟩, hb⟩
  have HSm : Hid (∀ W (A A' : Option Addr) (c c' : Nat), RB W W.heap.size A [1] → RB W W.heap.size A' [1] → Calls Try.prog 10 #[.agg #[.int .i64 1, .int .i64 0, .int .i64 7, .slice A 1 c], .agg #[.int .i64 1, .int .i64 0, .int .i64 7, .slice A' 1 c']] W fun e w' => e = .returned (.bool true) ∧ Below W.heap.size W w') := fun W A A' c c' h1 h2 => rcsame_yes awC A A' c c' W h1 h2
  have HN1 : Hid (∀ W, Calls Try.prog 16 #[.int .i64 243] W fun e w' => e = .returned (.int .i64 2) ∧ W = w') := fun W => cneed_any 243 (by omega) W
  have HN0 : Hid (∀ W, Calls Try.prog 16 #[.int .i64 0] W fun e w' => e = .returned (.int .i64 0) ∧ W = w') := fun W => cneed_any 0 (by omega) W
  have HM3 : Hid (List.replicate 300 (0 : UInt8) = aw300) := rfl
  go_enter Try.func6, Try.ntmps6
  go_wp2_with (first
    | (at_make; refine make_zeros rfl 300 _ _ rfl rfl rfl (by omega) ?_; intro w1 r1 kb1 hs1; rw [HM3.out] at r1; have e1 : (w.alloc (.cells #[.int .i64 5, .int .i64 9] 3)).heap.size = w.heap.size + 1 := (by simp); rw [e1] at r1; have i1 := ri_up9 (ri_two w 5 9 3) kb1; have hb1 := chain7 ((Below.refl _ _).alloc (Nat.le_refl _) _) kb1)
    | (go_at_call 12; (with_reducible refine (HC1.out _ _ _ i1 r1).mono ?_); rintro e w2 ⟨lb, lo, c2, rfl, h2, kb2⟩; have hb2 := chain7 hb1 kb2; have h2o := h2.out)
    | (go_at_call 14; (with_reducible refine (HJ1.out _ _ _ h2o).mono ?_); rintro e w3 ⟨⟨A3, c3, rfl⟩, kb3⟩; have hb3 := chain7 hb2 kb3; have k23 := kb3)
    | (go_at_call 14; (with_reducible refine (HJ2.out _ _ _ (two_cl w3)).mono ?_); rintro e w4 ⟨⟨A4, c4, rfl⟩, kb4⟩; have k24 := chain7 ((k23.alloc k23.size _).alloc (k23.alloc k23.size _).size _) kb4)
    | (at_make; refine make_zeros rfl 300 _ _ rfl rfl rfl (by omega) ?_; intro x1 rx1 kx1 sx1; rw [HM3.out] at rx1; have ex1 : (w4.alloc (.cells #[.int .i64 5] 3)).heap.size = w4.heap.size + 1 := (by simp); rw [ex1] at rx1; have ix1 := ri_up9 (ri_one w4 5 3) kx1; have k2x := chain7 (k24.alloc k24.size _) kx1)
    | (go_at_call 12; (with_reducible refine (HC2.out _ _ _ ix1 rx1).mono ?_); rintro e x2 ⟨⟨Ax, cx, rfl⟩, kx2⟩; have k2y := chain7 k2x kx2)
    | (go_at_call 7; (with_reducible refine (HP1.out _ _ _ (byte1_rb x2)).mono ?_); rintro e w5 ⟨A5, c5, rfl, r5, kb5⟩; have k25 := chain7 (k2y.alloc k2y.size _) kb5)
    | (go_at_call 9; (with_reducible refine (HG1.out _ _ _ r5.out).mono ?_); rintro e w6 ⟨A6, c6, rfl, r6, kb6⟩; have k26 := chain7 k25 kb6; have hv6 := Lib.hid (fun W hb => cell_at w6 W 1 0 7 A6 1 c6 hb))
    | (at_make; refine make_zeros rfl 256 _ _ rfl rfl rfl (by omega) ?_; intro w7 r7 j67 s7; have e7 : (w6.alloc (.cells #[.int .i64 1, .int .i64 0, .int .i64 7, .slice A6 1 c6] 24)).heap.size = w6.heap.size + 1 := (by simp); rw [e7] at r7)
    | (go_at_call 9; (with_reducible refine (HG2.out _ _ r7).mono ?_); rintro e w8 ⟨⟨A8, c8, rfl⟩, kb8⟩; have j68 := chain7 j67 kb8)
    | (go_at_call 9; (with_reducible refine (HG3.out _).mono ?_); rintro e w9 ⟨⟨A9, c9, rfl⟩, kb9⟩; have j69 := chain7 (j68.alloc j68.size _) kb9)
    | (go_at_call 7; (with_reducible refine (HP2.out _).mono ?_); rintro e wa ⟨rfl, kba⟩; have j6a := chain7 (j69.alloc j69.size _) kba; have k6a : Below w6.heap.size w6 wa := chain7 ((Below.refl _ _).alloc (Nat.le_refl _) (.cells #[.int .i64 1, .int .i64 0, .int .i64 7, .slice A6 1 c6] 24)) j6a; have k2a := chain7 k26 k6a; obtain ⟨Aq, cq, p0, p1, p2, p3⟩ := awc_cells (h2o.up k2a); obtain ⟨q0, q1, q2, q3⟩ := hv6.out _ j6a; have ra := rb_up7 r6.out k6a; have hba := chain7 hb2 k2a)
    | (go_at_call 10; (with_reducible refine (HSm.out _ _ _ _ _ (rb_up7 ra ((Below.refl _ _).alloc (Nat.le_refl _) _)) (byte1_rb wa)).mono ?_); rintro e wb ⟨rfl, kbb⟩; have hbb := chain7 (hba.alloc hba.size _) kbb)
    | (go_at_call 16; (with_reducible refine (HN1.out _).mono ?_); rintro e wc ⟨rfl, rfl⟩)
    | (go_at_call 16; (with_reducible refine (HN0.out _).mono ?_); rintro e wc ⟨rfl, rfl⟩))
  go_ret
  exact ⟨rfl, hbb⟩
end Go.Proofs.Ytpedgkghfehkjaa
