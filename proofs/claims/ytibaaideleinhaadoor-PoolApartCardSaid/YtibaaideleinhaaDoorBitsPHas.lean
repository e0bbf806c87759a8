/- The walks of the program's flip, Has (layer 5). -/
import Derived.Test.YtibaaideleinhaaDoorBitsPWord
import Derived.StillTailTactics
import Derived.Deep.QuietTactic
set_option linter.unusedVariables false
namespace Go.Proofs.YtibaaideleinhaaDoor
open Go.RowKit

set_option maxRecDepth 100000 in
set_option maxHeartbeats 1000000 in
theorem flip_core (g k q x m y : Nat) (w : World) (hk : k ≤ 1000000) (hq : (k : Int) / 64 = (q : Int)) (hq2 : q < 64) (hc : w.cell? ⟨g, 1 + q, none⟩ = some (.int .u64 (x : Int))) (hf : w.frozen? ⟨g, 1 + q, none⟩ = false)
    (hm : m = 2 ^ (k % 64)) (hy : bits .xor .u64 (x : Int) (m : Int) = (y : Int)) :
    Calls Tryd.prog 41 #[.pointer (some ⟨g, 0, none⟩), .int .i64 (k : Int)] w fun e w' => e = .returned (.tuple #[]) ∧ Hid (w' = (w.setCell ⟨g, 1 + q, none⟩ (.int .u64 (y : Int))).drew) := by
  have HM : Hid (∀ V, Calls Tryd.prog 45 #[.int .i64 (k : Int)] V fun e w' => e = .returned (.int .u64 (m : Int)) ∧ V = w') := fun V => by
    rw [hm]; exact (mask_any k V hk).mono fun _ _ h => ⟨h.1, h.2.symm⟩
  clear hm
  have u0 : (0 : Int) ≤ (k : Int) := by omega
  have u1 : IntKind.i64.wrap (q : Int) = (q : Int) := IntWalk.i64_in _ (by omega)
  have u2 : (0 : Int) ≤ (q : Int) := by omega
  have u3 : (q : Int) < 64 := by omega
  go_enter Tryd.func41, Tryd.ntmps41
  go_wp2
  refine wp_region_still_tail 13 (by kernel_rfl) (by kernel_rfl) ?_
  simp only [List.take_succ_cons, List.take_zero, List.drop_succ_cons, List.drop_zero]
  iterate 8 still_step
  still_call ((HM.out _).mono fun _ _ h => ⟨h.1, h.2.symm⟩)
  iterate 4 still_step
  refine wpStill_nil ?_
  change wpList _ _ _ _ _ w.drew
  go_wp2
  go_end0
  exact ⟨rfl, rfl⟩

theorem drewN_below (w : World) (n : Nat) : Below w.heap.size w (w.drewN n) := ⟨rfl, rfl, rfl, Nat.le_refl _, fun _ _ => rfl⟩
theorem and_bit (x r : Nat) : x &&& 2 ^ r = if x.testBit r then 2 ^ r else 0 := by
  apply Nat.eq_of_testBit_eq
  intro i
  rw [Nat.testBit_and, Nat.testBit_two_pow]
  by_cases h : r = i
  · subst h
    cases hx : x.testBit r <;> simp
  · cases hx : x.testBit r <;> simp [h]

theorem Tryd.notNil (g : Nat) (w : World) : Sem.run Tryd.prog (binOp BinOp.neq 50 (Value.pointer (some ⟨g, 0, none⟩)) (Value.pointer none)) w = Result.ok (Value.bool true) w := by kernel_rfl
theorem Tryd.isNil (g : Nat) (w : World) : Sem.run Tryd.prog (binOp BinOp.eql 50 (Value.pointer (some ⟨g, 0, none⟩)) (Value.pointer none)) w = Result.ok (Value.bool false) w := by kernel_rfl
theorem Tryd.nilNot (w : World) : Sem.run Tryd.prog (binOp BinOp.neq 50 (Value.pointer none) (Value.pointer none)) w = Result.ok (Value.bool false) w := by kernel_rfl
theorem Tryd.nilIs (w : World) : Sem.run Tryd.prog (binOp BinOp.eql 50 (Value.pointer none) (Value.pointer none)) w = Result.ok (Value.bool true) w := by kernel_rfl
set_option maxRecDepth 100000 in
set_option maxHeartbeats 1000000 in
theorem has_core (n g k q x m z : Nat) (r : Bool) (w : World) (hk : k ≤ 1000000) (hkn : k < n) (hs : w.cell? ⟨g, 0, none⟩ = some (.int .i64 (n : Int))) (hq : (k : Int) / 64 = (q : Int)) (hq2 : q < 64) (hc : w.cell? ⟨g, 1 + q, none⟩ = some (.int .u64 (x : Int)))
    (hm : m = 2 ^ (k % 64)) (hz : bits .and .u64 (x : Int) (m : Int) = (z : Int)) (hr : decide ((z : Int) ≠ 0) = r) :
    Calls Tryd.prog 34 #[.pointer (some ⟨g, 0, none⟩), .int .i64 (k : Int)] w fun e w' => e = .returned (.bool r) ∧ Below w.heap.size w w' := by
  have HM : Hid (∀ V, Calls Tryd.prog 45 #[.int .i64 (k : Int)] V fun e w' => e = .returned (.int .u64 (m : Int)) ∧ V = w') := fun V => by
    rw [hm]; exact (mask_any k V hk).mono fun _ _ h => ⟨h.1, h.2.symm⟩
  have HH : Hid (∀ V : World, V.cell? ⟨g, 0, none⟩ = some (.int .i64 (n : Int)) → Calls Tryd.prog 40 #[.pointer (some ⟨g, 0, none⟩), .int .i64 (k : Int)] V fun e w' => e = .returned (.bool true) ∧ V = w') := fun V hV => by
    have := holds_any n g (k : Int) V hV
    rw [decide_eq_true (show 0 ≤ (k : Int) ∧ (k : Int) < (n : Int) by omega)] at this
    exact this.mono fun _ _ h => ⟨h.1, h.2.symm⟩
  have HQ : Hid (∀ j, Calls Tryd.prog 40 #[.pointer (some ⟨g, 0, none⟩), .int .i64 (k : Int)] (w.drewN j) fun e w'' => e = .returned (.bool true) ∧ ∃ m, w'' = w.drewN m) := fun j => Calls.quiet_of_same ((HH.out (w.drewN j) hs).mono fun _ _ h => ⟨h.1, h.2.symm⟩)
  clear hm HH
  have u0 : (0 : Int) ≤ (k : Int) := by omega
  have u1 : IntKind.i64.wrap (q : Int) = (q : Int) := IntWalk.i64_in _ (by omega)
  have u2 : (0 : Int) ≤ (q : Int) := by omega
  have u3 : (q : Int) < 64 := by omega
  have d1 : ((z : Int) != 0) = r := by
    rw [← hr]
    by_cases h : z = 0
    · subst h; rfl
    · rw [decide_eq_true (by omega), bne_iff_ne]; omega
  have d2 : (!((z : Int) == 0)) = r := d1
  have n0 := fun w' => Tryd.notNil g w'
  go_enter Tryd.func34, Tryd.ntmps34
  go_wp2
  go_quiet (first
    | (with_reducible exact HQ.out _)
    | (with_reducible exact quiet_same HM))
  go_wp2
  go_ret
  exact ⟨rfl, drewN_below w nq⟩

/-- No number of the set's. -/
theorem has_out (n g : Nat) (i : Int) (w : World) (hi : ¬ (0 ≤ i ∧ i < (n : Int))) (hs : w.cell? ⟨g, 0, none⟩ = some (.int .i64 (n : Int))) :
    Calls Tryd.prog 34 #[.pointer (some ⟨g, 0, none⟩), .int .i64 i] w fun e w' => e = .returned (.bool false) ∧ Below w.heap.size w w' := by
  have HH : Hid (∀ V : World, V.cell? ⟨g, 0, none⟩ = some (.int .i64 (n : Int)) → Calls Tryd.prog 40 #[.pointer (some ⟨g, 0, none⟩), .int .i64 i] V fun e w' => e = .returned (.bool false) ∧ V = w') := fun V hV => by
    have := holds_any n g i V hV
    rw [decide_eq_false hi] at this
    exact this.mono fun _ _ h => ⟨h.1, h.2.symm⟩
  have HQ : Hid (∀ j, Calls Tryd.prog 40 #[.pointer (some ⟨g, 0, none⟩), .int .i64 i] (w.drewN j) fun e w'' => e = .returned (.bool false) ∧ ∃ m, w'' = w.drewN m) := fun j => Calls.quiet_of_same ((HH.out (w.drewN j) hs).mono fun _ _ h => ⟨h.1, h.2.symm⟩)
  clear HH hi
  have n0 := fun w' => Tryd.notNil g w'
  go_enter Tryd.func34, Tryd.ntmps34
  go_wp2
  go_quiet (with_reducible exact HQ.out _)
  go_wp2
  go_ret
  exact ⟨rfl, drewN_below w nq⟩

theorem bitsHas_any (l : List Bool) (g : Nat) (i : Int) (w : World) (hi : InI i) (h : SetAt w g l) (hl : l.length ≤ 4096) :
    Calls Tryd.prog 34 #[.pointer (some ⟨g, 0, none⟩), .int .i64 i] w fun e w' => e = .returned (.bool (inB l i)) ∧ Below w.heap.size w w' := by
  obtain ⟨_, _, ws, hW, hS⟩ := h
  by_cases hr : 0 ≤ i ∧ i < (l.length : Int)
  · obtain ⟨k, rfl⟩ : ∃ k : Nat, i = (k : Int) := ⟨i.toNat, by omega⟩
    have hq : k / 64 < 64 := by omega
    have hb := hW.2.2 (k / 64) (k % 64) hq (by omega)
    rw [show 64 * (k / 64) + k % 64 = k by omega] at hb
    have hp : 2 ^ (k % 64) < 18446744073709551616 := Nat.lt_of_lt_of_le (Nat.pow_lt_pow_right (by omega) (show k % 64 < 64 by omega)) (Nat.le_refl _)
    refine has_core l.length g k (k / 64) (ws.getD (k / 64) 0) _ _ (inB l (k : Int)) w (by omega) (by omega) hS.size (by omega) hq (hS.word _ hq) rfl (bits_and_u64_nat _ _ (hW.2.1 _) hp) ?_
    rw [and_bit, hb]
    unfold inB
    rw [decide_eq_true hr, Int.toNat_natCast, Bool.true_and]
    cases l.getD k false with
    | true =>
      have : 0 < 2 ^ (k % 64) := Nat.two_pow_pos _
      exact decide_eq_true (by rw [if_pos rfl]; omega)
    | false => rfl
  · have e : inB l i = false := by
      unfold inB
      rw [decide_eq_false hr, Bool.false_and]
    rw [e]
    exact has_out l.length g i w hr hS.size
set_option maxRecDepth 100000 in
theorem bitsHas_none (i : Int) (w : World) : Calls Tryd.prog 34 #[.pointer none, .int .i64 i] w fun e w' => e = .returned (.bool false) ∧ Below w.heap.size w w' := by
  have n0 := fun w' => Tryd.nilNot w'
  go_enter Tryd.func34, Tryd.ntmps34
  go_wp2
  go_quiet (fail)
  go_wp2
  go_ret
  exact ⟨rfl, drewN_below w nq⟩

theorem flip_any (l : List Bool) (g k : Nat) (w : World) (h : SetAt w g l) (hk : k < l.length) (hl : l.length ≤ 4096) :
    Calls Tryd.prog 41 #[.pointer (some ⟨g, 0, none⟩), .int .i64 (k : Int)] w fun e w' => e = .returned (.tuple #[]) ∧ SetAt w' g (l.set k (!l.getD k false)) ∧ Only w w' g := by
  obtain ⟨hT, hg, ws, hW, hS⟩ := h
  have hq : k / 64 < 64 := by omega
  have hp : 2 ^ (k % 64) < 18446744073709551616 := Nat.lt_of_lt_of_le (Nat.pow_lt_pow_right (by omega) (show k % 64 < 64 by omega)) (Nat.le_refl _)
  refine (flip_core g k (k / 64) (ws.getD (k / 64) 0) _ _ w (by omega) (by omega) hq (hS.word _ hq) (hS.frozen _) rfl (xor_u64 _ _ (hW.2.1 _) hp)).mono ?_
  rintro e w' ⟨rfl, hw⟩
  have hw := hw.out
  subst hw
  have ho := only_set w g (1 + k / 64) (.int .u64 ((ws.getD (k / 64) 0 ^^^ 2 ^ (k % 64) : Nat) : Int))
  have ho2 : Only w (w.setCell ⟨g, 1 + k / 64, none⟩ (.int .u64 ((ws.getD (k / 64) 0 ^^^ 2 ^ (k % 64) : Nat) : Int))).drew g := ⟨ho.os, ho.tape, ho.output, ho.size, ho.block⟩
  have hf := hW.flip (k / 64) (k % 64) hq (by omega) (by omega)
  rw [show 64 * (k / 64) + k % 64 = k by omega] at hf
  refine ⟨rfl, ⟨hT.only ho2 (by omega), hg, _, hf, ?_⟩, ho2⟩
  rw [List.length_set]
  exact hS.set_ (k / 64) _

end Go.Proofs.YtibaaideleinhaaDoor
