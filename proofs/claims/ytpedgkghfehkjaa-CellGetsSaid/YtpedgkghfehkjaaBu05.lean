/- Lemmas under the proofs of this place: SlB, Nots, CellRMay. No statement is proved here. -/
import Derived.Test.YtpedgkghfehkjaaBu03
import Derived.Test.YtpedgkghfehkjaaBu01
section
set_option linter.unusedVariables false
namespace Go.Proofs.Ytpedgkghfehkjaa
open Go.RowKit
theorem add_at (a off s : Nat) : (⟨a, off, none⟩ : Addr).add s = ⟨a, off + s, none⟩ := by unfold Addr.add; split <;> simp_all
theorem sl_to (a off n c h : Nat) (j : Int) (hj : j = (h : Int)) (h1 : h ≤ c) (h0 : 0 < c) (W : World) :
    (Instr.sliceAt 22 (.slice (some ⟨a, off, none⟩) n c) none (some (.int .i64 j)) none).run Try.prog W = .ok (.slice (some ⟨a, off, none⟩) h c) W := by
  subst hj
  have hu : Try.prog.underlying 22 = some (.slice (Try.prog.elem 22)) := by kernel_rfl
  have he : Try.prog.elem 22 = 5 := by kernel_rfl
  have hsz : (sizeOf 5).run Try.prog W = .ok 1 W := by kernel_rfl
  have e : (h : Int).toNat = h := by omega
  rw [run_sliceAt_slice _ _ _ _ _ _ hu, run_slice_h _ _ _ _ _ hu .i64 (h : Int) (by omega) (by omega), he, hsz]
  simp only [Result.andThen_ok, e, sliced]
  rw [if_neg (show ¬ c = 0 by omega)]
  simp only [Option.map_some, Nat.zero_mul, add_at, Nat.add_zero, Nat.sub_zero]
theorem sl_both (a off n c s h : Nat) (i j : Int) (hi : i = (s : Int)) (hj : j = (h : Int)) (h1 : s ≤ h) (h2 : h ≤ c) (h3 : s < c) (W : World) :
    (Instr.sliceAt 22 (.slice (some ⟨a, off, none⟩) n c) (some (.int .i64 i)) (some (.int .i64 j)) none).run Try.prog W = .ok (.slice (some ⟨a, off + s, none⟩) (h - s) (c - s)) W := by
  subst hi hj
  have hu : Try.prog.underlying 22 = some (.slice (Try.prog.elem 22)) := by kernel_rfl
  have he : Try.prog.elem 22 = 5 := by kernel_rfl
  have hsz : (sizeOf 5).run Try.prog W = .ok 1 W := by kernel_rfl
  have e : (h : Int).toNat = h := by omega
  have e2 : (s : Int).toNat = s := by omega
  rw [run_sliceAt_slice _ _ _ _ _ _ hu, run_slice_lh _ _ _ _ _ hu .i64 .i64 (s : Int) (h : Int) (by omega) (by omega) (by omega), he, hsz]
  simp only [Result.andThen_ok, e, e2, sliced]
  rw [if_neg (show ¬ c = s by omega)]
  simp only [Option.map_some, Nat.mul_one, add_at]
end Go.Proofs.Ytpedgkghfehkjaa
end
section
set_option linter.unusedVariables false
namespace Go.Proofs.Ytpedgkghfehkjaa
open Go.RowKit
theorem Try.notFalse (w : World) : Sem.run Try.prog (Op.unary UnOp.not (Value.bool false)) w = Result.ok (Value.bool true) w := rfl
theorem Try.notTrue (w : World) : Sem.run Try.prog (Op.unary UnOp.not (Value.bool true)) w = Result.ok (Value.bool false) w := rfl
end Go.Proofs.Ytpedgkghfehkjaa
end
section
set_option linter.unusedVariables false
namespace Go.Proofs.Ytpedgkghfehkjaa
open Go.RowKit
def ceV (s : Ce) (A : Option Addr) (c : Nat) : Value := .agg #[.int .i64 s.owner, .int .i64 s.number, .int .i64 s.next, .slice A s.data.length c]
set_option maxRecDepth 100000 in
set_option maxHeartbeats 2000000 in
theorem rcmay_any (s : Ce) (A : Option Addr) (c : Nat) (w : World) : Calls Try.prog 22 #[ceV s A c] w fun e w' => e = .returned (.bool s.may) ∧ Below w.heap.size w w' := by
  obtain ⟨o, n, x, D⟩ := s
  unfold ceV
  obtain ⟨m, hm⟩ : ∃ m, m = D.length := ⟨_, rfl⟩
  have HS : Hid (Ce.may ⟨o, n, x, D⟩ = (decide (1 ≤ o) && (decide (o ≤ 2147483647) && (decide (0 ≤ n) && (decide (n ≤ 65535) && (decide (0 ≤ x) && (decide (x ≤ 65535) && (decide (1 ≤ m) && (decide (m ≤ 242)))))))))) := by show _ = _; rw [hm]; rfl
  simp only
  rw [← hm]
  have HB : Hid (Below w.heap.size w (w.alloc (.cells #[.int .i64 o, .int .i64 n, .int .i64 x, .slice A m c] 24))) := (Below.refl _ _).alloc (Nat.le_refl _) _
  clear hm
  by_cases h0 : 1 ≤ o
  rotate_left
  · have HM : Hid (Ce.may ⟨o, n, x, D⟩ = false) := by show _ = _; rw [HS.out]; simp; omega
    have d0 : decide (1 ≤ o) = false := decide_eq_false h0
    have e0 : decide (o ≥ 1) = false := decide_eq_false (by omega)
    clear HS
    go_enter Try.func22, Try.ntmps22
    go_wp2
    go_ret
    rw [HM.out]
    exact ⟨rfl, HB.out⟩
  have d0 : decide (1 ≤ o) = true := decide_eq_true h0
  have e0 : decide (o ≥ 1) = true := decide_eq_true (by omega)
  by_cases h1 : o ≤ 2147483647
  rotate_left
  · have HM : Hid (Ce.may ⟨o, n, x, D⟩ = false) := by show _ = _; rw [HS.out]; simp; omega
    have d1 : decide (o ≤ 2147483647) = false := decide_eq_false h1
    clear HS
    go_enter Try.func22, Try.ntmps22
    go_wp2
    go_ret
    rw [HM.out]
    exact ⟨rfl, HB.out⟩
  have d1 : decide (o ≤ 2147483647) = true := decide_eq_true h1
  by_cases h2 : 0 ≤ n
  rotate_left
  · have HM : Hid (Ce.may ⟨o, n, x, D⟩ = false) := by show _ = _; rw [HS.out]; simp; omega
    have d2 : decide (0 ≤ n) = false := decide_eq_false h2
    have e2 : decide (n ≥ 0) = false := decide_eq_false (by omega)
    clear HS
    go_enter Try.func22, Try.ntmps22
    go_wp2
    go_ret
    rw [HM.out]
    exact ⟨rfl, HB.out⟩
  have d2 : decide (0 ≤ n) = true := decide_eq_true h2
  have e2 : decide (n ≥ 0) = true := decide_eq_true (by omega)
  by_cases h3 : n ≤ 65535
  rotate_left
  · have HM : Hid (Ce.may ⟨o, n, x, D⟩ = false) := by show _ = _; rw [HS.out]; simp; omega
    have d3 : decide (n ≤ 65535) = false := decide_eq_false h3
    clear HS
    go_enter Try.func22, Try.ntmps22
    go_wp2
    go_ret
    rw [HM.out]
    exact ⟨rfl, HB.out⟩
  have d3 : decide (n ≤ 65535) = true := decide_eq_true h3
  by_cases h4 : 0 ≤ x
  rotate_left
  · have HM : Hid (Ce.may ⟨o, n, x, D⟩ = false) := by show _ = _; rw [HS.out]; simp; omega
    have d4 : decide (0 ≤ x) = false := decide_eq_false h4
    have e4 : decide (x ≥ 0) = false := decide_eq_false (by omega)
    clear HS
    go_enter Try.func22, Try.ntmps22
    go_wp2
    go_ret
    rw [HM.out]
    exact ⟨rfl, HB.out⟩
  have d4 : decide (0 ≤ x) = true := decide_eq_true h4
  have e4 : decide (x ≥ 0) = true := decide_eq_true (by omega)
  by_cases h5 : x ≤ 65535
  rotate_left
  · have HM : Hid (Ce.may ⟨o, n, x, D⟩ = false) := by show _ = _; rw [HS.out]; simp; omega
    have d5 : decide (x ≤ 65535) = false := decide_eq_false h5
    clear HS
    go_enter Try.func22, Try.ntmps22
    go_wp2
    go_ret
    rw [HM.out]
    exact ⟨rfl, HB.out⟩
  have d5 : decide (x ≤ 65535) = true := decide_eq_true h5
  by_cases h6 : 1 ≤ m
  rotate_left
  · have HM : Hid (Ce.may ⟨o, n, x, D⟩ = false) := by show _ = _; rw [HS.out]; simp; omega
    have d6 : decide (1 ≤ m) = false := decide_eq_false h6
    have e6 : decide ((m : Int) ≥ 1) = false := decide_eq_false (by omega)
    clear HS
    go_enter Try.func22, Try.ntmps22
    go_wp2
    go_ret
    rw [HM.out]
    exact ⟨rfl, HB.out⟩
  have d6 : decide (1 ≤ m) = true := decide_eq_true h6
  have e6 : decide ((m : Int) ≥ 1) = true := decide_eq_true (by omega)
  by_cases h7 : m ≤ 242
  rotate_left
  · have HM : Hid (Ce.may ⟨o, n, x, D⟩ = false) := by show _ = _; rw [HS.out]; simp; omega
    have d7 : decide (m ≤ 242) = false := decide_eq_false h7
    have e7 : decide ((m : Int) ≤ 242) = false := decide_eq_false (by omega)
    clear HS
    go_enter Try.func22, Try.ntmps22
    go_wp2
    go_ret
    rw [HM.out]
    exact ⟨rfl, HB.out⟩
  have d7 : decide (m ≤ 242) = true := decide_eq_true h7
  have e7 : decide ((m : Int) ≤ 242) = true := decide_eq_true (by omega)
  have HM : Hid (Ce.may ⟨o, n, x, D⟩ = true) := by show _ = _; rw [HS.out]; simp; omega
  clear HS
  go_enter Try.func22, Try.ntmps22
  go_wp2
  go_ret
  rw [HM.out]
  exact ⟨rfl, HB.out⟩
end Go.Proofs.Ytpedgkghfehkjaa
end
