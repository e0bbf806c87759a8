/- A sector's value, and the walk of the reference's may (layer 7). -/
import Derived.Test.YtepeoggacmaenaaSectPlain
import Derived.Test.YtepeoggacmaenaaMem
import Derived.Test.YtepeoggacmaenaaGuard
set_option linter.unusedVariables false
namespace Go.Proofs.Ytepeoggacmaenaa
open Go.RowKit

/-- A sector's value: four numbers, a slice. -/
def secV (s : Sd) (A : Option Addr) (c : Nat) : Value := .agg #[.int .i64 s.kind, .int .i64 s.epoch, .int .i64 s.number, .int .i64 s.left, .slice A s.data.length c]
set_option maxRecDepth 100000 in
set_option maxHeartbeats 2000000 in
theorem rmay_any (s : Sd) (A : Option Addr) (c : Nat) (w : World) : Calls Try.prog 23 #[secV s A c] w fun e w' => e = .returned (.bool s.may) ∧ Below w.heap.size w w' := by
  obtain ⟨k, ep, n, l, D⟩ := s
  unfold secV
  obtain ⟨m, hm⟩ : ∃ m, m = D.length := ⟨_, rfl⟩
  have HS : Hid (Sd.may ⟨k, ep, n, l, D⟩ = (decide (1 ≤ k) && (decide (k ≤ 255) && (decide (0 ≤ ep) && (decide (ep ≤ 2147483647) && (decide (0 ≤ n) && (decide (n ≤ 2147483647) && (decide (0 ≤ l) && (decide (l ≤ 65535) && decide (m ≤ 48)))))))))) := by show _ = _; rw [hm]; rfl
  simp only
  rw [← hm]
  have HB : Hid (Below w.heap.size w (w.alloc (.cells #[.int .i64 k, .int .i64 ep, .int .i64 n, .int .i64 l, .slice A m c] 24))) := (Below.refl _ _).alloc (Nat.le_refl _) _
  clear hm
  by_cases h0 : 1 ≤ k
  rotate_left
  · have HM : Hid (Sd.may ⟨k, ep, n, l, D⟩ = false) := by show _ = _; rw [HS.out]; simp; omega
    have d0 : decide (1 ≤ k) = false := decide_eq_false h0
    have e0 : decide (k ≥ 1) = false := decide_eq_false (by omega)
    clear HS
    go_enter Try.func23, Try.ntmps23
    go_wp2
    go_ret
    rw [HM.out]
    exact ⟨rfl, HB.out⟩
  have d0 : decide (1 ≤ k) = true := decide_eq_true h0
  have e0 : decide (k ≥ 1) = true := decide_eq_true (by omega)
  by_cases h1 : k ≤ 255
  rotate_left
  · have HM : Hid (Sd.may ⟨k, ep, n, l, D⟩ = false) := by show _ = _; rw [HS.out]; simp; omega
    have d1 : decide (k ≤ 255) = false := decide_eq_false h1
    clear HS
    go_enter Try.func23, Try.ntmps23
    go_wp2
    go_ret
    rw [HM.out]
    exact ⟨rfl, HB.out⟩
  have d1 : decide (k ≤ 255) = true := decide_eq_true h1
  by_cases h2 : 0 ≤ ep
  rotate_left
  · have HM : Hid (Sd.may ⟨k, ep, n, l, D⟩ = false) := by show _ = _; rw [HS.out]; simp; omega
    have d2 : decide (0 ≤ ep) = false := decide_eq_false h2
    have e2 : decide (ep ≥ 0) = false := decide_eq_false (by omega)
    clear HS
    go_enter Try.func23, Try.ntmps23
    go_wp2
    go_ret
    rw [HM.out]
    exact ⟨rfl, HB.out⟩
  have d2 : decide (0 ≤ ep) = true := decide_eq_true h2
  have e2 : decide (ep ≥ 0) = true := decide_eq_true (by omega)
  by_cases h3 : ep ≤ 2147483647
  rotate_left
  · have HM : Hid (Sd.may ⟨k, ep, n, l, D⟩ = false) := by show _ = _; rw [HS.out]; simp; omega
    have d3 : decide (ep ≤ 2147483647) = false := decide_eq_false h3
    clear HS
    go_enter Try.func23, Try.ntmps23
    go_wp2
    go_ret
    rw [HM.out]
    exact ⟨rfl, HB.out⟩
  have d3 : decide (ep ≤ 2147483647) = true := decide_eq_true h3
  by_cases h4 : 0 ≤ n
  rotate_left
  · have HM : Hid (Sd.may ⟨k, ep, n, l, D⟩ = false) := by show _ = _; rw [HS.out]; simp; omega
    have d4 : decide (0 ≤ n) = false := decide_eq_false h4
    have e4 : decide (n ≥ 0) = false := decide_eq_false (by omega)
    clear HS
    go_enter Try.func23, Try.ntmps23
    go_wp2
    go_ret
    rw [HM.out]
    exact ⟨rfl, HB.out⟩
  have d4 : decide (0 ≤ n) = true := decide_eq_true h4
  have e4 : decide (n ≥ 0) = true := decide_eq_true (by omega)
  by_cases h5 : n ≤ 2147483647
  rotate_left
  · have HM : Hid (Sd.may ⟨k, ep, n, l, D⟩ = false) := by show _ = _; rw [HS.out]; simp; omega
    have d5 : decide (n ≤ 2147483647) = false := decide_eq_false h5
    clear HS
    go_enter Try.func23, Try.ntmps23
    go_wp2
    go_ret
    rw [HM.out]
    exact ⟨rfl, HB.out⟩
  have d5 : decide (n ≤ 2147483647) = true := decide_eq_true h5
  by_cases h6 : 0 ≤ l
  rotate_left
  · have HM : Hid (Sd.may ⟨k, ep, n, l, D⟩ = false) := by show _ = _; rw [HS.out]; simp; omega
    have d6 : decide (0 ≤ l) = false := decide_eq_false h6
    have e6 : decide (l ≥ 0) = false := decide_eq_false (by omega)
    clear HS
    go_enter Try.func23, Try.ntmps23
    go_wp2
    go_ret
    rw [HM.out]
    exact ⟨rfl, HB.out⟩
  have d6 : decide (0 ≤ l) = true := decide_eq_true h6
  have e6 : decide (l ≥ 0) = true := decide_eq_true (by omega)
  by_cases h7 : l ≤ 65535
  rotate_left
  · have HM : Hid (Sd.may ⟨k, ep, n, l, D⟩ = false) := by show _ = _; rw [HS.out]; simp; omega
    have d7 : decide (l ≤ 65535) = false := decide_eq_false h7
    clear HS
    go_enter Try.func23, Try.ntmps23
    go_wp2
    go_ret
    rw [HM.out]
    exact ⟨rfl, HB.out⟩
  have d7 : decide (l ≤ 65535) = true := decide_eq_true h7
  by_cases h8 : m ≤ 48
  rotate_left
  · have HM : Hid (Sd.may ⟨k, ep, n, l, D⟩ = false) := by show _ = _; rw [HS.out]; simp; omega
    have d8 : decide (m ≤ 48) = false := decide_eq_false h8
    have e8 : decide ((m : Int) ≤ 48) = false := decide_eq_false (by omega)
    clear HS
    go_enter Try.func23, Try.ntmps23
    go_wp2
    go_ret
    rw [HM.out]
    exact ⟨rfl, HB.out⟩
  have d8 : decide (m ≤ 48) = true := decide_eq_true h8
  have e8 : decide ((m : Int) ≤ 48) = true := decide_eq_true (by omega)
  have HM : Hid (Sd.may ⟨k, ep, n, l, D⟩ = true) := by show _ = _; rw [HS.out]; simp; omega
  clear HS
  go_enter Try.func23, Try.ntmps23
  go_wp2
  go_ret
  rw [HM.out]
  exact ⟨rfl, HB.out⟩
end Go.Proofs.Ytepeoggacmaenaa
