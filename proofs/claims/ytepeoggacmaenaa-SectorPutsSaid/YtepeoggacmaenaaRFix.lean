/- The walks of the reference of layer 1: Fix. -/
import Derived.Test.YtepeoggacmaenaaFix
set_option linter.unusedVariables false
set_option linter.unusedSimpArgs false
namespace Go.Proofs.Ytepeoggacmaenaa
open Go.RowKit

theorem fixL_snoc : ∀ (k n : Nat), fixL (k + 1) n = fixL k n ++ [UInt8.ofNat (n / 256 ^ k % 256)] := by
  intro k
  induction k with
  | zero => intro n; simp [fixL]
  | succ k ih =>
    intro n
    rw [fixL, ih (n / 256), fixL, List.cons_append, Nat.div_div_eq_div_mul, Nat.pow_succ, Nat.mul_comm 256]
set_option maxRecDepth 100000 in
set_option maxHeartbeats 2000000 in
theorem refFix_any (n k : Nat) (w : World) (h : n ≤ 2147483647) (hk1 : 1 ≤ k) (hk4 : k ≤ 4) :
    Calls Try.prog 24 #[.int .i64 (n : Int), .int .i64 (k : Int)] w fun e w' => (n < 256 ^ k → GivesBytes (fixL k n) w e w') ∧ (¬ n < 256 ^ k → e = .returned (.tuple #[.slice none 0 0, .int .i64 1]) ∧ Below w.heap.size w w') := by
  have hl : (fixL k n).length = k := fixL_length k n
  have hc1 : decide ((k : Int) < 1) = false := by simp; omega
  have hc4 : decide (4 < (k : Int)) = false := by simp; omega
  have hn1 : decide ((n : Int) < 0) = false := by simp
  have hn2 : decide (2147483647 < (n : Int)) = false := by simp; omega
  have HL := Lib.hid hl
  clear hl
  go_enter Try.func24, Try.ntmps24
  go_wp2
  go_loopw [0, 6, 7] (fun x v i wr => ∃ (j m : Nat), j ≤ k ∧ i = .int .i64 (j : Int) ∧ x = .int .i64 (m : Int) ∧ m ≤ 2147483647 ∧ m = n / 256 ^ j ∧ wr.ownsRow w.heap.size 5 1 v (fixL j n).length (cells (fixL j n)) ∧ Below w.heap.size w wr) (fun _ _ i _ => k - (intOf i).toNat)
  case atStart => exact ⟨0, n, by omega, rfl, rfl, h, by simp, World.ownsRow_nil _ _ _ _, Below.refl _ _⟩
  case round =>
    obtain ⟨j, m, hj, rfl, rfl, hm, hmn, hown, hbw⟩ := hrel
    have HM : Hid (m = n / 256 ^ j) := hmn
    clear hmn
    by_cases hlt : j < k
    · obtain ⟨b, hb⟩ : ∃ b : UInt8, b = UInt8.ofNat (m % 256) := ⟨_, rfl⟩
      have HB : Hid ((m : Int) % 256 = (b.toNat : Int)) := by rw [hb, ofNat_toNat _ (by omega)]; show (m : Int) % 256 = _; omega
      have HQ : Hid (fixL j n ++ [b] = fixL (j + 1) n) := by show _ = _; rw [fixL_snoc, hb, HM.out]
      have HM2 : Hid (m / 256 = n / 256 ^ (j + 1)) := by show _ = _; rw [HM.out, Nat.div_div_eq_div_mul, Nat.pow_succ]
      have hlen1 : (fixL j n).length + 1 ≤ 1048576 := by rw [fixL_length]; omega
      clear hb
      go_wp2_with (at_builtin; refine append_byte rfl _ _ rfl b rfl hown hbw (Nat.le_refl _) HB.out rfl hlen1 ?_; intro v' w1 hown' hbw')
      go_roundw
      case rel => exact ⟨j + 1, m / 256, by omega, by go_num, by go_num, by omega, HM2.out, by rw [← HQ.out]; exact hown', hbw'⟩
      case measure => simp [intOf]; omega
    · obtain rfl : k = j := by omega
      have hp : 0 < 256 ^ k := Nat.pow_pos (by omega)
      have HP : Hid (0 < m ↔ ¬ n < 256 ^ k) := by
        show _ ↔ _
        rw [HM.out]
        constructor
        · intro h0 h1; rw [Nat.div_eq_of_lt h1] at h0; omega
        · intro h0; exact Nat.div_pos (by omega) hp
      have hfm := own_form hown
      clear hp
      by_cases hm0 : 0 < m
      · go_wp2
        go_ret2
        exact ⟨fun hx => absurd hx (HP.out.1 hm0), fun _ => ⟨rfl, hbw⟩⟩
      · obtain ⟨A, c, hv⟩ := hfm
        have HV := Lib.hid hv
        clear hv
        go_wp2
        go_ret2
        refine ⟨fun _ => ⟨A, c, ?_, ?_, hbw⟩, fun hx => absurd (HP.out.2 hx) hm0⟩
        · rw [← HV.out]; exact rfl
        · unfold Own; rw [← HV.out]; exact hown
theorem refFix_no (n wide : Int) (w : World) (hw : wide < 1 ∨ 4 < wide ∨ n < 0 ∨ 2147483647 < n) : Calls Try.prog 24 #[.int .i64 n, .int .i64 wide] w (GivesErr 1 w) := by
  by_cases h1 : wide < 1
  · have hd : decide (wide < 1) = true := by simp [h1]
    go_enter Try.func24, Try.ntmps24
    go_wp2
    go_ret2
    exact ⟨rfl, rfl⟩
  have hd : decide (wide < 1) = false := by simp; omega
  by_cases h4 : 4 < wide
  · have hd4 : decide (4 < wide) = true := by simp [h4]
    go_enter Try.func24, Try.ntmps24
    go_wp2
    go_ret2
    exact ⟨rfl, rfl⟩
  have hd4 : decide (4 < wide) = false := by simp; omega
  by_cases hn : n < 0
  · have hn' : decide (n < 0) = true := by simp [hn]
    go_enter Try.func24, Try.ntmps24
    go_wp2
    go_ret2
    exact ⟨rfl, rfl⟩
  have hn' : decide (n < 0) = false := by simp; omega
  have hn2 : decide (2147483647 < n) = true := by simp; omega
  go_enter Try.func24, Try.ntmps24
  go_wp2
  go_ret2
  exact ⟨rfl, rfl⟩

end Go.Proofs.Ytepeoggacmaenaa
