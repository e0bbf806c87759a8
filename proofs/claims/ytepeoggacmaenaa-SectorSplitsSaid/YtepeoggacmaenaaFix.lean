/- The walks of num.Fix and of the reference's Fix: a number in so many bytes. -/
import Derived.Test.YtepeoggacmaenaaNum
import Derived.Lib.Hide
set_option linter.unusedVariables false
set_option linter.unusedSimpArgs false
namespace Go.Proofs.Ytepeoggacmaenaa
open Go.RowKit

theorem shr_test (n k : Nat) : (((n : Int) / 2 ^ (8 * k)) != 0) = !decide (n < 256 ^ k) := by
  have hc : ((n : Int) / 2 ^ (8 * k)) = ((n / 256 ^ k : Nat) : Int) := by rw [pow_256]; simp
  rw [hc]
  by_cases h : n < 256 ^ k
  · have : n / 256 ^ k = 0 := Nat.div_eq_of_lt h
    simp [h, this]
  · have hp : 0 < 256 ^ k := Nat.pow_pos (by omega)
    have : n / 256 ^ k ≠ 0 := by
      have := Nat.div_pos (Nat.le_of_not_lt h) hp; omega
    simp only [h, decide_false, Bool.not_false]
    simp only [bne_iff_ne, ne_eq]
    omega
theorem fix_byte (n j : Nat) : IntKind.u8.wrap ((n : Int) / 2 ^ (8 * j)) = ((UInt8.ofNat (n / 256 ^ j % 256)).toNat : Int) := by
  have hc : ((n : Int) / 2 ^ (8 * j)) = ((n / 256 ^ j : Nat) : Int) := by rw [pow_256]; simp
  rw [hc, ofNat_toNat _ (by omega)]
  simp [IntKind.wrap, IntKind.bits, IntKind.signed]
theorem fix_set (L : List UInt8) (j : Nat) (h : j < L.length) (z : Value) : (cells (L.take j) ++ List.replicate (L.length - j) z).set j (.int .u8 (L[j].toNat : Int)) = cells (L.take (j + 1)) ++ List.replicate (L.length - (j + 1)) z := by
  have e : L.length - j = (L.length - (j + 1)) + 1 := by omega
  have hl : (cells (L.take j)).length = j := by rw [cells_length, List.length_take]; omega
  rw [List.set_append, if_neg (by omega), hl, Nat.sub_self, e, List.replicate_succ, List.set_cons_zero, List.take_succ_eq_append_getElem h, cells_append]
  simp [cells]
set_option maxRecDepth 100000 in
set_option maxHeartbeats 2000000 in
theorem fix_yes (n k : Nat) (w : World) (h : n ≤ 2147483647) (hk1 : 1 ≤ k) (hk4 : k ≤ 4) (hn : n < 256 ^ k) : Calls Try.prog 21 #[.int .i64 (n : Int), .int .i64 (k : Int)] w (GivesBytes (fixL k n) w) := by
  obtain ⟨i0, hi0, hz0, hz1, hz2⟩ := info_parts Try.info5
  have hby : i0.bytes = 1 := hz2
  have hl : (fixL k n).length = k := fixL_length k n
  have hc1 : decide ((k : Int) < 1) = false := by simp; omega
  have hc4 : decide (4 < (k : Int)) = false := by simp; omega
  have ht : (((n : Int) / 2 ^ (8 * k)) != 0) = false := by rw [shr_test]; simp [hn]
  have HL := Lib.hid hl
  clear hl hn
  go_enter Try.func21, Try.ntmps21
  go_wp2_with (first
    | (go_at_call 37; refine (isNumber_yes _ _ (by omega) (by omega)).mono ?_; rintro e w' ⟨rfl, rfl⟩)
    | (at_make; refine wpList_make_full _ rfl _ _ 22 rfl w.heap.size 5 i0 _ 1 Try.underlying22 hi0 hz0 hz1 .i64 .i64 _ _ k rfl rfl rfl rfl (by rw [hby]; omega) (by unfold maxLen; omega) (Nat.le_refl _) ?_; intro w1 hown hgrow))
  simp only [Nat.mul_one, show (Value.int IntKind.u8 0).cells = #[Value.int IntKind.u8 0] from rfl, toList_madeCells_one] at hown
  have hb1 : Below w.heap.size w w1 := (Below.refl _ _).grown hgrow (Nat.le_refl _) (by simp)
  have hsz : w.heap.size < w1.heap.size := (hown.lt w.heap.size rfl).2
  have HI : Hid (List.replicate k (Value.int .u8 0) = cells ((fixL k n).take 0) ++ List.replicate ((fixL k n).length - 0) (Value.int .u8 0)) := by show _ = _; rw [HL.out]; rfl
  go_loopw [31] (fun i wr => ∃ j : Nat, j ≤ k ∧ i = .int .i64 (j : Int) ∧ wr.ownsRow w.heap.size 5 1 (.slice (some ⟨w.heap.size, 0, none⟩) k k) k (cells ((fixL k n).take j) ++ List.replicate ((fixL k n).length - j) (Value.int .u8 0)) ∧ Below w.heap.size w wr) (fun i _ => k - (intOf i).toNat)
  case atStart => exact ⟨0, by omega, rfl, by rw [← HI.out]; exact hown, hb1⟩
  case round =>
    obtain ⟨j, hj, rfl, hown2, hb2⟩ := hrel
    clear hown hgrow hb1 hsz
    by_cases hlt : j < k
    · have hjl : j < (fixL k n).length := by rw [HL.out]; exact hlt
      have hcell : wr.cell? ⟨w.heap.size, j, none⟩ = some (.int .u8 0) := by
        rw [hown2.cellAt j (by omega), List.getElem?_append_right (by rw [cells_length, List.length_take]; omega), cells_length, List.length_take, Nat.min_eq_left (by omega), Nat.sub_self, List.getElem?_replicate, if_pos (by omega)]
      have hfr : wr.frozen? ⟨w.heap.size, j, none⟩ = false := hown2.frozenAt j
      obtain ⟨b, hb⟩ : ∃ b : UInt8, b = (fixL k n)[j] := ⟨_, rfl⟩
      have hbb : IntKind.u8.wrap ((n : Int) / 2 ^ (8 * j)) = (b.toNat : Int) := by
        rw [fix_byte]
        have e := fixL_get k n j hlt
        rw [List.getElem?_eq_getElem hjl, Option.some.injEq] at e
        rw [hb, e]
      have hst := (hown2.stored j (.int .u8 (b.toNat : Int))).1
      rw [hb, fix_set _ _ hjl, ← hb] at hst
      have hb3 : Below w.heap.size w (wr.setCell ⟨w.heap.size, j, none⟩ (.int .u8 (b.toNat : Int))) := hb2.setCell (Nat.le_refl _) _
      clear hb hown2 hjl
      go_wp2
      go_roundw
      case rel => exact ⟨j + 1, by omega, by go_num, hst, hb3⟩
      case measure => simp [intOf]; omega
    · obtain rfl : k = j := by omega
      have e : cells ((fixL k n).take k) ++ List.replicate ((fixL k n).length - k) (Value.int .u8 0) = cells (fixL k n) := by
        rw [List.take_of_length_le (by rw [HL.out]; omega), HL.out, Nat.sub_self]; simp
      rw [e] at hown2
      have HW : Hid (wr.ownsRow w.heap.size 5 1 (.slice (some ⟨w.heap.size, 0, none⟩) k k) k (cells (fixL k n))) := hown2
      clear hown2 e
      go_wp2
      go_ret2
      refine ⟨some ⟨w.heap.size, 0, none⟩, k, by rw [HL.out]; exact rfl, ?_, hb2⟩
      unfold Own
      rw [HL.out]
      exact HW.out
theorem fix_no (n wide : Int) (w : World) (hw : wide < 1 ∨ 4 < wide ∨ n < 0 ∨ 2147483647 < n ∨ (256 : Int) ^ wide.toNat ≤ n) : Calls Try.prog 21 #[.int .i64 n, .int .i64 wide] w (GivesErr 1 w) := by
  by_cases h1 : wide < 1
  · have hd : decide (wide < 1) = true := by simp [h1]
    go_enter Try.func21, Try.ntmps21
    go_wp2
    go_ret2
    exact ⟨rfl, rfl⟩
  by_cases h4 : 4 < wide
  · have hd : decide (wide < 1) = false := by simp; omega
    have hd4 : decide (4 < wide) = true := by simp [h4]
    go_enter Try.func21, Try.ntmps21
    go_wp2
    go_ret2
    exact ⟨rfl, rfl⟩
  have hd : decide (wide < 1) = false := by simp; omega
  have hd4 : decide (4 < wide) = false := by simp; omega
  by_cases hn : n < 0 ∨ 2147483647 < n
  · go_enter Try.func21, Try.ntmps21
    go_wp2_with (go_at_call 37; refine (isNumber_no _ _ hn).mono ?_; rintro e w' ⟨rfl, rfl⟩)
    go_ret2
    exact ⟨rfl, rfl⟩
  obtain ⟨m, rfl⟩ : ∃ m : Nat, n = (m : Int) := ⟨n.toNat, by omega⟩
  obtain ⟨k, rfl⟩ : ∃ k : Nat, wide = (k : Int) := ⟨wide.toNat, by omega⟩
  have hge : (256 : Nat) ^ k ≤ m := by
    have hx : (256 : Int) ^ k ≤ (m : Int) := by
      rcases hw with h | h | h | h | h
      · omega
      · omega
      · omega
      · omega
      · simpa using h
    have hc : ((256 ^ k : Nat) : Int) = (256 : Int) ^ k := by simp
    omega
  have ht : (((m : Int) / 2 ^ (8 * k)) != 0) = true := by rw [shr_test]; simp; omega
  clear hw hge
  go_enter Try.func21, Try.ntmps21
  go_wp2_with (go_at_call 37; refine (isNumber_yes _ _ (by omega) (by omega)).mono ?_; rintro e w' ⟨rfl, rfl⟩)
  go_ret2
  exact ⟨rfl, rfl⟩

end Go.Proofs.Ytepeoggacmaenaa
