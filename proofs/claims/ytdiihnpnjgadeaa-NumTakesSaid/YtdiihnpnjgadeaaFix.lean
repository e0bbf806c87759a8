/- The walks of num.Fix and of the reference's Fix: a number in so many bytes. -/
import Derived.Test.YtdiihnpnjgadeaaPut
import Derived.Lib.Hide
namespace Go.Proofs.Ytdiihnpnjgadeaa
open Go.RowKit

theorem pow_256 (k : Nat) : (256 : Nat) ^ k = 2 ^ (8 * k) := by rw [Nat.pow_mul]

theorem shr_test (n k : Nat) : (((n : Int) / 2 ^ (8 * k)) != 0) = !decide (n < 256 ^ k) := by
  have hc : ((n : Int) / 2 ^ (8 * k)) = ((n / 256 ^ k : Nat) : Int) := by rw [pow_256]; simp
  rw [hc]
  by_cases h : n < 256 ^ k
  · have : n / 256 ^ k = 0 := Nat.div_eq_of_lt h
    simp [h, this]
  · have hp : 0 < 256 ^ k := Nat.pow_pos (by omega)
    have : n / 256 ^ k ≠ 0 := by
      have := Nat.div_pos (Nat.le_of_not_lt h) hp; omega
    simp only [h, decide_false, Bool.not_false]
    simp only [bne_iff_ne, ne_eq]
    omega

theorem fix_byte (n j : Nat) : IntKind.u8.wrap ((n : Int) / 2 ^ (8 * j)) = ((UInt8.ofNat (n / 256 ^ j % 256)).toNat : Int) := by
  have hc : ((n : Int) / 2 ^ (8 * j)) = ((n / 256 ^ j : Nat) : Int) := by rw [pow_256]; simp
  rw [hc, ofNat_toNat _ (by omega)]
  simp [IntKind.wrap, IntKind.bits, IntKind.signed]

theorem fix_set (L : List UInt8) (j : Nat) (h : j < L.length) (z : Value) : (cells (L.take j) ++ List.replicate (L.length - j) z).set j (.int .u8 (L[j].toNat : Int)) = cells (L.take (j + 1)) ++ List.replicate (L.length - (j + 1)) z := by
  have e : L.length - j = (L.length - (j + 1)) + 1 := by omega
  have hl : (cells (L.take j)).length = j := by rw [cells_length, List.length_take]; omega
  rw [List.set_append, if_neg (by omega), hl, Nat.sub_self, e, List.replicate_succ, List.set_cons_zero, List.take_succ_eq_append_getElem h, cells_append]
  simp [cells]

set_option maxRecDepth 100000 in
set_option maxHeartbeats 2000000 in
theorem fix_yes (n k : Nat) (w : World) (h : n ≤ 2147483647) (hk1 : 1 ≤ k) (hk4 : k ≤ 4) (hn : n < 256 ^ k) : Calls Try.prog 10 #[.int .i64 (n : Int), .int .i64 (k : Int)] w (GivesBytes (fixL k n) w) := by
  obtain ⟨i0, hi0, hz0, hz1, hz2⟩ := info_parts Try.info5
  have hby : i0.bytes = 1 := hz2
  have hl : (fixL k n).length = k := fixL_length k n
  have hc1 : decide ((k : Int) < 1) = false := by simp; omega
  have hc4 : decide (4 < (k : Int)) = false := by simp; omega
  have ht : (((n : Int) / 2 ^ (8 * k)) != 0) = false := by rw [shr_test]; simp [hn]
  have HL := Lib.hid hl
  clear hl hn
  go_enter Try.func10, Try.ntmps10
  go_wp2_with (first
    | (go_at_call 31; refine (isNumber_yes _ _ (by omega) (by omega)).mono ?_; rintro e w' ⟨rfl, rfl⟩)
    | (at_make; refine wpList_make_full _ rfl _ _ 22 rfl w.heap.size 5 i0 _ 1 Try.underlying22 hi0 hz0 hz1 .i64 .i64 _ _ k rfl rfl rfl rfl (by rw [hby]; omega) (by unfold maxLen; omega) (Nat.le_refl _) ?_; intro w1 hown hgrow))
  simp only [Nat.mul_one, show (Value.int IntKind.u8 0).cells = #[Value.int IntKind.u8 0] from rfl, toList_madeCells_one] at hown
  have hb1 : Below w.heap.size w w1 := (Below.refl _ _).grown hgrow (Nat.le_refl _) (by simp)
  have hsz : w.heap.size < w1.heap.size := (hown.lt w.heap.size rfl).2
  have HI : Hid (List.replicate k (Value.int .u8 0) = cells ((fixL k n).take 0) ++ List.replicate ((fixL k n).length - 0) (Value.int .u8 0)) := by show _ = _; rw [HL.out]; rfl
  go_loopw [31] (fun i wr => ∃ j : Nat, j ≤ k ∧ i = .int .i64 (j : Int) ∧ wr.ownsRow w.heap.size 5 1 (.slice (some ⟨w.heap.size, 0, none⟩) k k) k (cells ((fixL k n).take j) ++ List.replicate ((fixL k n).length - j) (Value.int .u8 0)) ∧ Below w.heap.size w wr) (fun i _ => k - (intOf i).toNat)
  case atStart => exact ⟨0, by omega, rfl, by rw [← HI.out]; exact hown, hb1⟩
  case round =>
    obtain ⟨j, hj, rfl, hown2, hb2⟩ := hrel
    clear hown hgrow hb1 hsz
    by_cases hlt : j < k
    · have hjl : j < (fixL k n).length := by rw [HL.out]; exact hlt
      have hcell : wr.cell? ⟨w.heap.size, j, none⟩ = some (.int .u8 0) := by
        rw [hown2.cellAt j (by omega), List.getElem?_append_right (by rw [cells_length, List.length_take]; omega), cells_length, List.length_take, Nat.min_eq_left (by omega), Nat.sub_self, List.getElem?_replicate, if_pos (by omega)]
      have hfr : wr.frozen? ⟨w.heap.size, j, none⟩ = false := hown2.frozenAt j
      obtain ⟨b, hb⟩ : ∃ b : UInt8, b = (fixL k n)[j] := ⟨_, rfl⟩
      have hbb : IntKind.u8.wrap ((n : Int) / 2 ^ (8 * j)) = (b.toNat : Int) := by
        rw [fix_byte]
        have e := fixL_get k n j hlt
        rw [List.getElem?_eq_getElem hjl, Option.some.injEq] at e
        rw [hb, e]
      have hst := (hown2.stored j (.int .u8 (b.toNat : Int))).1
      rw [hb, fix_set _ _ hjl, ← hb] at hst
      have hb3 : Below w.heap.size w (wr.setCell ⟨w.heap.size, j, none⟩ (.int .u8 (b.toNat : Int))) := hb2.setCell (Nat.le_refl _) _
      clear hb hown2 hjl
      go_wp2
      go_roundw
      case rel => exact ⟨j + 1, by omega, by go_num, hst, hb3⟩
      case measure => simp [intOf]; omega
    · obtain rfl : k = j := by omega
      have e : cells ((fixL k n).take k) ++ List.replicate ((fixL k n).length - k) (Value.int .u8 0) = cells (fixL k n) := by
        rw [List.take_of_length_le (by rw [HL.out]; omega), HL.out, Nat.sub_self]; simp
      rw [e] at hown2
      have HW : Hid (wr.ownsRow w.heap.size 5 1 (.slice (some ⟨w.heap.size, 0, none⟩) k k) k (cells (fixL k n))) := hown2
      clear hown2 e
      go_wp2
      go_ret2
      refine ⟨some ⟨w.heap.size, 0, none⟩, k, by rw [HL.out]; exact rfl, ?_, hb2⟩
      unfold Own
      rw [HL.out]
      exact HW.out

theorem fix_no (n wide : Int) (w : World) (hw : wide < 1 ∨ 4 < wide ∨ n < 0 ∨ 2147483647 < n ∨ (256 : Int) ^ wide.toNat ≤ n) : Calls Try.prog 10 #[.int .i64 n, .int .i64 wide] w (GivesErr 1 w) := by
  by_cases h1 : wide < 1
  · have hd : decide (wide < 1) = true := by simp [h1]
    go_enter Try.func10, Try.ntmps10
    go_wp2
    go_ret2
    exact ⟨rfl, rfl⟩
  by_cases h4 : 4 < wide
  · have hd : decide (wide < 1) = false := by simp; omega
    have hd4 : decide (4 < wide) = true := by simp [h4]
    go_enter Try.func10, Try.ntmps10
    go_wp2
    go_ret2
    exact ⟨rfl, rfl⟩
  have hd : decide (wide < 1) = false := by simp; omega
  have hd4 : decide (4 < wide) = false := by simp; omega
  by_cases hn : n < 0 ∨ 2147483647 < n
  · go_enter Try.func10, Try.ntmps10
    go_wp2_with (go_at_call 31; refine (isNumber_no _ _ hn).mono ?_; rintro e w' ⟨rfl, rfl⟩)
    go_ret2
    exact ⟨rfl, rfl⟩
  obtain ⟨m, rfl⟩ : ∃ m : Nat, n = (m : Int) := ⟨n.toNat, by omega⟩
  obtain ⟨k, rfl⟩ : ∃ k : Nat, wide = (k : Int) := ⟨wide.toNat, by omega⟩
  have hge : (256 : Nat) ^ k ≤ m := by
    have hx : (256 : Int) ^ k ≤ (m : Int) := by
      rcases hw with h | h | h | h | h
      · omega
      · omega
      · omega
      · omega
      · simpa using h
    have hc : ((256 ^ k : Nat) : Int) = (256 : Int) ^ k := by simp
    omega
  have ht : (((m : Int) / 2 ^ (8 * k)) != 0) = true := by rw [shr_test]; simp; omega
  clear hw hge
  go_enter Try.func10, Try.ntmps10
  go_wp2_with (go_at_call 31; refine (isNumber_yes _ _ (by omega) (by omega)).mono ?_; rintro e w' ⟨rfl, rfl⟩)
  go_ret2
  exact ⟨rfl, rfl⟩

theorem fixL_snoc : ∀ (k n : Nat), fixL (k + 1) n = fixL k n ++ [UInt8.ofNat (n / 256 ^ k % 256)] := by
  intro k
  induction k with
  | zero => intro n; simp [fixL]
  | succ k ih =>
    intro n
    rw [fixL, ih (n / 256), fixL, List.cons_append, Nat.div_div_eq_div_mul, Nat.pow_succ, Nat.mul_comm 256]

set_option maxRecDepth 100000 in
set_option maxHeartbeats 2000000 in
theorem refFix_any (n k : Nat) (w : World) (h : n ≤ 2147483647) (hk1 : 1 ≤ k) (hk4 : k ≤ 4) :
    Calls Try.prog 11 #[.int .i64 (n : Int), .int .i64 (k : Int)] w fun e w' => (n < 256 ^ k → GivesBytes (fixL k n) w e w') ∧ (¬ n < 256 ^ k → e = .returned (.tuple #[.slice none 0 0, .int .i64 1]) ∧ Below w.heap.size w w') := by
  have hl : (fixL k n).length = k := fixL_length k n
  have hc1 : decide ((k : Int) < 1) = false := by simp; omega
  have hc4 : decide (4 < (k : Int)) = false := by simp; omega
  have hn1 : decide ((n : Int) < 0) = false := by simp
  have hn2 : decide (2147483647 < (n : Int)) = false := by simp; omega
  have HL := Lib.hid hl
  clear hl
  go_enter Try.func11, Try.ntmps11
  go_wp2
  go_loopw [0, 6, 7] (fun x v i wr => ∃ (j m : Nat), j ≤ k ∧ i = .int .i64 (j : Int) ∧ x = .int .i64 (m : Int) ∧ m ≤ 2147483647 ∧ m = n / 256 ^ j ∧ wr.ownsRow w.heap.size 5 1 v (fixL j n).length (cells (fixL j n)) ∧ Below w.heap.size w wr) (fun _ _ i _ => k - (intOf i).toNat)
  case atStart => exact ⟨0, n, by omega, rfl, rfl, h, by simp, World.ownsRow_nil _ _ _ _, Below.refl _ _⟩
  case round =>
    obtain ⟨j, m, hj, rfl, rfl, hm, hmn, hown, hbw⟩ := hrel
    have HM : Hid (m = n / 256 ^ j) := hmn
    clear hmn
    by_cases hlt : j < k
    · obtain ⟨b, hb⟩ : ∃ b : UInt8, b = UInt8.ofNat (m % 256) := ⟨_, rfl⟩
      have HB : Hid ((m : Int) % 256 = (b.toNat : Int)) := by rw [hb, ofNat_toNat _ (by omega)]; show (m : Int) % 256 = _; omega
      have HQ : Hid (fixL j n ++ [b] = fixL (j + 1) n) := by show _ = _; rw [fixL_snoc, hb, HM.out]
      have HM2 : Hid (m / 256 = n / 256 ^ (j + 1)) := by show _ = _; rw [HM.out, Nat.div_div_eq_div_mul, Nat.pow_succ]
      have hlen1 : (fixL j n).length + 1 ≤ 1048576 := by rw [fixL_length]; omega
      clear hb
      go_wp2_with (at_builtin; refine append_byte rfl _ _ rfl b rfl hown hbw (Nat.le_refl _) HB.out rfl hlen1 ?_; intro v' w1 hown' hbw')
      go_roundw
      case rel => exact ⟨j + 1, m / 256, by omega, by go_num, by go_num, by omega, HM2.out, by rw [← HQ.out]; exact hown', hbw'⟩
      case measure => simp [intOf]; omega
    · obtain rfl : k = j := by omega
      have hp : 0 < 256 ^ k := Nat.pow_pos (by omega)
      have HP : Hid (0 < m ↔ ¬ n < 256 ^ k) := by
        show _ ↔ _
        rw [HM.out]
        constructor
        · intro h0 h1; rw [Nat.div_eq_of_lt h1] at h0; omega
        · intro h0; exact Nat.div_pos (by omega) hp
      have hfm := own_form hown
      clear hp
      by_cases hm0 : 0 < m
      · go_wp2
        go_ret2
        exact ⟨fun hx => absurd hx (HP.out.1 hm0), fun _ => ⟨rfl, hbw⟩⟩
      · obtain ⟨A, c, hv⟩ := hfm
        have HV := Lib.hid hv
        clear hv
        go_wp2
        go_ret2
        refine ⟨fun _ => ⟨A, c, ?_, ?_, hbw⟩, fun hx => absurd (HP.out.2 hx) hm0⟩
        · rw [← HV.out]; exact rfl
        · unfold Own; rw [← HV.out]; exact hown

theorem refFix_no (n wide : Int) (w : World) (hw : wide < 1 ∨ 4 < wide ∨ n < 0 ∨ 2147483647 < n) : Calls Try.prog 11 #[.int .i64 n, .int .i64 wide] w (GivesErr 1 w) := by
  by_cases h1 : wide < 1
  · have hd : decide (wide < 1) = true := by simp [h1]
    go_enter Try.func11, Try.ntmps11
    go_wp2
    go_ret2
    exact ⟨rfl, rfl⟩
  have hd : decide (wide < 1) = false := by simp; omega
  by_cases h4 : 4 < wide
  · have hd4 : decide (4 < wide) = true := by simp [h4]
    go_enter Try.func11, Try.ntmps11
    go_wp2
    go_ret2
    exact ⟨rfl, rfl⟩
  have hd4 : decide (4 < wide) = false := by simp; omega
  by_cases hn : n < 0
  · have hn' : decide (n < 0) = true := by simp [hn]
    go_enter Try.func11, Try.ntmps11
    go_wp2
    go_ret2
    exact ⟨rfl, rfl⟩
  have hn' : decide (n < 0) = false := by simp; omega
  have hn2 : decide (2147483647 < n) = true := by simp; omega
  go_enter Try.func11, Try.ntmps11
  go_wp2
  go_ret2
  exact ⟨rfl, rfl⟩

end Go.Proofs.Ytdiihnpnjgadeaa
