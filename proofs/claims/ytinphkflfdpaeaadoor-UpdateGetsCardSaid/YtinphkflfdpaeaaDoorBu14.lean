/- Lemmas under the proofs of this place: Text, RPut, RFix. No statement is proved here. -/
import Derived.Test.YtinphkflfdpaeaaDoorBu09
import Derived.Test.YtinphkflfdpaeaaDoorBu10
import Derived.Lib.Hide
set_option linter.unusedSimpArgs false
set_option linter.unusedVariables false
set_option maxRecDepth 100000
set_option maxHeartbeats 16000000
namespace Go.Proofs.YtinphkflfdpaeaaDoor
section
open Go.RowKit
theorem text_yes (L : List UInt8) (A : Option Addr) (c B : Nat) (w : World) (hr : RB w w.heap.size A L) (hl : L.length ≤ 262144) :
    Calls Tryd.prog 72 #[.slice A L.length c] w (GivesBytes (putL L.length ++ L) w) := by
  obtain ⟨i0, hi0, hz0, hz1, hz2⟩ := info_parts Tryd.info5
  have hp5 := putL_len5 L.length (by omega)
  go_enter Tryd.func72, Tryd.ntmps72
  go_wp2_with (first
    | (go_at_call 85; refine (put_yes L.length _ (by omega)).mono ?_; rintro e w1 ⟨A1, c1, rfl, hown1, hb1⟩)
    | (at_builtin; refine wpList_append_any _ rfl (.tmp 15) (.tmp 16) _ rfl w.heap.size 5 i0 _ 1 1 Tryd.underlying29 hi0 hz0 hz1 hz2 rfl (by omega) _ (putL L.length).length (cells (putL L.length)) rfl hown1 w.heap.size A L.length c (cells L) rfl (hr.below hb1) (cells_one _) (by simp only [maxLen]; omega) (by omega) hb1.size ?_; intro v2 w2 hown2 hg2 hat2))
  have hb2 : Below w.heap.size w w2 := hb1.grown hg2 hb1.size (fun k hk => (World.ownsRow.lt hown1 k hk).1)
  rw [← cells_append, ← List.length_append] at hown2
  obtain ⟨A2, c2, hv⟩ := own_form hown2
  go_ret2
  exact ⟨A2, c2, by rw [hv]; rfl, by rw [hv] at hown2; exact hown2, hb2⟩
end
section
open Go.RowKit
theorem refPut_yes (n : Nat) (w : World) (h : n ≤ 2147483647) : Calls Tryd.prog 74 #[.int .i64 (n : Int)] w (GivesBytes (putL n) w) := by
  have h1 : (n : Int) ≤ 2147483647 := by omega
  go_enter Tryd.func74, Tryd.ntmps74
  go_wp2
  go_loopw [4, 0] (fun v m wr => ∃ (k : Nat) (P : List UInt8), m = .int .i64 (k : Int) ∧ k ≤ 2147483647 ∧ P ++ putL k = putL n ∧ wr.ownsRow w.heap.size 5 1 v P.length (cells P) ∧ Below w.heap.size w wr)
    (fun _ m _ => (intOf m).toNat)
  case atStart => exact ⟨n, [], rfl, h, rfl, World.ownsRow_nil _ _ _ _, Below.refl _ _⟩
  case round =>
    obtain ⟨k, P, rfl, hk, hP, hown, hbw⟩ := hrel
    have hlen : P.length + (putL k).length ≤ 5 := by rw [← List.length_append, hP]; exact putL_len5 n h
    have hpos := putL_len_pos k
    have hlen1 : P.length + 1 ≤ 1048576 := by omega
    have HP : Hid (P ++ putL k = putL n) := hP
    clear hP hlen hpos
    by_cases hlt : 128 ≤ k
    · have hlt' : (128 : Int) ≤ (k : Int) := by omega
      obtain ⟨b, hb⟩ : ∃ b : UInt8, b = UInt8.ofNat (k % 128 + 128) := ⟨_, rfl⟩
      have HB : Hid (((k : Int) % 128 + 128) = (b.toNat : Int)) := by rw [hb, ofNat_toNat _ (by omega)]; show (k : Int) % 128 + 128 = _; omega
      have HQ : Hid ((P ++ [b]) ++ putL (k / 128) = putL n) := by show (P ++ [b]) ++ putL (k / 128) = putL n; rw [← HP.out, putL_big k hlt, hb]; simp
      clear hb
      go_wp2_with (at_builtin; refine append_byte rfl _ _ rfl b rfl hown hbw (Nat.le_refl _) HB.out rfl hlen1 ?_; intro v' w1 hown' hbw')
      go_roundw
      case rel => exact ⟨k / 128, P ++ [b], by go_num, by omega, HQ.out, hown', hbw'⟩
      case measure => simp [intOf]; omega
    · have hlt' : (k : Int) < 128 := by omega
      obtain ⟨b, hb⟩ : ∃ b : UInt8, b = UInt8.ofNat k := ⟨_, rfl⟩
      have HB : Hid ((k : Int) = (b.toNat : Int)) := by rw [hb, ofNat_toNat _ (by omega)]; rfl
      have HQ : Hid (P ++ [b] = putL n) := by show P ++ [b] = putL n; rw [← HP.out, putL_small k (by omega), hb]
      clear hb
      go_wp2_with (at_builtin; refine append_byte rfl _ _ rfl b rfl hown hbw (Nat.le_refl _) HB.out rfl hlen1 ?_; intro v' w1 hown' hbw')
      rw [HQ.out] at hown'
      obtain ⟨A, c, hv⟩ := own_form hown'
      go_ret2
      exact ⟨A, c, by rw [hv]; rfl, by rw [hv] at hown'; exact hown', hbw'⟩
end
section
open Go.RowKit
theorem fixL_snoc : ∀ (k n : Nat), fixL (k + 1) n = fixL k n ++ [UInt8.ofNat (n / 256 ^ k % 256)] := by
  intro k
  induction k with
  | zero => intro n; simp [fixL]
  | succ k ih =>
    intro n
    rw [fixL, ih (n / 256), fixL, List.cons_append, Nat.div_div_eq_div_mul, Nat.pow_succ, Nat.mul_comm 256]
theorem refFix_any (n k : Nat) (w : World) (h : n ≤ 2147483647) (hk1 : 1 ≤ k) (hk4 : k ≤ 4) :
    Calls Tryd.prog 51 #[.int .i64 (n : Int), .int .i64 (k : Int)] w fun e w' => (n < 256 ^ k → GivesBytes (fixL k n) w e w') ∧ (¬ n < 256 ^ k → e = .returned (.tuple #[.slice none 0 0, .int .i64 1]) ∧ Below w.heap.size w w') := by
  have hl : (fixL k n).length = k := fixL_length k n
  have hc1 : decide ((k : Int) < 1) = false := by simp; omega
  have hc4 : decide (4 < (k : Int)) = false := by simp; omega
  have hn1 : decide ((n : Int) < 0) = false := by simp
  have hn2 : decide (2147483647 < (n : Int)) = false := by simp; omega
  have HL := Lib.hid hl
  clear hl
  go_enter Tryd.func51, Tryd.ntmps51
  go_wp2
  go_loopw [0, 6, 7] (fun x v i wr => ∃ (j m : Nat), j ≤ k ∧ i = .int .i64 (j : Int) ∧ x = .int .i64 (m : Int) ∧ m ≤ 2147483647 ∧ m = n / 256 ^ j ∧ wr.ownsRow w.heap.size 5 1 v (fixL j n).length (cells (fixL j n)) ∧ Below w.heap.size w wr) (fun _ _ i _ => k - (intOf i).toNat)
  case atStart => exact ⟨0, n, by omega, rfl, rfl, h, by simp, World.ownsRow_nil _ _ _ _, Below.refl _ _⟩
  case round =>
    obtain ⟨j, m, hj, rfl, rfl, hm, hmn, hown, hbw⟩ := hrel
    have HM : Hid (m = n / 256 ^ j) := hmn
    clear hmn
    by_cases hlt : j < k
    · obtain ⟨b, hb⟩ : ∃ b : UInt8, b = UInt8.ofNat (m % 256) := ⟨_, rfl⟩
      have HB : Hid ((m : Int) % 256 = (b.toNat : Int)) := by rw [hb, ofNat_toNat _ (by omega)]; show (m : Int) % 256 = _; omega
      have HQ : Hid (fixL j n ++ [b] = fixL (j + 1) n) := by show _ = _; rw [fixL_snoc, hb, HM.out]
      have HM2 : Hid (m / 256 = n / 256 ^ (j + 1)) := by show _ = _; rw [HM.out, Nat.div_div_eq_div_mul, Nat.pow_succ]
      have hlen1 : (fixL j n).length + 1 ≤ 1048576 := by rw [fixL_length]; omega
      clear hb
      go_wp2_with (at_builtin; refine append_byte rfl _ _ rfl b rfl hown hbw (Nat.le_refl _) HB.out rfl hlen1 ?_; intro v' w1 hown' hbw')
      go_roundw
      case rel => exact ⟨j + 1, m / 256, by omega, by go_num, by go_num, by omega, HM2.out, by rw [← HQ.out]; exact hown', hbw'⟩
      case measure => simp [intOf]; omega
    · obtain rfl : k = j := by omega
      have hp : 0 < 256 ^ k := Nat.pow_pos (by omega)
      have HP : Hid (0 < m ↔ ¬ n < 256 ^ k) := by
        show _ ↔ _
        rw [HM.out]
        constructor
        · intro h0 h1; rw [Nat.div_eq_of_lt h1] at h0; omega
        · intro h0; exact Nat.div_pos (by omega) hp
      have hfm := own_form hown
      clear hp
      by_cases hm0 : 0 < m
      · go_wp2
        go_ret2
        exact ⟨fun hx => absurd hx (HP.out.1 hm0), fun _ => ⟨rfl, hbw⟩⟩
      · obtain ⟨A, c, hv⟩ := hfm
        have HV := Lib.hid hv
        clear hv
        go_wp2
        go_ret2
        refine ⟨fun _ => ⟨A, c, ?_, ?_, hbw⟩, fun hx => absurd (HP.out.2 hx) hm0⟩
        · rw [← HV.out]; exact rfl
        · unfold Own; rw [← HV.out]; exact hown
end
end Go.Proofs.YtinphkflfdpaeaaDoor
