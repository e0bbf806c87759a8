/- Lemmas under the proofs of this place: Put, CrcMore, CrcRMore. No statement is proved here. -/
import Derived.Test.YtnmcohdlogepdaaBu06
section
set_option linter.unusedVariables false
set_option linter.unusedSimpArgs false
namespace Go.Proofs.Ytnmcohdlogepdaa
open Go.RowKit
set_option maxRecDepth 100000 in
set_option maxHeartbeats 1000000 in
theorem put_yes (n : Nat) (w : World) (h : n ≤ 2147483647) : Calls Try.prog 49 #[.int .i64 (n : Int)] w (GivesBytes (putL n) w) := by
  have hmk : ∀ w, (Instr.makeSlice 22 (.int .i64 0) (.int .i64 5)).run Try.prog w = .ok (.slice (some ⟨w.heap.size, 0, none⟩) 0 5) (w.alloc (.cells #[.int .u8 0, .int .u8 0, .int .u8 0, .int .u8 0, .int .u8 0] 5)) := fun _ => by kernel_rfl
  go_enter Try.func49, Try.ntmps49
  go_wp2_with (go_at_call 58; refine (isNumber_yes _ _ (by omega) (by omega)).mono ?_; rintro e w' ⟨rfl, rfl⟩)
  go_loopw [4, 0] (fun v m wr => ∃ (k : Nat) (P : List UInt8), m = .int .i64 (k : Int) ∧ k ≤ 2147483647 ∧ P ++ putL k = putL n ∧ wr.ownsRow w.heap.size 5 1 v P.length (cells P) ∧ Below w.heap.size w wr)
    (fun _ m _ => (intOf m).toNat)
  case atStart => exact ⟨n, [], rfl, h, rfl, World.ownsRow_made _ _ 5 (Nat.le_refl _) (by decide) rfl, (Below.refl _ _).alloc (Nat.le_refl _) _⟩
  case round =>
    obtain ⟨k, P, rfl, hk, hP, hown, hbw⟩ := hrel
    have hlen : P.length + (putL k).length ≤ 5 := by rw [← List.length_append, hP]; exact putL_len5 n h
    have hpos := putL_len_pos k
    have hlen1 : P.length + 1 ≤ 1048576 := by omega
    have HP : Hid (P ++ putL k = putL n) := hP
    clear hP hlen hpos
    by_cases hlt : 128 ≤ k
    · have hlt' : (128 : Int) ≤ (k : Int) := by omega
      obtain ⟨b, hb⟩ : ∃ b : UInt8, b = UInt8.ofNat (k % 128 + 128) := ⟨_, rfl⟩
      have HB : Hid (((k : Int) % 128 + 128) = (b.toNat : Int)) := by rw [hb, ofNat_toNat _ (by omega)]; show (k : Int) % 128 + 128 = _; omega
      have HQ : Hid ((P ++ [b]) ++ putL (k / 128) = putL n) := by show (P ++ [b]) ++ putL (k / 128) = putL n; rw [← HP.out, putL_big k hlt, hb]; simp
      clear hb
      go_wp2_with (at_builtin; refine append_byte rfl _ _ rfl b rfl hown hbw (Nat.le_refl _) HB.out rfl hlen1 ?_; intro v' w1 hown' hbw')
      go_roundw
      case rel => exact ⟨k / 128, P ++ [b], by go_num, by omega, HQ.out, hown', hbw'⟩
      case measure => simp [intOf]; omega
    · have hlt' : (k : Int) < 128 := by omega
      obtain ⟨b, hb⟩ : ∃ b : UInt8, b = UInt8.ofNat k := ⟨_, rfl⟩
      have HB : Hid ((k : Int) = (b.toNat : Int)) := by rw [hb, ofNat_toNat _ (by omega)]; rfl
      have HQ : Hid (P ++ [b] = putL n) := by show P ++ [b] = putL n; rw [← HP.out, putL_small k (by omega), hb]
      clear hb
      go_wp2_with (at_builtin; refine append_byte rfl _ _ rfl b rfl hown hbw (Nat.le_refl _) HB.out rfl hlen1 ?_; intro v' w1 hown' hbw')
      rw [HQ.out] at hown'
      obtain ⟨A, c, hv⟩ := own_form hown'
      go_ret2
      exact ⟨A, c, by rw [hv]; rfl, by rw [hv] at hown'; exact hown', hbw'⟩
end Go.Proofs.Ytnmcohdlogepdaa
end
section
set_option linter.unusedVariables false
namespace Go.Proofs.Ytnmcohdlogepdaa
open Go.RowKit
set_option maxRecDepth 100000 in
set_option maxHeartbeats 1000000 in
theorem more_any (s : Nat) (L : List UInt8) (A : Option Addr) (c B : Nat) (w : World) (hs : s < 4294967296) (hr : RB w B A L) (hl : L.length ≤ 9223372036854775806) :
    Calls Try.prog 52 #[.int .u32 (s : Int), .slice A L.length c] w fun e w' => e = .returned (.int .u32 (moreL s L : Int)) ∧ w = w' := by
  have hx0 : s ^^^ 4294967295 < 4294967296 := Nat.xor_lt_two_pow (n := 32) hs (by decide)
  obtain ⟨z, hz⟩ : ∃ z : Nat, z = s ^^^ 4294967295 := ⟨_, rfl⟩
  have HN : Hid (bits .xor .u32 IntKind.u32.max (s : Int) = (z : Int)) := by show _ = _; rw [hz]; exact u32_not s hs
  have HM : Hid (moreL s L = raw z L ^^^ 4294967295) := by show _ = _; rw [hz]; rfl
  rw [← hz] at hx0
  clear hz hs
  go_enter Try.func52, Try.ntmps52
  go_wp2
  go_loop [5, 12] (fun r i => ∃ k : Nat, k ≤ L.length ∧ i = .int .i64 (k : Int) ∧ r = .int .u32 (raw z (L.take k) : Int)) (fun _ i => L.length - (intOf i).toNat)
  case atStart => exact ⟨0, by omega, rfl, congrArg (Value.int .u32) HN.out⟩
  case round =>
    obtain ⟨k, hk, rfl, rfl⟩ := hrel
    obtain ⟨x, hx⟩ : ∃ x : Nat, x = raw z (L.take k) := ⟨_, rfl⟩
    have hxl : x < 4294967296 := by rw [hx]; exact raw_lt _ _ hx0
    rw [← hx]
    by_cases hlt : k < L.length
    · obtain ⟨b, off, rfl, hb, hc⟩ := RB.at_ hr (by omega)
      have hck := hc k hlt
      have HR : Hid (raw z (L.take (k + 1)) = stps 8 (x ^^^ L[k].toNat)) := by show _ = _; rw [hx]; exact raw_take z L k hlt
      have HY : Hid (bits .xor .u32 (x : Int) ((L[k].toNat : Int) % 4294967296) = ((x ^^^ L[k].toNat : Nat) : Int)) := u32_byte x L[k] hxl
      have hyl : x ^^^ L[k].toNat < 4294967296 := Nat.xor_lt_two_pow (n := 32) hxl (byte_lt32 _)
      clear hc hx hr
      go_wp2
      go_loop [5, 20] (fun r i => ∃ j : Nat, j ≤ 8 ∧ i = .int .i64 (j : Int) ∧ r = .int .u32 (stps j (x ^^^ L[k].toNat) : Int)) (fun _ i => 8 - (intOf i).toNat)
      case atStart => exact ⟨0, by omega, rfl, congrArg (Value.int .u32) HY.out⟩
      case round =>
        obtain ⟨j, hj, rfl, rfl⟩ := hrel
        by_cases hlt2 : j < 8
        · have HS := Lib.hid (u32_step (stps j (x ^^^ L[k].toNat)) (stps_lt j _ hyl))
          have HT := Lib.hid (stps_succ j (x ^^^ L[k].toNat))
          go_wp2
          go_round
          case rel => exact ⟨j + 1, by omega, by go_num, by rw [HT.out]; exact congrArg (Value.int .u32) HS.out⟩
          case measure => simp [intOf]; omega
        · obtain rfl : j = 8 := by omega
          go_wp2
          go_round
          case rel => exact ⟨k + 1, by omega, by go_num, by rw [HR.out]⟩
          case measure => simp [intOf]; omega
    · have HE : Hid (bits .xor .u32 IntKind.u32.max (x : Int) = (moreL s L : Int)) := by
        show _ = _
        rw [u32_not x hxl, HM.out, hx, List.take_of_length_le (by omega)]
      clear hx
      go_wp2
      go_ret
      exact ⟨congrArg (fun v => Ending.returned (Value.int .u32 v)) HE.out, rfl⟩
theorem sum_any (L : List UInt8) (A : Option Addr) (c B : Nat) (w : World) (hr : RB w B A L) (hl : L.length ≤ 9223372036854775806) :
    Calls Try.prog 36 #[.slice A L.length c] w fun e w' => e = .returned (.int .u32 (sumL L : Int)) ∧ w = w' := by
  go_enter Try.func36, Try.ntmps36
  go_wp2_with (go_at_call 52; refine (more_any 0 L A c B _ (by decide) hr hl).mono ?_; rintro e w' ⟨rfl, rfl⟩)
  go_ret
  exact ⟨rfl, rfl⟩
end Go.Proofs.Ytnmcohdlogepdaa
end
section
set_option linter.unusedVariables false
namespace Go.Proofs.Ytnmcohdlogepdaa
open Go.RowKit
set_option maxRecDepth 100000 in
set_option maxHeartbeats 1000000 in
theorem refMore_any (s : Nat) (L : List UInt8) (A : Option Addr) (c B : Nat) (w : World) (hs : s < 4294967296) (hr : RB w B A L) (hl : L.length ≤ 9223372036854775806) :
    Calls Try.prog 33 #[.int .u32 (s : Int), .slice A L.length c] w fun e w' => e = .returned (.int .u32 (moreL s L : Int)) ∧ w = w' := by
  have hx0 : s ^^^ 4294967295 < 4294967296 := Nat.xor_lt_two_pow (n := 32) hs (by decide)
  obtain ⟨z, hz⟩ : ∃ z : Nat, z = s ^^^ 4294967295 := ⟨_, rfl⟩
  have HN : Hid (bits .xor .u32 (s : Int) 4294967295 = (z : Int)) := by show _ = _; rw [hz]; exact u32_notr s hs
  have HM : Hid (moreL s L = raw z L ^^^ 4294967295) := by show _ = _; rw [hz]; rfl
  rw [← hz] at hx0
  clear hz hs
  go_enter Try.func33, Try.ntmps33
  go_wp2
  go_loop [5, 6] (fun r i => ∃ k : Nat, k ≤ L.length ∧ i = .int .i64 (k : Int) ∧ r = .int .u32 (raw z (L.take k) : Int)) (fun _ i => L.length - (intOf i).toNat)
  case atStart => exact ⟨0, by omega, rfl, congrArg (Value.int .u32) HN.out⟩
  case round =>
    obtain ⟨k, hk, rfl, rfl⟩ := hrel
    obtain ⟨x, hx⟩ : ∃ x : Nat, x = raw z (L.take k) := ⟨_, rfl⟩
    have hxl : x < 4294967296 := by rw [hx]; exact raw_lt _ _ hx0
    rw [← hx]
    by_cases hlt : k < L.length
    · obtain ⟨b, off, rfl, hb, hc⟩ := RB.at_ hr (by omega)
      have hck := hc k hlt
      have HR : Hid (raw z (L.take (k + 1)) = stps 8 (x ^^^ L[k].toNat)) := by show _ = _; rw [hx]; exact raw_take z L k hlt
      have HY : Hid (bits .xor .u32 (x : Int) ((L[k].toNat : Int) % 4294967296) = ((x ^^^ L[k].toNat : Nat) : Int)) := u32_byte x L[k] hxl
      have hyl : x ^^^ L[k].toNat < 4294967296 := Nat.xor_lt_two_pow (n := 32) hxl (byte_lt32 _)
      clear hc hx hr
      go_wp2
      go_loop [5, 7] (fun r i => ∃ j : Nat, j ≤ 8 ∧ i = .int .i64 (j : Int) ∧ r = .int .u32 (stps j (x ^^^ L[k].toNat) : Int)) (fun _ i => 8 - (intOf i).toNat)
      case atStart => exact ⟨0, by omega, rfl, congrArg (Value.int .u32) HY.out⟩
      case round =>
        obtain ⟨j, hj, rfl, rfl⟩ := hrel
        obtain ⟨y, hy⟩ : ∃ y : Nat, y = stps j (x ^^^ L[k].toNat) := ⟨_, rfl⟩
        have hyy : y < 4294967296 := by rw [hy]; exact stps_lt j _ hyl
        have HT : Hid (stps (j + 1) (x ^^^ L[k].toNat) = stp y) := by show _ = _; rw [hy]; exact stps_succ j _
        rw [← hy]
        have HY8 : Hid (y = stps j (x ^^^ L[k].toNat)) := hy
        clear hy
        by_cases hlt2 : j < 8
        · rcases (show y % 2 = 0 ∨ y % 2 = 1 by omega) with h0 | h0
          · have hp : ((y : Int) % 2 == 1) = false := by simp; omega
            have HS : Hid ((y : Int) / 2 = ((stp y : Nat) : Int)) := by
              show _ = _
              unfold stp
              rw [if_neg (by omega)]
              omega
            clear h0
            go_wp2
            go_round
            case rel => exact ⟨j + 1, by omega, by go_num, by rw [HT.out]; exact congrArg (Value.int .u32) HS.out⟩
            case measure => simp [intOf]; omega
          · have hp : ((y : Int) % 2 == 1) = true := by simp; omega
            have HS : Hid (bits .xor .u32 ((y : Int) / 2) 2197175160 = ((stp y : Nat) : Int)) := by
              show _ = _
              unfold stp
              have e2 : ((y : Int) / 2) = ((y / 2 : Nat) : Int) := by omega
              rw [if_pos h0, e2]
              exact u32_poly _ (by omega)
            clear h0
            go_wp2
            go_round
            case rel => exact ⟨j + 1, by omega, by go_num, by rw [HT.out]; exact congrArg (Value.int .u32) HS.out⟩
            case measure => simp [intOf]; omega
        · obtain rfl : j = 8 := by omega
          go_wp2
          go_round
          case rel => exact ⟨k + 1, by omega, by go_num, by rw [HR.out, ← HY8.out]⟩
          case measure => simp [intOf]; omega
    · have HE : Hid (bits .xor .u32 (x : Int) 4294967295 = (moreL s L : Int)) := by
        show _ = _
        rw [u32_notr x hxl, HM.out, hx, List.take_of_length_le (by omega)]
      clear hx
      go_wp2
      go_ret
      exact ⟨congrArg (fun v => Ending.returned (Value.int .u32 v)) HE.out, rfl⟩
theorem refSum_any (L : List UInt8) (A : Option Addr) (c B : Nat) (w : World) (hr : RB w B A L) (hl : L.length ≤ 9223372036854775806) :
    Calls Try.prog 13 #[.slice A L.length c] w fun e w' => e = .returned (.int .u32 (sumL L : Int)) ∧ w = w' := by
  go_enter Try.func13, Try.ntmps13
  go_wp2_with (go_at_call 33; refine (refMore_any 0 L A c B _ (by decide) hr hl).mono ?_; rintro e w' ⟨rfl, rfl⟩)
  go_ret
  exact ⟨rfl, rfl⟩
end Go.Proofs.Ytnmcohdlogepdaa
end
