/- The walks of the reference's More and Sum. -/
import Derived.Test.YtepeoggacmaenaaCrcBits
set_option linter.unusedVariables false
namespace Go.Proofs.Ytepeoggacmaenaa
open Go.RowKit

set_option maxRecDepth 100000 in
set_option maxHeartbeats 1000000 in
theorem refMore_any (s : Nat) (L : List UInt8) (A : Option Addr) (c B : Nat) (w : World) (hs : s < 4294967296) (hr : RB w B A L) (hl : L.length ≤ 9223372036854775806) :
    Calls Try.prog 48 #[.int .u32 (s : Int), .slice A L.length c] w fun e w' => e = .returned (.int .u32 (moreL s L : Int)) ∧ w = w' := by
  have hx0 : s ^^^ 4294967295 < 4294967296 := Nat.xor_lt_two_pow (n := 32) hs (by decide)
  obtain ⟨z, hz⟩ : ∃ z : Nat, z = s ^^^ 4294967295 := ⟨_, rfl⟩
  have HN : Hid (bits .xor .u32 (s : Int) 4294967295 = (z : Int)) := by show _ = _; rw [hz]; exact u32_notr s hs
  have HM : Hid (moreL s L = raw z L ^^^ 4294967295) := by show _ = _; rw [hz]; rfl
  rw [← hz] at hx0
  clear hz hs
  go_enter Try.func48, Try.ntmps48
  go_wp2
  go_loop [5, 6] (fun r i => ∃ k : Nat, k ≤ L.length ∧ i = .int .i64 (k : Int) ∧ r = .int .u32 (raw z (L.take k) : Int)) (fun _ i => L.length - (intOf i).toNat)
  case atStart => exact ⟨0, by omega, rfl, congrArg (Value.int .u32) HN.out⟩
  case round =>
    obtain ⟨k, hk, rfl, rfl⟩ := hrel
    obtain ⟨x, hx⟩ : ∃ x : Nat, x = raw z (L.take k) := ⟨_, rfl⟩
    have hxl : x < 4294967296 := by rw [hx]; exact raw_lt _ _ hx0
    rw [← hx]
    by_cases hlt : k < L.length
    · obtain ⟨b, off, rfl, hb, hc⟩ := RB.at_ hr (by omega)
      have hck := hc k hlt
      have HR : Hid (raw z (L.take (k + 1)) = stps 8 (x ^^^ L[k].toNat)) := by show _ = _; rw [hx]; exact raw_take z L k hlt
      have HY : Hid (bits .xor .u32 (x : Int) ((L[k].toNat : Int) % 4294967296) = ((x ^^^ L[k].toNat : Nat) : Int)) := u32_byte x L[k] hxl
      have hyl : x ^^^ L[k].toNat < 4294967296 := Nat.xor_lt_two_pow (n := 32) hxl (byte_lt32 _)
      clear hc hx hr
      go_wp2
      go_loop [5, 7] (fun r i => ∃ j : Nat, j ≤ 8 ∧ i = .int .i64 (j : Int) ∧ r = .int .u32 (stps j (x ^^^ L[k].toNat) : Int)) (fun _ i => 8 - (intOf i).toNat)
      case atStart => exact ⟨0, by omega, rfl, congrArg (Value.int .u32) HY.out⟩
      case round =>
        obtain ⟨j, hj, rfl, rfl⟩ := hrel
        obtain ⟨y, hy⟩ : ∃ y : Nat, y = stps j (x ^^^ L[k].toNat) := ⟨_, rfl⟩
        have hyy : y < 4294967296 := by rw [hy]; exact stps_lt j _ hyl
        have HT : Hid (stps (j + 1) (x ^^^ L[k].toNat) = stp y) := by show _ = _; rw [hy]; exact stps_succ j _
        rw [← hy]
        have HY8 : Hid (y = stps j (x ^^^ L[k].toNat)) := hy
        clear hy
        by_cases hlt2 : j < 8
        · rcases (show y % 2 = 0 ∨ y % 2 = 1 by omega) with h0 | h0
          · have hp : ((y : Int) % 2 == 1) = false := by simp; omega
            have HS : Hid ((y : Int) / 2 = ((stp y : Nat) : Int)) := by
              show _ = _
              unfold stp
              rw [if_neg (by omega)]
              omega
            clear h0
            go_wp2
            go_round
            case rel => exact ⟨j + 1, by omega, by go_num, by rw [HT.out]; exact congrArg (Value.int .u32) HS.out⟩
            case measure => simp [intOf]; omega
          · have hp : ((y : Int) % 2 == 1) = true := by simp; omega
            have HS : Hid (bits .xor .u32 ((y : Int) / 2) 2197175160 = ((stp y : Nat) : Int)) := by
              show _ = _
              unfold stp
              have e2 : ((y : Int) / 2) = ((y / 2 : Nat) : Int) := by omega
              rw [if_pos h0, e2]
              exact u32_poly _ (by omega)
            clear h0
            go_wp2
            go_round
            case rel => exact ⟨j + 1, by omega, by go_num, by rw [HT.out]; exact congrArg (Value.int .u32) HS.out⟩
            case measure => simp [intOf]; omega
        · obtain rfl : j = 8 := by omega
          go_wp2
          go_round
          case rel => exact ⟨k + 1, by omega, by go_num, by rw [HR.out, ← HY8.out]⟩
          case measure => simp [intOf]; omega
    · have HE : Hid (bits .xor .u32 (x : Int) 4294967295 = (moreL s L : Int)) := by
        show _ = _
        rw [u32_notr x hxl, HM.out, hx, List.take_of_length_le (by omega)]
      clear hx
      go_wp2
      go_ret
      exact ⟨congrArg (fun v => Ending.returned (Value.int .u32 v)) HE.out, rfl⟩
theorem refSum_any (L : List UInt8) (A : Option Addr) (c B : Nat) (w : World) (hr : RB w B A L) (hl : L.length ≤ 9223372036854775806) :
    Calls Try.prog 40 #[.slice A L.length c] w fun e w' => e = .returned (.int .u32 (sumL L : Int)) ∧ w = w' := by
  go_enter Try.func40, Try.ntmps40
  go_wp2_with (go_at_call 48; refine (refMore_any 0 L A c B _ (by decide) hr hl).mono ?_; rintro e w' ⟨rfl, rfl⟩)
  go_ret
  exact ⟨rfl, rfl⟩

end Go.Proofs.Ytepeoggacmaenaa
