/- Lemmas under the proofs of this place: CrcMore, CrcRMore, RUnfix. No statement is proved here. -/
import Derived.Test.YtkockhggnbfahaaBu08
import Derived.Test.YtkockhggnbfahaaBu07
section
set_option linter.unusedVariables false
namespace Go.Proofs.Ytkockhggnbfahaa
open Go.RowKit
set_option maxRecDepth 100000 in
set_option maxHeartbeats 1000000 in
theorem more_any (s : Nat) (L : List UInt8) (A : Option Addr) (c B : Nat) (w : World) (hs : s < 4294967296) (hr : RB w B A L) (hl : L.length ≤ 9223372036854775806) :
    Calls Try.prog 95 #[.int .u32 (s : Int), .slice A L.length c] w fun e w' => e = .returned (.int .u32 (moreL s L : Int)) ∧ w = w' := by
  have hx0 : s ^^^ 4294967295 < 4294967296 := Nat.xor_lt_two_pow (n := 32) hs (by decide)
  obtain ⟨z, hz⟩ : ∃ z : Nat, z = s ^^^ 4294967295 := ⟨_, rfl⟩
  have HN : Hid (bits .xor .u32 IntKind.u32.max (s : Int) = (z : Int)) := by show _ = _; rw [hz]; exact u32_not s hs
  have HM : Hid (moreL s L = raw z L ^^^ 4294967295) := by show _ = _; rw [hz]; rfl
  rw [← hz] at hx0
  clear hz hs
  go_enter Try.func95, Try.ntmps95
  go_wp2
  go_loop [5, 12] (fun r i => ∃ k : Nat, k ≤ L.length ∧ i = .int .i64 (k : Int) ∧ r = .int .u32 (raw z (L.take k) : Int)) (fun _ i => L.length - (intOf i).toNat)
  case atStart => exact ⟨0, by omega, rfl, congrArg (Value.int .u32) HN.out⟩
  case round =>
    obtain ⟨k, hk, rfl, rfl⟩ := hrel
    obtain ⟨x, hx⟩ : ∃ x : Nat, x = raw z (L.take k) := ⟨_, rfl⟩
    have hxl : x < 4294967296 := by rw [hx]; exact raw_lt _ _ hx0
    rw [← hx]
    by_cases hlt : k < L.length
    · obtain ⟨b, off, rfl, hb, hc⟩ := RB.at_ hr (by omega)
      have hck := hc k hlt
      have HR : Hid (raw z (L.take (k + 1)) = stps 8 (x ^^^ L[k].toNat)) := by show _ = _; rw [hx]; exact raw_take z L k hlt
      have HY : Hid (bits .xor .u32 (x : Int) ((L[k].toNat : Int) % 4294967296) = ((x ^^^ L[k].toNat : Nat) : Int)) := u32_byte x L[k] hxl
      have hyl : x ^^^ L[k].toNat < 4294967296 := Nat.xor_lt_two_pow (n := 32) hxl (byte_lt32 _)
      clear hc hx hr
      go_wp2
      go_loop [5, 20] (fun r i => ∃ j : Nat, j ≤ 8 ∧ i = .int .i64 (j : Int) ∧ r = .int .u32 (stps j (x ^^^ L[k].toNat) : Int)) (fun _ i => 8 - (intOf i).toNat)
      case atStart => exact ⟨0, by omega, rfl, congrArg (Value.int .u32) HY.out⟩
      case round =>
        obtain ⟨j, hj, rfl, rfl⟩ := hrel
        by_cases hlt2 : j < 8
        · have HS := Lib.hid (u32_step (stps j (x ^^^ L[k].toNat)) (stps_lt j _ hyl))
          have HT := Lib.hid (stps_succ j (x ^^^ L[k].toNat))
          go_wp2
          go_round
          case rel => exact ⟨j + 1, by omega, by go_num, by rw [HT.out]; exact congrArg (Value.int .u32) HS.out⟩
          case measure => simp [intOf]; omega
        · obtain rfl : j = 8 := by omega
          go_wp2
          go_round
          case rel => exact ⟨k + 1, by omega, by go_num, by rw [HR.out]⟩
          case measure => simp [intOf]; omega
    · have HE : Hid (bits .xor .u32 IntKind.u32.max (x : Int) = (moreL s L : Int)) := by
        show _ = _
        rw [u32_not x hxl, HM.out, hx, List.take_of_length_le (by omega)]
      clear hx
      go_wp2
      go_ret
      exact ⟨congrArg (fun v => Ending.returned (Value.int .u32 v)) HE.out, rfl⟩
theorem sum_any (L : List UInt8) (A : Option Addr) (c B : Nat) (w : World) (hr : RB w B A L) (hl : L.length ≤ 9223372036854775806) :
    Calls Try.prog 89 #[.slice A L.length c] w fun e w' => e = .returned (.int .u32 (sumL L : Int)) ∧ w = w' := by
  go_enter Try.func89, Try.ntmps89
  go_wp2_with (go_at_call 95; refine (more_any 0 L A c B _ (by decide) hr hl).mono ?_; rintro e w' ⟨rfl, rfl⟩)
  go_ret
  exact ⟨rfl, rfl⟩
end Go.Proofs.Ytkockhggnbfahaa
end
section
set_option linter.unusedVariables false
namespace Go.Proofs.Ytkockhggnbfahaa
open Go.RowKit
set_option maxRecDepth 100000 in
set_option maxHeartbeats 1000000 in
theorem refMore_any (s : Nat) (L : List UInt8) (A : Option Addr) (c B : Nat) (w : World) (hs : s < 4294967296) (hr : RB w B A L) (hl : L.length ≤ 9223372036854775806) :
    Calls Try.prog 96 #[.int .u32 (s : Int), .slice A L.length c] w fun e w' => e = .returned (.int .u32 (moreL s L : Int)) ∧ w = w' := by
  have hx0 : s ^^^ 4294967295 < 4294967296 := Nat.xor_lt_two_pow (n := 32) hs (by decide)
  obtain ⟨z, hz⟩ : ∃ z : Nat, z = s ^^^ 4294967295 := ⟨_, rfl⟩
  have HN : Hid (bits .xor .u32 (s : Int) 4294967295 = (z : Int)) := by show _ = _; rw [hz]; exact u32_notr s hs
  have HM : Hid (moreL s L = raw z L ^^^ 4294967295) := by show _ = _; rw [hz]; rfl
  rw [← hz] at hx0
  clear hz hs
  go_enter Try.func96, Try.ntmps96
  go_wp2
  go_loop [5, 6] (fun r i => ∃ k : Nat, k ≤ L.length ∧ i = .int .i64 (k : Int) ∧ r = .int .u32 (raw z (L.take k) : Int)) (fun _ i => L.length - (intOf i).toNat)
  case atStart => exact ⟨0, by omega, rfl, congrArg (Value.int .u32) HN.out⟩
  case round =>
    obtain ⟨k, hk, rfl, rfl⟩ := hrel
    obtain ⟨x, hx⟩ : ∃ x : Nat, x = raw z (L.take k) := ⟨_, rfl⟩
    have hxl : x < 4294967296 := by rw [hx]; exact raw_lt _ _ hx0
    rw [← hx]
    by_cases hlt : k < L.length
    · obtain ⟨b, off, rfl, hb, hc⟩ := RB.at_ hr (by omega)
      have hck := hc k hlt
      have HR : Hid (raw z (L.take (k + 1)) = stps 8 (x ^^^ L[k].toNat)) := by show _ = _; rw [hx]; exact raw_take z L k hlt
      have HY : Hid (bits .xor .u32 (x : Int) ((L[k].toNat : Int) % 4294967296) = ((x ^^^ L[k].toNat : Nat) : Int)) := u32_byte x L[k] hxl
      have hyl : x ^^^ L[k].toNat < 4294967296 := Nat.xor_lt_two_pow (n := 32) hxl (byte_lt32 _)
      clear hc hx hr
      go_wp2
      go_loop [5, 7] (fun r i => ∃ j : Nat, j ≤ 8 ∧ i = .int .i64 (j : Int) ∧ r = .int .u32 (stps j (x ^^^ L[k].toNat) : Int)) (fun _ i => 8 - (intOf i).toNat)
      case atStart => exact ⟨0, by omega, rfl, congrArg (Value.int .u32) HY.out⟩
      case round =>
        obtain ⟨j, hj, rfl, rfl⟩ := hrel
        obtain ⟨y, hy⟩ : ∃ y : Nat, y = stps j (x ^^^ L[k].toNat) := ⟨_, rfl⟩
        have hyy : y < 4294967296 := by rw [hy]; exact stps_lt j _ hyl
        have HT : Hid (stps (j + 1) (x ^^^ L[k].toNat) = stp y) := by show _ = _; rw [hy]; exact stps_succ j _
        rw [← hy]
        have HY8 : Hid (y = stps j (x ^^^ L[k].toNat)) := hy
        clear hy
        by_cases hlt2 : j < 8
        · rcases (show y % 2 = 0 ∨ y % 2 = 1 by omega) with h0 | h0
          · have hp : ((y : Int) % 2 == 1) = false := by simp; omega
            have HS : Hid ((y : Int) / 2 = ((stp y : Nat) : Int)) := by
              show _ = _
              unfold stp
              rw [if_neg (by omega)]
              omega
            clear h0
            go_wp2
            go_round
            case rel => exact ⟨j + 1, by omega, by go_num, by rw [HT.out]; exact congrArg (Value.int .u32) HS.out⟩
            case measure => simp [intOf]; omega
          · have hp : ((y : Int) % 2 == 1) = true := by simp; omega
            have HS : Hid (bits .xor .u32 ((y : Int) / 2) 2197175160 = ((stp y : Nat) : Int)) := by
              show _ = _
              unfold stp
              have e2 : ((y : Int) / 2) = ((y / 2 : Nat) : Int) := by omega
              rw [if_pos h0, e2]
              exact u32_poly _ (by omega)
            clear h0
            go_wp2
            go_round
            case rel => exact ⟨j + 1, by omega, by go_num, by rw [HT.out]; exact congrArg (Value.int .u32) HS.out⟩
            case measure => simp [intOf]; omega
        · obtain rfl : j = 8 := by omega
          go_wp2
          go_round
          case rel => exact ⟨k + 1, by omega, by go_num, by rw [HR.out, ← HY8.out]⟩
          case measure => simp [intOf]; omega
    · have HE : Hid (bits .xor .u32 (x : Int) 4294967295 = (moreL s L : Int)) := by
        show _ = _
        rw [u32_notr x hxl, HM.out, hx, List.take_of_length_le (by omega)]
      clear hx
      go_wp2
      go_ret
      exact ⟨congrArg (fun v => Ending.returned (Value.int .u32 v)) HE.out, rfl⟩
theorem refSum_any (L : List UInt8) (A : Option Addr) (c B : Nat) (w : World) (hr : RB w B A L) (hl : L.length ≤ 9223372036854775806) :
    Calls Try.prog 90 #[.slice A L.length c] w fun e w' => e = .returned (.int .u32 (sumL L : Int)) ∧ w = w' := by
  go_enter Try.func90, Try.ntmps90
  go_wp2_with (go_at_call 96; refine (refMore_any 0 L A c B _ (by decide) hr hl).mono ?_; rintro e w' ⟨rfl, rfl⟩)
  go_ret
  exact ⟨rfl, rfl⟩
end Go.Proofs.Ytkockhggnbfahaa
end
section
set_option linter.unusedVariables false
set_option linter.unusedSimpArgs false
namespace Go.Proofs.Ytkockhggnbfahaa
open Go.RowKit
set_option maxRecDepth 100000 in
set_option maxHeartbeats 2000000 in
theorem refUnfix_any (L : List UInt8) (A : Option Addr) (c B : Nat) (w : World) (hr : RB w B A L) (hl : L.length ≤ 1048576) :
    Calls Try.prog 41 #[.slice A L.length c] w fun e w' => UnfixPost (unfixR L) e ∧ w = w' := by
  by_cases h1 : L.length < 1
  · have HR : Hid (unfixR L = (0, 1)) := by show _ = _; unfold unfixR; rw [if_pos (.inl h1)]
    go_enter Try.func41, Try.ntmps41
    go_wp2
    go_ret2
    exact ⟨by rw [HR.out]; exact rfl, rfl⟩
  by_cases h4 : 4 < L.length
  · have HR : Hid (unfixR L = (0, 1)) := by show _ = _; unfold unfixR; rw [if_pos (.inr h4)]
    go_enter Try.func41, Try.ntmps41
    go_wp2
    go_ret2
    exact ⟨by rw [HR.out]; exact rfl, rfl⟩
  obtain ⟨b, off, rfl, hb, hcell⟩ := hr.at_ (by omega)
  have HC : Hid (∀ (k : Nat) (hk : k < L.length), w.cell? ⟨b, off + k, none⟩ = some (Value.int .u8 (L[k].toNat : Int))) := hcell
  have HR : Hid (unfixR L = if 2147483647 < unfixL L then (0, 5) else (unfixL L, 0)) := by show _ = _; unfold unfixR; rw [if_neg (by omega)]
  clear hcell hr
  go_enter Try.func41, Try.ntmps41
  go_wp2
  go_loop [4, 5] (fun n i => ∃ (m : Int) (acc : Nat), i = .int .i64 m ∧ -1 ≤ m ∧ m < (L.length : Int) ∧ n = .int .i64 (acc : Int) ∧ acc = unfixL (L.drop (m + 1).toNat)) (fun _ i => (intOf i + 1).toNat)
  case atStart => exact ⟨(L.length : Int) - 1, 0, rfl, by omega, by omega, rfl, by rw [List.drop_eq_nil_of_le (by omega)]; rfl⟩
  case round =>
    obtain ⟨m, acc, rfl, hm1, hm2, rfl, hacc⟩ := hrel
    by_cases hm0 : 0 ≤ m
    · obtain ⟨k, rfl⟩ : ∃ k : Nat, m = (k : Int) := ⟨m.toNat, by omega⟩
      have hlt : k < L.length := by omega
      obtain ⟨x, hx⟩ : ∃ x : Nat, x = L[k].toNat := ⟨_, rfl⟩
      have hck := HC.out k hlt
      rw [← hx] at hck
      have hx256 : x < 256 := by rw [hx]; exact byte_lt _
      have e1 : ((k : Int) + 1).toNat = k + 1 := by omega
      rw [e1] at hacc
      have hb3 : acc < 16777216 := by
        rw [hacc]
        exact Nat.lt_of_lt_of_le (unfixL_lt _) (Nat.le_trans (Nat.pow_le_pow_right (by omega) (show (L.drop (k + 1)).length ≤ 3 by rw [List.length_drop]; omega)) (by decide))
      have HA : Hid (x + 256 * acc = unfixL (L.drop k)) := by show _ = _; rw [List.drop_eq_getElem_cons hlt]; simp only [unfixL]; rw [← hx, ← hacc]
      clear hx hacc e1
      go_wp2
      go_round
      case rel => exact ⟨(k : Int) - 1, x + 256 * acc, rfl, by omega, by omega, by go_num, by rw [HA.out]; congr 2; omega⟩
      case measure => simp [intOf]
    · obtain rfl : m = -1 := by omega
      have HA : Hid (acc = unfixL L) := by show _ = _; rw [hacc]; rfl
      have hlt3 : acc < 4294967296 := by
        rw [HA.out]
        exact Nat.lt_of_lt_of_le (unfixL_lt L) (Nat.le_trans (Nat.pow_le_pow_right (by omega) (show L.length ≤ 4 by omega)) (by decide))
      clear hacc
      by_cases hm : 2147483647 < acc
      · go_wp2
        go_ret2
        exact ⟨by rw [HR.out, ← HA.out, if_pos hm]; exact rfl, rfl⟩
      · go_wp2
        go_ret2
        exact ⟨by rw [HR.out, ← HA.out, if_neg hm]; exact rfl, rfl⟩
end Go.Proofs.Ytkockhggnbfahaa
end
