/- Lemmas under the proofs of this place: Num, Get, Unfix. No statement is proved here. -/
import Derived.Test.YtinphkflfdpaeaaDoorBu04
set_option linter.unusedSimpArgs false
set_option linter.unusedVariables false
set_option maxRecDepth 100000
set_option maxHeartbeats 16000000
namespace Go.Proofs.YtinphkflfdpaeaaDoor
section
open Go.RowKit
theorem isNumber_yes (n : Int) (w : World) (h0 : 0 ≤ n) (h1 : n ≤ 2147483647) : Calls Tryd.prog 86 #[.int .i64 n] w fun e w' => e = .returned (.bool true) ∧ w = w' := by
  go_enter Tryd.func86, Tryd.ntmps86
  go_wp2
  go_ret
  exact ⟨rfl, rfl⟩
end
section
open Go.RowKit
def GetPost (r : Option (Nat × Nat)) (e : Ending) : Prop :=
  match r with
  | some (n, k) => e = .returned (.tuple #[.int .i64 (n : Int), .int .i64 (k : Int), .int .i64 0])
  | none => e = .returned (.tuple #[.int .i64 0, .int .i64 0, .int .i64 5])
theorem getAux_step (L : List UInt8) (k acc q x : Nat) (hk : k < 5) (hlt : k < L.length) (hx : x = L[k].toNat) :
    getAux (5 - k) (L.drop k) k acc q = if 128 ≤ x then getAux (5 - (k + 1)) (L.drop (k + 1)) (k + 1) (acc + x % 128 * q) (q * 128)
      else if 2147483647 < acc + x % 128 * q ∨ (0 < k ∧ x = 0) then none else some (acc + x % 128 * q, k + 1) := by
  obtain ⟨j, hj⟩ : ∃ j, 5 - k = j + 1 := ⟨4 - k, by omega⟩
  have hj' : 5 - (k + 1) = j := by omega
  rw [List.drop_eq_getElem_cons hlt, hj, hj', hx]
  rfl
theorem getAux_end (L : List UInt8) (k acc q : Nat) (h : 5 ≤ k ∨ L.length ≤ k) : getAux (5 - k) (L.drop k) k acc q = none := by
  rcases h with h | h
  · have : 5 - k = 0 := by omega
    rw [this]; cases L.drop k <;> rfl
  · rw [List.drop_eq_nil_of_le h]; cases 5 - k <;> rfl
theorem get_or (acc x k : Nat) (hk : k < 5) (ha : acc < 128 ^ k) :
    bits .or .u64 (acc : Int) (IntKind.u64.wrap ((x : Int) % 128 * 2 ^ (7 * k))) = ((acc + x % 128 * 128 ^ k : Nat) : Int) ∧ acc + x % 128 * 128 ^ k < 128 ^ (k + 1) := by
  have e : (128 : Nat) ^ k = 2 ^ (7 * k) := by rw [Nat.pow_mul]
  have hle : (128 : Nat) ^ k ≤ 128 ^ 4 := Nat.pow_le_pow_right (by omega) (by omega)
  have hx : x % 128 ≤ 127 := by omega
  have hm : x % 128 * 128 ^ k ≤ 127 * 128 ^ k := Nat.mul_le_mul_right _ hx
  refine ⟨?_, by rw [Nat.pow_succ]; omega⟩
  rw [e] at ha hm hle ⊢
  exact or_shl acc (x % 128) (7 * k) ha (by omega)
theorem get_any (L : List UInt8) (A : Option Addr) (c B : Nat) (w : World) (hr : RB w B A L) (hl : L.length ≤ 1048576) :
    Calls Tryd.prog 93 #[.slice A L.length c] w fun e w' => GetPost (getL L) e ∧ w = w' := by
  have hcase : L.length ≤ 5 ∨ 5 < L.length := by omega
  rcases hcase with hc5 | hc5
  all_goals
    go_enter Tryd.func93, Tryd.ntmps93
    go_wp2
    go_loop [5, 10] (fun n i => ∃ k acc : Nat, k ≤ 5 ∧ k ≤ L.length ∧ i = .int .i64 (k : Int) ∧ n = .int .u64 (acc : Int) ∧ acc < 128 ^ k ∧ getL L = getAux (5 - k) (L.drop k) k acc (128 ^ k)) (fun _ i => 5 - (intOf i).toNat)
    case atStart => exact ⟨0, 0, by omega, by omega, rfl, rfl, by decide, rfl⟩
    case round =>
      obtain ⟨k, acc, hk5, hkl, rfl, rfl, hacc, hg⟩ := hrel
      have HG : Hid (getL L = getAux (5 - k) (L.drop k) k acc (128 ^ k)) := hg
      clear hg
      by_cases hlt : k < L.length ∧ k < 5
      · obtain ⟨hlt, hlt5⟩ := hlt
        obtain ⟨b, off, rfl, hb, hcell⟩ := hr.at_ (by omega)
        have hck := hcell k hlt
        clear hcell
        obtain ⟨x, hx⟩ : ∃ x : Nat, x = L[k].toNat := ⟨_, rfl⟩
        rw [← hx] at hck
        have hx256 : x < 256 := by rw [hx]; exact byte_lt _
        obtain ⟨acc', ha'⟩ : ∃ acc' : Nat, acc' = acc + x % 128 * 128 ^ k := ⟨_, rfl⟩
        have HS : Hid (getL L = if 128 ≤ x then getAux (5 - (k + 1)) (L.drop (k + 1)) (k + 1) acc' (128 ^ (k + 1)) else if 2147483647 < acc' ∨ (0 < k ∧ x = 0) then none else some (acc', k + 1)) := by
          show _ = _
          rw [HG.out, getAux_step L k acc _ x hlt5 hlt hx, ← ha', Nat.pow_succ]
        obtain ⟨he, hlt'⟩ := get_or acc x k hlt5 hacc
        rw [← ha'] at he hlt'
        have HL : Hid (acc' < 128 ^ (k + 1)) := hlt'
        have hmax : acc' < 34359738368 := Nat.lt_of_lt_of_le hlt' (Nat.le_trans (Nat.pow_le_pow_right (by omega) (show k + 1 ≤ 5 by omega)) (by decide))
        clear hx ha' hacc hr hlt' HG
        by_cases hx128 : 128 ≤ x
        · go_wp2
          go_round
          case rel => exact ⟨k + 1, acc', by omega, by omega, by go_num, rfl, HL.out, by rw [HS.out, if_pos hx128]⟩
          case measure => simp [intOf]; omega
        · by_cases hm : 2147483647 < acc'
          · go_wp2
            go_ret3
            exact ⟨by rw [HS.out, if_neg hx128, if_pos (.inl hm)]; exact rfl, rfl⟩
          · by_cases hk0 : 0 < k
            · rcases hx0 : ((x : Int) == 0) with _ | _
              · have HX : Hid (x ≠ 0) := by show x ≠ 0; intro e; subst e; simp at hx0
                go_wp2
                go_ret3
                exact ⟨by rw [HS.out, if_neg hx128, if_neg (by have := HX.out; omega)]; exact rfl, rfl⟩
              · have HX : Hid (x = 0) := by show x = 0; simpa using hx0
                go_wp2
                go_ret3
                exact ⟨by rw [HS.out, if_neg hx128, if_pos (.inr ⟨hk0, HX.out⟩)]; exact rfl, rfl⟩
            · go_wp2
              go_ret3
              exact ⟨by rw [HS.out, if_neg hx128, if_neg (by omega)]; exact rfl, rfl⟩
      · have HE : Hid (getL L = none) := by show _ = _; rw [HG.out]; exact getAux_end L k acc _ (by omega)
        clear HG hacc
        have hge : min L.length 5 ≤ k := by omega
        go_wp2
        go_ret3
        exact ⟨by rw [HE.out]; exact rfl, rfl⟩
end
section
open Go.RowKit
def unfixR (L : List UInt8) : Nat × Nat :=
  if L.length < 1 ∨ 4 < L.length then (0, 1) else if 2147483647 < unfixL L then (0, 5) else (unfixL L, 0)
theorem unfix_ok {n : Nat} {L : List UInt8} (hl : L.length = n) (h1 : 1 ≤ n) (h4 : n ≤ 4) (h : unfixL L ≤ 2147483647) : unfixR L = (unfixL L, 0) := by unfold unfixR; rw [if_neg (by omega), if_neg (by omega)]
theorem unfix_bad {n : Nat} {L : List UInt8} (hl : L.length = n) (h1 : 1 ≤ n) (h4 : n ≤ 4) (h : ¬ unfixL L ≤ 2147483647) : unfixR L = (0, 5) := by unfold unfixR; rw [if_neg (by omega), if_pos (by omega)]
def UnfixPost (r : Nat × Nat) (e : Ending) : Prop := e = .returned (.tuple #[.int .i64 (r.1 : Int), .int .i64 (r.2 : Int)])
theorem unfix_take (L : List UInt8) (k : Nat) (h : k < L.length) : unfixL (L.take (k + 1)) = unfixL (L.take k) + L[k].toNat * 256 ^ k := by
  rw [List.take_succ_eq_append_getElem h, unfixL_append]
  simp [unfixL, Nat.min_eq_left (Nat.le_of_lt h), Nat.mul_comm]
theorem unfix_or (acc x k : Nat) (hk : k < 4) (ha : acc < 256 ^ k) (hx : x < 256) :
    bits .or .u64 (acc : Int) (IntKind.u64.wrap ((x : Int) * 2 ^ (8 * k))) = ((acc + x * 256 ^ k : Nat) : Int) ∧ acc + x * 256 ^ k < 256 ^ (k + 1) := by
  have e : (256 : Nat) ^ k = 2 ^ (8 * k) := by rw [Nat.pow_mul]
  have hle : (256 : Nat) ^ k ≤ 256 ^ 3 := Nat.pow_le_pow_right (by omega) (by omega)
  have hm : x * 256 ^ k ≤ 255 * 256 ^ k := Nat.mul_le_mul_right _ (by omega)
  refine ⟨?_, by rw [Nat.pow_succ]; omega⟩
  rw [e] at ha hm hle ⊢
  exact or_shl acc x (8 * k) ha (by omega)
theorem unfix_any (L : List UInt8) (A : Option Addr) (c B : Nat) (w : World) (hr : RB w B A L) (hl : L.length ≤ 1048576) :
    Calls Tryd.prog 88 #[.slice A L.length c] w fun e w' => UnfixPost (unfixR L) e ∧ w = w' := by
  by_cases h1 : L.length < 1
  · have HR : Hid (unfixR L = (0, 1)) := by show _ = _; unfold unfixR; rw [if_pos (.inl h1)]
    go_enter Tryd.func88, Tryd.ntmps88
    go_wp2
    go_ret2
    exact ⟨by rw [HR.out]; exact rfl, rfl⟩
  by_cases h4 : 4 < L.length
  · have HR : Hid (unfixR L = (0, 1)) := by show _ = _; unfold unfixR; rw [if_pos (.inr h4)]
    go_enter Tryd.func88, Tryd.ntmps88
    go_wp2
    go_ret2
    exact ⟨by rw [HR.out]; exact rfl, rfl⟩
  obtain ⟨b, off, rfl, hb, hcell⟩ := hr.at_ (by omega)
  have HC : Hid (∀ (k : Nat) (hk : k < L.length), w.cell? ⟨b, off + k, none⟩ = some (Value.int .u8 (L[k].toNat : Int))) := hcell
  have HR : Hid (unfixR L = if 2147483647 < unfixL L then (0, 5) else (unfixL L, 0)) := by show _ = _; unfold unfixR; rw [if_neg (by omega)]
  clear hcell hr
  go_enter Tryd.func88, Tryd.ntmps88
  go_wp2
  go_loop [4, 17] (fun n i => ∃ k acc : Nat, k ≤ L.length ∧ i = .int .i64 (k : Int) ∧ n = .int .u64 (acc : Int) ∧ acc = unfixL (L.take k)) (fun _ i => 5 - (intOf i).toNat)
  case atStart => exact ⟨0, 0, by omega, rfl, rfl, rfl⟩
  case round =>
    obtain ⟨k, acc, hkl, rfl, rfl, hacc⟩ := hrel
    have hlt2 : acc < 256 ^ k := by have := unfixL_lt (L.take k); rw [hacc]; rwa [List.length_take, Nat.min_eq_left hkl] at this
    by_cases hlt : k < L.length
    · obtain ⟨x, hx⟩ : ∃ x : Nat, x = L[k].toNat := ⟨_, rfl⟩
      have hck := HC.out k hlt
      rw [← hx] at hck
      have hx256 : x < 256 := by rw [hx]; exact byte_lt _
      obtain ⟨acc', ha'⟩ : ∃ acc' : Nat, acc' = acc + x * 256 ^ k := ⟨_, rfl⟩
      obtain ⟨he, _⟩ := unfix_or acc x k (by omega) hlt2 hx256
      rw [← ha'] at he
      have HA : Hid (acc' = unfixL (L.take (k + 1))) := by show _ = _; rw [unfix_take L k hlt, ← hacc, ← hx, ha']
      clear hx ha' hacc hlt2
      go_wp2
      go_round
      case rel => exact ⟨k + 1, acc', by omega, by go_num, rfl, HA.out⟩
      case measure => simp [intOf]; omega
    · have hk : k = L.length := by omega
      have HA : Hid (acc = unfixL L) := by show _ = _; rw [hacc, List.take_of_length_le (by omega)]
      have hlt3 : acc < 4294967296 := Nat.lt_of_lt_of_le hlt2 (Nat.le_trans (Nat.pow_le_pow_right (by omega) (show k ≤ 4 by omega)) (by decide))
      clear hacc hlt2 hk
      by_cases hm : 2147483647 < acc
      · go_wp2
        go_ret2
        exact ⟨by rw [HR.out, ← HA.out, if_pos hm]; exact rfl, rfl⟩
      · go_wp2
        go_ret2
        exact ⟨by rw [HR.out, ← HA.out, if_neg hm]; exact rfl, rfl⟩
end
end Go.Proofs.YtinphkflfdpaeaaDoor
