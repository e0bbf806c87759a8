/- The walks of num.Get and of the reference's Get: the number that bytes begin with. -/
import Derived.Test.YtdiihnpnjgadeaaPut
namespace Go.Proofs.Ytdiihnpnjgadeaa
open Go.RowKit

/-- What Get answers. -/
def GetPost (r : Option (Nat × Nat)) (e : Ending) : Prop :=
  match r with
  | some (n, k) => e = .returned (.tuple #[.int .i64 (n : Int), .int .i64 (k : Int), .int .i64 0])
  | none => e = .returned (.tuple #[.int .i64 0, .int .i64 0, .int .i64 5])

theorem getAux_step (L : List UInt8) (k acc q x : Nat) (hk : k < 5) (hlt : k < L.length) (hx : x = L[k].toNat) :
    getAux (5 - k) (L.drop k) k acc q = if 128 ≤ x then getAux (5 - (k + 1)) (L.drop (k + 1)) (k + 1) (acc + x % 128 * q) (q * 128)
      else if 2147483647 < acc + x % 128 * q ∨ (0 < k ∧ x = 0) then none else some (acc + x % 128 * q, k + 1) := by
  obtain ⟨j, hj⟩ : ∃ j, 5 - k = j + 1 := ⟨4 - k, by omega⟩
  have hj' : 5 - (k + 1) = j := by omega
  rw [List.drop_eq_getElem_cons hlt, hj, hj', hx]
  rfl
theorem getAux_end (L : List UInt8) (k acc q : Nat) (h : 5 ≤ k ∨ L.length ≤ k) : getAux (5 - k) (L.drop k) k acc q = none := by
  rcases h with h | h
  · have : 5 - k = 0 := by omega
    rw [this]; cases L.drop k <;> rfl
  · rw [List.drop_eq_nil_of_le h]; cases 5 - k <;> rfl

theorem or_shl (acc y e : Nat) (ha : acc < 2 ^ e) (hf : acc + y * 2 ^ e < 18446744073709551616) :
    bits .or .u64 (acc : Int) (IntKind.u64.wrap ((y : Int) * 2 ^ e)) = ((acc + y * 2 ^ e : Nat) : Int) := by
  have h1 : IntKind.u64.wrap ((y : Int) * 2 ^ e) = ((y * 2 ^ e : Nat) : Int) := by
    rw [IntKind.wrap_u64]
    have hc : ((y : Int) * 2 ^ e) = ((y * 2 ^ e : Nat) : Int) := by simp
    rw [hc]
    exact Int.emod_eq_of_lt (by omega) (by omega)
  rw [h1, u64_or_nat _ _ (by omega) (by omega)]
  have h2 := Nat.two_pow_add_eq_or_of_lt ha y
  rw [Nat.or_comm, Nat.mul_comm y, ← h2, Nat.add_comm]

theorem get_or (acc x k : Nat) (hk : k < 5) (ha : acc < 128 ^ k) :
    bits .or .u64 (acc : Int) (IntKind.u64.wrap ((x : Int) % 128 * 2 ^ (7 * k))) = ((acc + x % 128 * 128 ^ k : Nat) : Int) ∧ acc + x % 128 * 128 ^ k < 128 ^ (k + 1) := by
  have e : (128 : Nat) ^ k = 2 ^ (7 * k) := by rw [Nat.pow_mul]
  have hle : (128 : Nat) ^ k ≤ 128 ^ 4 := Nat.pow_le_pow_right (by omega) (by omega)
  have hx : x % 128 ≤ 127 := by omega
  have hm : x % 128 * 128 ^ k ≤ 127 * 128 ^ k := Nat.mul_le_mul_right _ hx
  refine ⟨?_, by rw [Nat.pow_succ]; omega⟩
  rw [e] at ha hm hle ⊢
  exact or_shl acc (x % 128) (7 * k) ha (by omega)

set_option maxRecDepth 100000 in
set_option maxHeartbeats 2000000 in
theorem get_any (L : List UInt8) (A : Option Addr) (c B : Nat) (w : World) (hr : RB w B A L) (hl : L.length ≤ 1048576) :
    Calls Try.prog 12 #[.slice A L.length c] w fun e w' => GetPost (getL L) e ∧ w = w' := by
  have hcase : L.length ≤ 5 ∨ 5 < L.length := by omega
  rcases hcase with hc5 | hc5
  all_goals
    go_enter Try.func12, Try.ntmps12
    go_wp2
    go_loop [5, 10] (fun n i => ∃ k acc : Nat, k ≤ 5 ∧ k ≤ L.length ∧ i = .int .i64 (k : Int) ∧ n = .int .u64 (acc : Int) ∧ acc < 128 ^ k ∧ getL L = getAux (5 - k) (L.drop k) k acc (128 ^ k)) (fun _ i => 5 - (intOf i).toNat)
    case atStart => exact ⟨0, 0, by omega, by omega, rfl, rfl, by decide, rfl⟩
    case round =>
      obtain ⟨k, acc, hk5, hkl, rfl, rfl, hacc, hg⟩ := hrel
      have HG : Hid (getL L = getAux (5 - k) (L.drop k) k acc (128 ^ k)) := hg
      clear hg
      by_cases hlt : k < L.length ∧ k < 5
      · obtain ⟨hlt, hlt5⟩ := hlt
        obtain ⟨b, off, rfl, hb, hcell⟩ := hr.at_ (by omega)
        have hck := hcell k hlt
        clear hcell
        obtain ⟨x, hx⟩ : ∃ x : Nat, x = L[k].toNat := ⟨_, rfl⟩
        rw [← hx] at hck
        have hx256 : x < 256 := by rw [hx]; exact byte_lt _
        obtain ⟨acc', ha'⟩ : ∃ acc' : Nat, acc' = acc + x % 128 * 128 ^ k := ⟨_, rfl⟩
        have HS : Hid (getL L = if 128 ≤ x then getAux (5 - (k + 1)) (L.drop (k + 1)) (k + 1) acc' (128 ^ (k + 1)) else if 2147483647 < acc' ∨ (0 < k ∧ x = 0) then none else some (acc', k + 1)) := by
          show _ = _
          rw [HG.out, getAux_step L k acc _ x hlt5 hlt hx, ← ha', Nat.pow_succ]
        obtain ⟨he, hlt'⟩ := get_or acc x k hlt5 hacc
        rw [← ha'] at he hlt'
        have HL : Hid (acc' < 128 ^ (k + 1)) := hlt'
        have hmax : acc' < 34359738368 := Nat.lt_of_lt_of_le hlt' (Nat.le_trans (Nat.pow_le_pow_right (by omega) (show k + 1 ≤ 5 by omega)) (by decide))
        clear hx ha' hacc hr hlt' HG
        by_cases hx128 : 128 ≤ x
        · go_wp2
          go_round
          case rel => exact ⟨k + 1, acc', by omega, by omega, by go_num, rfl, HL.out, by rw [HS.out, if_pos hx128]⟩
          case measure => simp [intOf]; omega
        · by_cases hm : 2147483647 < acc'
          · go_wp2
            go_ret3
            exact ⟨by rw [HS.out, if_neg hx128, if_pos (.inl hm)]; exact rfl, rfl⟩
          · by_cases hk0 : 0 < k
            · rcases hx0 : ((x : Int) == 0) with _ | _
              · have HX : Hid (x ≠ 0) := by show x ≠ 0; intro e; subst e; simp at hx0
                go_wp2
                go_ret3
                exact ⟨by rw [HS.out, if_neg hx128, if_neg (by have := HX.out; omega)]; exact rfl, rfl⟩
              · have HX : Hid (x = 0) := by show x = 0; simpa using hx0
                go_wp2
                go_ret3
                exact ⟨by rw [HS.out, if_neg hx128, if_pos (.inr ⟨hk0, HX.out⟩)]; exact rfl, rfl⟩
            · go_wp2
              go_ret3
              exact ⟨by rw [HS.out, if_neg hx128, if_neg (by omega)]; exact rfl, rfl⟩
      · have HE : Hid (getL L = none) := by show _ = _; rw [HG.out]; exact getAux_end L k acc _ (by omega)
        clear HG hacc
        have hge : min L.length 5 ≤ k := by omega
        go_wp2
        go_ret3
        exact ⟨by rw [HE.out]; exact rfl, rfl⟩

theorem refGet_num (acc x k q : Nat) (hk : k < 5) (ha : acc < 128 ^ k) (hq : q = 128 ^ k) : acc + x % 128 * q < 128 ^ (k + 1) ∧ acc + x % 128 * q < 34359738368 ∧ q ≤ 268435456 ∧ x % 128 * q < 34359738368 := by
  subst hq
  have hle : (128 : Nat) ^ k ≤ 128 ^ 4 := Nat.pow_le_pow_right (by omega) (by omega)
  have hx : x % 128 ≤ 127 := by omega
  have hm : x % 128 * 128 ^ k ≤ 127 * 128 ^ k := Nat.mul_le_mul_right _ hx
  refine ⟨by rw [Nat.pow_succ]; omega, by omega, by omega, by omega⟩

set_option maxRecDepth 100000 in
set_option maxHeartbeats 2000000 in
theorem refGet_any (L : List UInt8) (A : Option Addr) (c B : Nat) (w : World) (hr : RB w B A L) (hl : L.length ≤ 1048576) :
    Calls Try.prog 14 #[.slice A L.length c] w fun e w' => GetPost (getL L) e ∧ w = w' := by
  go_enter Try.func14, Try.ntmps14
  go_wp2
  go_loop [5, 6, 7] (fun n y i => ∃ k acc q : Nat, k ≤ 5 ∧ k ≤ L.length ∧ i = .int .i64 (k : Int) ∧ n = .int .i64 (acc : Int) ∧ y = .int .i64 (q : Int) ∧ q = 128 ^ k ∧ acc < 128 ^ k ∧ getL L = getAux (5 - k) (L.drop k) k acc (128 ^ k)) (fun _ _ i => 5 - (intOf i).toNat)
  case atStart => exact ⟨0, 0, 1, by omega, by omega, rfl, rfl, rfl, rfl, by decide, rfl⟩
  case round =>
    obtain ⟨k, acc, q, hk5, hkl, rfl, rfl, rfl, hq, hacc, hg⟩ := hrel
    have HG : Hid (getL L = getAux (5 - k) (L.drop k) k acc (128 ^ k)) := hg
    clear hg
    have HQ : Hid (q = 128 ^ k) := hq
    by_cases hlt : k < L.length ∧ k < 5
    · obtain ⟨hlt, hlt5⟩ := hlt
      obtain ⟨b, off, rfl, hb, hcell⟩ := hr.at_ (by omega)
      have hck := hcell k hlt
      clear hcell
      obtain ⟨x, hx⟩ : ∃ x : Nat, x = L[k].toNat := ⟨_, rfl⟩
      rw [← hx] at hck
      have hx256 : x < 256 := by rw [hx]; exact byte_lt _
      obtain ⟨p, hp⟩ : ∃ p : Nat, p = x % 128 * q := ⟨_, rfl⟩
      obtain ⟨acc', ha'⟩ : ∃ acc' : Nat, acc' = acc + p := ⟨_, rfl⟩
      obtain ⟨h1, h2, h3, h4⟩ := refGet_num acc x k q hlt5 hacc hq
      rw [← hp, ← ha'] at h1 h2
      rw [← hp] at h4
      have HS : Hid (getL L = if 128 ≤ x then getAux (5 - (k + 1)) (L.drop (k + 1)) (k + 1) acc' (128 ^ (k + 1)) else if 2147483647 < acc' ∨ (0 < k ∧ x = 0) then none else some (acc', k + 1)) := by
        show _ = _
        rw [HG.out, getAux_step L k acc _ x hlt5 hlt hx, ← hq, ← hp, ← ha', Nat.pow_succ, ← hq]
      have he : (x : Int) % 128 * (q : Int) = (p : Int) := by rw [hp]; simp
      have he2 : (acc : Int) + (p : Int) = (acc' : Int) := by rw [ha']; simp
      have HL : Hid (acc' < 128 ^ (k + 1)) := h1
      have HQ2 : Hid (q * 128 = 128 ^ (k + 1)) := by show _ = _; rw [hq, Nat.pow_succ]
      clear hx ha' hacc hr h1 HG hp hq
      by_cases hx128 : 128 ≤ x
      · go_wp2
        go_round
        case rel => exact ⟨k + 1, acc', q * 128, by omega, by omega, by go_num, rfl, by go_num, HQ2.out, HL.out, by rw [HS.out, if_pos hx128]⟩
        case measure => simp [intOf]; omega
      · by_cases hm : 2147483647 < acc'
        · go_wp2
          go_ret3
          exact ⟨by rw [HS.out, if_neg hx128, if_pos (.inl hm)]; exact rfl, rfl⟩
        · by_cases hk0 : 0 < k
          · rcases hx0 : ((x : Int) == 0) with _ | _
            · have HX : Hid (x ≠ 0) := by show x ≠ 0; intro e; subst e; simp at hx0
              go_wp2
              go_ret3
              exact ⟨by rw [HS.out, if_neg hx128, if_neg (by have := HX.out; omega)]; exact rfl, rfl⟩
            · have HX : Hid (x = 0) := by show x = 0; simpa using hx0
              go_wp2
              go_ret3
              exact ⟨by rw [HS.out, if_neg hx128, if_pos (.inr ⟨hk0, HX.out⟩)]; exact rfl, rfl⟩
          · go_wp2
            go_ret3
            exact ⟨by rw [HS.out, if_neg hx128, if_neg (by omega)]; exact rfl, rfl⟩
    · have HE : Hid (getL L = none) := by show _ = _; rw [HG.out]; exact getAux_end L k acc _ (by omega)
      clear HG hacc hq HQ
      by_cases hlt2 : k < L.length
      all_goals
        go_wp2
        go_ret3
        exact ⟨by rw [HE.out]; exact rfl, rfl⟩

end Go.Proofs.Ytdiihnpnjgadeaa
