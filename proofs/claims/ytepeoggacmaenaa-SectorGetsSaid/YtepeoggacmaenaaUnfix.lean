/- The walks of num.Unfix and of the reference's Unfix: the number of so many bytes. -/
import Derived.Test.YtepeoggacmaenaaMem
set_option linter.unusedVariables false
set_option linter.unusedSimpArgs false
namespace Go.Proofs.Ytepeoggacmaenaa
open Go.RowKit

/-- What Unfix answers. -/
def unfixR (L : List UInt8) : Nat × Nat :=
  if L.length < 1 ∨ 4 < L.length then (0, 1) else if 2147483647 < unfixL L then (0, 5) else (unfixL L, 0)
def UnfixPost (r : Nat × Nat) (e : Ending) : Prop := e = .returned (.tuple #[.int .i64 (r.1 : Int), .int .i64 (r.2 : Int)])
theorem unfix_take (L : List UInt8) (k : Nat) (h : k < L.length) : unfixL (L.take (k + 1)) = unfixL (L.take k) + L[k].toNat * 256 ^ k := by
  rw [List.take_succ_eq_append_getElem h, unfixL_append]
  simp [unfixL, Nat.min_eq_left (Nat.le_of_lt h), Nat.mul_comm]
theorem unfix_or (acc x k : Nat) (hk : k < 4) (ha : acc < 256 ^ k) (hx : x < 256) :
    bits .or .u64 (acc : Int) (IntKind.u64.wrap ((x : Int) * 2 ^ (8 * k))) = ((acc + x * 256 ^ k : Nat) : Int) ∧ acc + x * 256 ^ k < 256 ^ (k + 1) := by
  have e : (256 : Nat) ^ k = 2 ^ (8 * k) := by rw [Nat.pow_mul]
  have hle : (256 : Nat) ^ k ≤ 256 ^ 3 := Nat.pow_le_pow_right (by omega) (by omega)
  have hm : x * 256 ^ k ≤ 255 * 256 ^ k := Nat.mul_le_mul_right _ (by omega)
  refine ⟨?_, by rw [Nat.pow_succ]; omega⟩
  rw [e] at ha hm hle ⊢
  exact or_shl acc x (8 * k) ha (by omega)
set_option maxRecDepth 100000 in
set_option maxHeartbeats 2000000 in
theorem unfix_any (L : List UInt8) (A : Option Addr) (c B : Nat) (w : World) (hr : RB w B A L) (hl : L.length ≤ 1048576) :
    Calls Try.prog 49 #[.slice A L.length c] w fun e w' => UnfixPost (unfixR L) e ∧ w = w' := by
  by_cases h1 : L.length < 1
  · have HR : Hid (unfixR L = (0, 1)) := by show _ = _; unfold unfixR; rw [if_pos (.inl h1)]
    go_enter Try.func49, Try.ntmps49
    go_wp2
    go_ret2
    exact ⟨by rw [HR.out]; exact rfl, rfl⟩
  by_cases h4 : 4 < L.length
  · have HR : Hid (unfixR L = (0, 1)) := by show _ = _; unfold unfixR; rw [if_pos (.inr h4)]
    go_enter Try.func49, Try.ntmps49
    go_wp2
    go_ret2
    exact ⟨by rw [HR.out]; exact rfl, rfl⟩
  obtain ⟨b, off, rfl, hb, hcell⟩ := hr.at_ (by omega)
  have HC : Hid (∀ (k : Nat) (hk : k < L.length), w.cell? ⟨b, off + k, none⟩ = some (Value.int .u8 (L[k].toNat : Int))) := hcell
  have HR : Hid (unfixR L = if 2147483647 < unfixL L then (0, 5) else (unfixL L, 0)) := by show _ = _; unfold unfixR; rw [if_neg (by omega)]
  clear hcell hr
  go_enter Try.func49, Try.ntmps49
  go_wp2
  go_loop [4, 17] (fun n i => ∃ k acc : Nat, k ≤ L.length ∧ i = .int .i64 (k : Int) ∧ n = .int .u64 (acc : Int) ∧ acc = unfixL (L.take k)) (fun _ i => 5 - (intOf i).toNat)
  case atStart => exact ⟨0, 0, by omega, rfl, rfl, rfl⟩
  case round =>
    obtain ⟨k, acc, hkl, rfl, rfl, hacc⟩ := hrel
    have hlt2 : acc < 256 ^ k := by have := unfixL_lt (L.take k); rw [hacc]; rwa [List.length_take, Nat.min_eq_left hkl] at this
    by_cases hlt : k < L.length
    · obtain ⟨x, hx⟩ : ∃ x : Nat, x = L[k].toNat := ⟨_, rfl⟩
      have hck := HC.out k hlt
      rw [← hx] at hck
      have hx256 : x < 256 := by rw [hx]; exact byte_lt _
      obtain ⟨acc', ha'⟩ : ∃ acc' : Nat, acc' = acc + x * 256 ^ k := ⟨_, rfl⟩
      obtain ⟨he, _⟩ := unfix_or acc x k (by omega) hlt2 hx256
      rw [← ha'] at he
      have HA : Hid (acc' = unfixL (L.take (k + 1))) := by show _ = _; rw [unfix_take L k hlt, ← hacc, ← hx, ha']
      clear hx ha' hacc hlt2
      go_wp2
      go_round
      case rel => exact ⟨k + 1, acc', by omega, by go_num, rfl, HA.out⟩
      case measure => simp [intOf]; omega
    · have hk : k = L.length := by omega
      have HA : Hid (acc = unfixL L) := by show _ = _; rw [hacc, List.take_of_length_le (by omega)]
      have hlt3 : acc < 4294967296 := Nat.lt_of_lt_of_le hlt2 (Nat.le_trans (Nat.pow_le_pow_right (by omega) (show k ≤ 4 by omega)) (by decide))
      clear hacc hlt2 hk
      by_cases hm : 2147483647 < acc
      · go_wp2
        go_ret2
        exact ⟨by rw [HR.out, ← HA.out, if_pos hm]; exact rfl, rfl⟩
      · go_wp2
        go_ret2
        exact ⟨by rw [HR.out, ← HA.out, if_neg hm]; exact rfl, rfl⟩

end Go.Proofs.Ytepeoggacmaenaa
