/- The walks of the reference of layer 1: Unfix. -/
import Derived.Test.YtepeoggacmaenaaUnfix
set_option linter.unusedVariables false
set_option linter.unusedSimpArgs false
namespace Go.Proofs.Ytepeoggacmaenaa
open Go.RowKit

set_option maxRecDepth 100000 in
set_option maxHeartbeats 2000000 in
theorem refUnfix_any (L : List UInt8) (A : Option Addr) (c B : Nat) (w : World) (hr : RB w B A L) (hl : L.length ≤ 1048576) :
    Calls Try.prog 30 #[.slice A L.length c] w fun e w' => UnfixPost (unfixR L) e ∧ w = w' := by
  by_cases h1 : L.length < 1
  · have HR : Hid (unfixR L = (0, 1)) := by show _ = _; unfold unfixR; rw [if_pos (.inl h1)]
    go_enter Try.func30, Try.ntmps30
    go_wp2
    go_ret2
    exact ⟨by rw [HR.out]; exact rfl, rfl⟩
  by_cases h4 : 4 < L.length
  · have HR : Hid (unfixR L = (0, 1)) := by show _ = _; unfold unfixR; rw [if_pos (.inr h4)]
    go_enter Try.func30, Try.ntmps30
    go_wp2
    go_ret2
    exact ⟨by rw [HR.out]; exact rfl, rfl⟩
  obtain ⟨b, off, rfl, hb, hcell⟩ := hr.at_ (by omega)
  have HC : Hid (∀ (k : Nat) (hk : k < L.length), w.cell? ⟨b, off + k, none⟩ = some (Value.int .u8 (L[k].toNat : Int))) := hcell
  have HR : Hid (unfixR L = if 2147483647 < unfixL L then (0, 5) else (unfixL L, 0)) := by show _ = _; unfold unfixR; rw [if_neg (by omega)]
  clear hcell hr
  go_enter Try.func30, Try.ntmps30
  go_wp2
  go_loop [4, 5] (fun n i => ∃ (m : Int) (acc : Nat), i = .int .i64 m ∧ -1 ≤ m ∧ m < (L.length : Int) ∧ n = .int .i64 (acc : Int) ∧ acc = unfixL (L.drop (m + 1).toNat)) (fun _ i => (intOf i + 1).toNat)
  case atStart => exact ⟨(L.length : Int) - 1, 0, rfl, by omega, by omega, rfl, by rw [List.drop_eq_nil_of_le (by omega)]; rfl⟩
  case round =>
    obtain ⟨m, acc, rfl, hm1, hm2, rfl, hacc⟩ := hrel
    by_cases hm0 : 0 ≤ m
    · obtain ⟨k, rfl⟩ : ∃ k : Nat, m = (k : Int) := ⟨m.toNat, by omega⟩
      have hlt : k < L.length := by omega
      obtain ⟨x, hx⟩ : ∃ x : Nat, x = L[k].toNat := ⟨_, rfl⟩
      have hck := HC.out k hlt
      rw [← hx] at hck
      have hx256 : x < 256 := by rw [hx]; exact byte_lt _
      have e1 : ((k : Int) + 1).toNat = k + 1 := by omega
      rw [e1] at hacc
      have hb3 : acc < 16777216 := by
        rw [hacc]
        exact Nat.lt_of_lt_of_le (unfixL_lt _) (Nat.le_trans (Nat.pow_le_pow_right (by omega) (show (L.drop (k + 1)).length ≤ 3 by rw [List.length_drop]; omega)) (by decide))
      have HA : Hid (x + 256 * acc = unfixL (L.drop k)) := by show _ = _; rw [List.drop_eq_getElem_cons hlt]; simp only [unfixL]; rw [← hx, ← hacc]
      clear hx hacc e1
      go_wp2
      go_round
      case rel => exact ⟨(k : Int) - 1, x + 256 * acc, rfl, by omega, by omega, by go_num, by rw [HA.out]; congr 2; omega⟩
      case measure => simp [intOf]
    · obtain rfl : m = -1 := by omega
      have HA : Hid (acc = unfixL L) := by show _ = _; rw [hacc]; rfl
      have hlt3 : acc < 4294967296 := by
        rw [HA.out]
        exact Nat.lt_of_lt_of_le (unfixL_lt L) (Nat.le_trans (Nat.pow_le_pow_right (by omega) (show L.length ≤ 4 by omega)) (by decide))
      clear hacc
      by_cases hm : 2147483647 < acc
      · go_wp2
        go_ret2
        exact ⟨by rw [HR.out, ← HA.out, if_pos hm]; exact rfl, rfl⟩
      · go_wp2
        go_ret2
        exact ⟨by rw [HR.out, ← HA.out, if_neg hm]; exact rfl, rfl⟩

end Go.Proofs.Ytepeoggacmaenaa
