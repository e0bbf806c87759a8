/- Lemmas under the proofs of this place: Fix, RGet, RUnfix. No statement is proved here. -/
import Derived.Test.YtinphkflfdpaeaaDoorBu06
import Derived.Lib.Hide
set_option linter.unusedSimpArgs false
set_option linter.unusedVariables false
set_option maxRecDepth 100000
set_option maxHeartbeats 16000000
namespace Go.Proofs.YtinphkflfdpaeaaDoor
section
open Go.RowKit
theorem shr_test (n k : Nat) : (((n : Int) / 2 ^ (8 * k)) != 0) = !decide (n < 256 ^ k) := by
  have hc : ((n : Int) / 2 ^ (8 * k)) = ((n / 256 ^ k : Nat) : Int) := by rw [pow_256]; simp
  rw [hc]
  by_cases h : n < 256 ^ k
  · have : n / 256 ^ k = 0 := Nat.div_eq_of_lt h
    simp [h, this]
  · have hp : 0 < 256 ^ k := Nat.pow_pos (by omega)
    have : n / 256 ^ k ≠ 0 := by
      have := Nat.div_pos (Nat.le_of_not_lt h) hp; omega
    simp only [h, decide_false, Bool.not_false]
    simp only [bne_iff_ne, ne_eq]
    omega
theorem fix_byte (n j : Nat) : IntKind.u8.wrap ((n : Int) / 2 ^ (8 * j)) = ((UInt8.ofNat (n / 256 ^ j % 256)).toNat : Int) := by
  have hc : ((n : Int) / 2 ^ (8 * j)) = ((n / 256 ^ j : Nat) : Int) := by rw [pow_256]; simp
  rw [hc, ofNat_toNat _ (by omega)]
  simp [IntKind.wrap, IntKind.bits, IntKind.signed]
theorem fix_set (L : List UInt8) (j : Nat) (h : j < L.length) (z : Value) : (cells (L.take j) ++ List.replicate (L.length - j) z).set j (.int .u8 (L[j].toNat : Int)) = cells (L.take (j + 1)) ++ List.replicate (L.length - (j + 1)) z := by
  have e : L.length - j = (L.length - (j + 1)) + 1 := by omega
  have hl : (cells (L.take j)).length = j := by rw [cells_length, List.length_take]; omega
  rw [List.set_append, if_neg (by omega), hl, Nat.sub_self, e, List.replicate_succ, List.set_cons_zero, List.take_succ_eq_append_getElem h, cells_append]
  simp [cells]
theorem fix_yes (n k : Nat) (w : World) (h : n ≤ 2147483647) (hk1 : 1 ≤ k) (hk4 : k ≤ 4) (hn : n < 256 ^ k) : Calls Tryd.prog 73 #[.int .i64 (n : Int), .int .i64 (k : Int)] w (GivesBytes (fixL k n) w) := by
  obtain ⟨i0, hi0, hz0, hz1, hz2⟩ := info_parts Tryd.info5
  have hby : i0.bytes = 1 := hz2
  have hl : (fixL k n).length = k := fixL_length k n
  have hc1 : decide ((k : Int) < 1) = false := by simp; omega
  have hc4 : decide (4 < (k : Int)) = false := by simp; omega
  have ht : (((n : Int) / 2 ^ (8 * k)) != 0) = false := by rw [shr_test]; simp [hn]
  have HL := Lib.hid hl
  clear hl hn
  go_enter Tryd.func73, Tryd.ntmps73
  go_wp2_with (first
    | (go_at_call 86; refine (isNumber_yes _ _ (by omega) (by omega)).mono ?_; rintro e w' ⟨rfl, rfl⟩)
    | (at_make; refine wpList_make_full _ rfl _ _ 29 rfl w.heap.size 5 i0 _ 1 Tryd.underlying29 hi0 hz0 hz1 .i64 .i64 _ _ k rfl rfl rfl rfl (by rw [hby]; omega) (by unfold maxLen; omega) (Nat.le_refl _) ?_; intro w1 hown hgrow))
  simp only [Nat.mul_one, show (Value.int IntKind.u8 0).cells = #[Value.int IntKind.u8 0] from rfl, toList_madeCells_one] at hown
  have hb1 : Below w.heap.size w w1 := (Below.refl _ _).grown hgrow (Nat.le_refl _) (by simp)
  have hsz : w.heap.size < w1.heap.size := (hown.lt w.heap.size rfl).2
  have HI : Hid (List.replicate k (Value.int .u8 0) = cells ((fixL k n).take 0) ++ List.replicate ((fixL k n).length - 0) (Value.int .u8 0)) := by show _ = _; rw [HL.out]; rfl
  go_loopw [31] (fun i wr => ∃ j : Nat, j ≤ k ∧ i = .int .i64 (j : Int) ∧ wr.ownsRow w.heap.size 5 1 (.slice (some ⟨w.heap.size, 0, none⟩) k k) k (cells ((fixL k n).take j) ++ List.replicate ((fixL k n).length - j) (Value.int .u8 0)) ∧ Below w.heap.size w wr) (fun i _ => k - (intOf i).toNat)
  case atStart => exact ⟨0, by omega, rfl, by rw [← HI.out]; exact hown, hb1⟩
  case round =>
    obtain ⟨j, hj, rfl, hown2, hb2⟩ := hrel
    clear hown hgrow hb1 hsz
    by_cases hlt : j < k
    · have hjl : j < (fixL k n).length := by rw [HL.out]; exact hlt
      have hcell : wr.cell? ⟨w.heap.size, j, none⟩ = some (.int .u8 0) := by
        rw [hown2.cellAt j (by omega), List.getElem?_append_right (by rw [cells_length, List.length_take]; omega), cells_length, List.length_take, Nat.min_eq_left (by omega), Nat.sub_self, List.getElem?_replicate, if_pos (by omega)]
      have hfr : wr.frozen? ⟨w.heap.size, j, none⟩ = false := hown2.frozenAt j
      obtain ⟨b, hb⟩ : ∃ b : UInt8, b = (fixL k n)[j] := ⟨_, rfl⟩
      have hbb : IntKind.u8.wrap ((n : Int) / 2 ^ (8 * j)) = (b.toNat : Int) := by
        rw [fix_byte]
        have e := fixL_get k n j hlt
        rw [List.getElem?_eq_getElem hjl, Option.some.injEq] at e
        rw [hb, e]
      have hst := (hown2.stored j (.int .u8 (b.toNat : Int))).1
      rw [hb, fix_set _ _ hjl, ← hb] at hst
      have hb3 : Below w.heap.size w (wr.setCell ⟨w.heap.size, j, none⟩ (.int .u8 (b.toNat : Int))) := hb2.setCell (Nat.le_refl _) _
      clear hb hown2 hjl
      go_wp2
      go_roundw
      case rel => exact ⟨j + 1, by omega, by go_num, hst, hb3⟩
      case measure => simp [intOf]; omega
    · obtain rfl : k = j := by omega
      have e : cells ((fixL k n).take k) ++ List.replicate ((fixL k n).length - k) (Value.int .u8 0) = cells (fixL k n) := by
        rw [List.take_of_length_le (by rw [HL.out]; omega), HL.out, Nat.sub_self]; simp
      rw [e] at hown2
      have HW : Hid (wr.ownsRow w.heap.size 5 1 (.slice (some ⟨w.heap.size, 0, none⟩) k k) k (cells (fixL k n))) := hown2
      clear hown2 e
      go_wp2
      go_ret2
      refine ⟨some ⟨w.heap.size, 0, none⟩, k, by rw [HL.out]; exact rfl, ?_, hb2⟩
      unfold Own
      rw [HL.out]
      exact HW.out
end
section
open Go.RowKit
theorem refGet_num (acc x k q : Nat) (hk : k < 5) (ha : acc < 128 ^ k) (hq : q = 128 ^ k) : acc + x % 128 * q < 128 ^ (k + 1) ∧ acc + x % 128 * q < 34359738368 ∧ q ≤ 268435456 ∧ x % 128 * q < 34359738368 := by
  subst hq
  have hle : (128 : Nat) ^ k ≤ 128 ^ 4 := Nat.pow_le_pow_right (by omega) (by omega)
  have hx : x % 128 ≤ 127 := by omega
  have hm : x % 128 * 128 ^ k ≤ 127 * 128 ^ k := Nat.mul_le_mul_right _ hx
  refine ⟨by rw [Nat.pow_succ]; omega, by omega, by omega, by omega⟩
theorem refGet_any (L : List UInt8) (A : Option Addr) (c B : Nat) (w : World) (hr : RB w B A L) (hl : L.length ≤ 1048576) :
    Calls Tryd.prog 90 #[.slice A L.length c] w fun e w' => GetPost (getL L) e ∧ w = w' := by
  go_enter Tryd.func90, Tryd.ntmps90
  go_wp2
  go_loop [5, 6, 7] (fun n y i => ∃ k acc q : Nat, k ≤ 5 ∧ k ≤ L.length ∧ i = .int .i64 (k : Int) ∧ n = .int .i64 (acc : Int) ∧ y = .int .i64 (q : Int) ∧ q = 128 ^ k ∧ acc < 128 ^ k ∧ getL L = getAux (5 - k) (L.drop k) k acc (128 ^ k)) (fun _ _ i => 5 - (intOf i).toNat)
  case atStart => exact ⟨0, 0, 1, by omega, by omega, rfl, rfl, rfl, rfl, by decide, rfl⟩
  case round =>
    obtain ⟨k, acc, q, hk5, hkl, rfl, rfl, rfl, hq, hacc, hg⟩ := hrel
    have HG : Hid (getL L = getAux (5 - k) (L.drop k) k acc (128 ^ k)) := hg
    clear hg
    have HQ : Hid (q = 128 ^ k) := hq
    by_cases hlt : k < L.length ∧ k < 5
    · obtain ⟨hlt, hlt5⟩ := hlt
      obtain ⟨b, off, rfl, hb, hcell⟩ := hr.at_ (by omega)
      have hck := hcell k hlt
      clear hcell
      obtain ⟨x, hx⟩ : ∃ x : Nat, x = L[k].toNat := ⟨_, rfl⟩
      rw [← hx] at hck
      have hx256 : x < 256 := by rw [hx]; exact byte_lt _
      obtain ⟨p, hp⟩ : ∃ p : Nat, p = x % 128 * q := ⟨_, rfl⟩
      obtain ⟨acc', ha'⟩ : ∃ acc' : Nat, acc' = acc + p := ⟨_, rfl⟩
      obtain ⟨h1, h2, h3, h4⟩ := refGet_num acc x k q hlt5 hacc hq
      rw [← hp, ← ha'] at h1 h2
      rw [← hp] at h4
      have HS : Hid (getL L = if 128 ≤ x then getAux (5 - (k + 1)) (L.drop (k + 1)) (k + 1) acc' (128 ^ (k + 1)) else if 2147483647 < acc' ∨ (0 < k ∧ x = 0) then none else some (acc', k + 1)) := by
        show _ = _
        rw [HG.out, getAux_step L k acc _ x hlt5 hlt hx, ← hq, ← hp, ← ha', Nat.pow_succ, ← hq]
      have he : (x : Int) % 128 * (q : Int) = (p : Int) := by rw [hp]; simp
      have he2 : (acc : Int) + (p : Int) = (acc' : Int) := by rw [ha']; simp
      have HL : Hid (acc' < 128 ^ (k + 1)) := h1
      have HQ2 : Hid (q * 128 = 128 ^ (k + 1)) := by show _ = _; rw [hq, Nat.pow_succ]
      clear hx ha' hacc hr h1 HG hp hq
      by_cases hx128 : 128 ≤ x
      · go_wp2
        go_round
        case rel => exact ⟨k + 1, acc', q * 128, by omega, by omega, by go_num, rfl, by go_num, HQ2.out, HL.out, by rw [HS.out, if_pos hx128]⟩
        case measure => simp [intOf]; omega
      · by_cases hm : 2147483647 < acc'
        · go_wp2
          go_ret3
          exact ⟨by rw [HS.out, if_neg hx128, if_pos (.inl hm)]; exact rfl, rfl⟩
        · by_cases hk0 : 0 < k
          · rcases hx0 : ((x : Int) == 0) with _ | _
            · have HX : Hid (x ≠ 0) := by show x ≠ 0; intro e; subst e; simp at hx0
              go_wp2
              go_ret3
              exact ⟨by rw [HS.out, if_neg hx128, if_neg (by have := HX.out; omega)]; exact rfl, rfl⟩
            · have HX : Hid (x = 0) := by show x = 0; simpa using hx0
              go_wp2
              go_ret3
              exact ⟨by rw [HS.out, if_neg hx128, if_pos (.inr ⟨hk0, HX.out⟩)]; exact rfl, rfl⟩
          · go_wp2
            go_ret3
            exact ⟨by rw [HS.out, if_neg hx128, if_neg (by omega)]; exact rfl, rfl⟩
    · have HE : Hid (getL L = none) := by show _ = _; rw [HG.out]; exact getAux_end L k acc _ (by omega)
      clear HG hacc hq HQ
      by_cases hlt2 : k < L.length
      all_goals
        go_wp2
        go_ret3
        exact ⟨by rw [HE.out]; exact rfl, rfl⟩
end
section
open Go.RowKit
theorem refUnfix_any (L : List UInt8) (A : Option Addr) (c B : Nat) (w : World) (hr : RB w B A L) (hl : L.length ≤ 1048576) :
    Calls Tryd.prog 64 #[.slice A L.length c] w fun e w' => UnfixPost (unfixR L) e ∧ w = w' := by
  by_cases h1 : L.length < 1
  · have HR : Hid (unfixR L = (0, 1)) := by show _ = _; unfold unfixR; rw [if_pos (.inl h1)]
    go_enter Tryd.func64, Tryd.ntmps64
    go_wp2
    go_ret2
    exact ⟨by rw [HR.out]; exact rfl, rfl⟩
  by_cases h4 : 4 < L.length
  · have HR : Hid (unfixR L = (0, 1)) := by show _ = _; unfold unfixR; rw [if_pos (.inr h4)]
    go_enter Tryd.func64, Tryd.ntmps64
    go_wp2
    go_ret2
    exact ⟨by rw [HR.out]; exact rfl, rfl⟩
  obtain ⟨b, off, rfl, hb, hcell⟩ := hr.at_ (by omega)
  have HC : Hid (∀ (k : Nat) (hk : k < L.length), w.cell? ⟨b, off + k, none⟩ = some (Value.int .u8 (L[k].toNat : Int))) := hcell
  have HR : Hid (unfixR L = if 2147483647 < unfixL L then (0, 5) else (unfixL L, 0)) := by show _ = _; unfold unfixR; rw [if_neg (by omega)]
  clear hcell hr
  go_enter Tryd.func64, Tryd.ntmps64
  go_wp2
  go_loop [4, 5] (fun n i => ∃ (m : Int) (acc : Nat), i = .int .i64 m ∧ -1 ≤ m ∧ m < (L.length : Int) ∧ n = .int .i64 (acc : Int) ∧ acc = unfixL (L.drop (m + 1).toNat)) (fun _ i => (intOf i + 1).toNat)
  case atStart => exact ⟨(L.length : Int) - 1, 0, rfl, by omega, by omega, rfl, by rw [List.drop_eq_nil_of_le (by omega)]; rfl⟩
  case round =>
    obtain ⟨m, acc, rfl, hm1, hm2, rfl, hacc⟩ := hrel
    by_cases hm0 : 0 ≤ m
    · obtain ⟨k, rfl⟩ : ∃ k : Nat, m = (k : Int) := ⟨m.toNat, by omega⟩
      have hlt : k < L.length := by omega
      obtain ⟨x, hx⟩ : ∃ x : Nat, x = L[k].toNat := ⟨_, rfl⟩
      have hck := HC.out k hlt
      rw [← hx] at hck
      have hx256 : x < 256 := by rw [hx]; exact byte_lt _
      have e1 : ((k : Int) + 1).toNat = k + 1 := by omega
      rw [e1] at hacc
      have hb3 : acc < 16777216 := by
        rw [hacc]
        exact Nat.lt_of_lt_of_le (unfixL_lt _) (Nat.le_trans (Nat.pow_le_pow_right (by omega) (show (L.drop (k + 1)).length ≤ 3 by rw [List.length_drop]; omega)) (by decide))
      have HA : Hid (x + 256 * acc = unfixL (L.drop k)) := by show _ = _; rw [List.drop_eq_getElem_cons hlt]; simp only [unfixL]; rw [← hx, ← hacc]
      clear hx hacc e1
      go_wp2
      go_round
      case rel => exact ⟨(k : Int) - 1, x + 256 * acc, rfl, by omega, by omega, by go_num, by rw [HA.out]; congr 2; omega⟩
      case measure => simp [intOf]
    · obtain rfl : m = -1 := by omega
      have HA : Hid (acc = unfixL L) := by show _ = _; rw [hacc]; rfl
      have hlt3 : acc < 4294967296 := by
        rw [HA.out]
        exact Nat.lt_of_lt_of_le (unfixL_lt L) (Nat.le_trans (Nat.pow_le_pow_right (by omega) (show L.length ≤ 4 by omega)) (by decide))
      clear hacc
      by_cases hm : 2147483647 < acc
      · go_wp2
        go_ret2
        exact ⟨by rw [HR.out, ← HA.out, if_pos hm]; exact rfl, rfl⟩
      · go_wp2
        go_ret2
        exact ⟨by rw [HR.out, ← HA.out, if_neg hm]; exact rfl, rfl⟩
end
end Go.Proofs.YtinphkflfdpaeaaDoor
