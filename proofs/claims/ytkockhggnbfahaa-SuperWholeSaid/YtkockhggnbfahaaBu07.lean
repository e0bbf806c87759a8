/- Lemmas under the proofs of this place: Unfix, BytesFns, Num. No statement is proved here. -/
import Derived.Test.YtkockhggnbfahaaBu04
import Derived.Lib.SliceRun
section
set_option linter.unusedVariables false
set_option linter.unusedSimpArgs false
namespace Go.Proofs.Ytkockhggnbfahaa
open Go.RowKit
def unfixR (L : List UInt8) : Nat × Nat :=
  if L.length < 1 ∨ 4 < L.length then (0, 1) else if 2147483647 < unfixL L then (0, 5) else (unfixL L, 0)
def UnfixPost (r : Nat × Nat) (e : Ending) : Prop := e = .returned (.tuple #[.int .i64 (r.1 : Int), .int .i64 (r.2 : Int)])
theorem unfix_take (L : List UInt8) (k : Nat) (h : k < L.length) : unfixL (L.take (k + 1)) = unfixL (L.take k) + L[k].toNat * 256 ^ k := by
  rw [List.take_succ_eq_append_getElem h, unfixL_append]
  simp [unfixL, Nat.min_eq_left (Nat.le_of_lt h), Nat.mul_comm]
theorem unfix_or (acc x k : Nat) (hk : k < 4) (ha : acc < 256 ^ k) (hx : x < 256) :
    bits .or .u64 (acc : Int) (IntKind.u64.wrap ((x : Int) * 2 ^ (8 * k))) = ((acc + x * 256 ^ k : Nat) : Int) ∧ acc + x * 256 ^ k < 256 ^ (k + 1) := by
  have e : (256 : Nat) ^ k = 2 ^ (8 * k) := by rw [Nat.pow_mul]
  have hle : (256 : Nat) ^ k ≤ 256 ^ 3 := Nat.pow_le_pow_right (by omega) (by omega)
  have hm : x * 256 ^ k ≤ 255 * 256 ^ k := Nat.mul_le_mul_right _ (by omega)
  refine ⟨?_, by rw [Nat.pow_succ]; omega⟩
  rw [e] at ha hm hle ⊢
  exact or_shl acc x (8 * k) ha (by omega)
set_option maxRecDepth 100000 in
set_option maxHeartbeats 2000000 in
theorem unfix_any (L : List UInt8) (A : Option Addr) (c B : Nat) (w : World) (hr : RB w B A L) (hl : L.length ≤ 1048576) :
    Calls Try.prog 73 #[.slice A L.length c] w fun e w' => UnfixPost (unfixR L) e ∧ w = w' := by
  by_cases h1 : L.length < 1
  · have HR : Hid (unfixR L = (0, 1)) := by show _ = _; unfold unfixR; rw [if_pos (.inl h1)]
    go_enter Try.func73, Try.ntmps73
    go_wp2
    go_ret2
    exact ⟨by rw [HR.out]; exact rfl, rfl⟩
  by_cases h4 : 4 < L.length
  · have HR : Hid (unfixR L = (0, 1)) := by show _ = _; unfold unfixR; rw [if_pos (.inr h4)]
    go_enter Try.func73, Try.ntmps73
    go_wp2
    go_ret2
    exact ⟨by rw [HR.out]; exact rfl, rfl⟩
  obtain ⟨b, off, rfl, hb, hcell⟩ := hr.at_ (by omega)
  have HC : Hid (∀ (k : Nat) (hk : k < L.length), w.cell? ⟨b, off + k, none⟩ = some (Value.int .u8 (L[k].toNat : Int))) := hcell
  have HR : Hid (unfixR L = if 2147483647 < unfixL L then (0, 5) else (unfixL L, 0)) := by show _ = _; unfold unfixR; rw [if_neg (by omega)]
  clear hcell hr
  go_enter Try.func73, Try.ntmps73
  go_wp2
  go_loop [4, 17] (fun n i => ∃ k acc : Nat, k ≤ L.length ∧ i = .int .i64 (k : Int) ∧ n = .int .u64 (acc : Int) ∧ acc = unfixL (L.take k)) (fun _ i => 5 - (intOf i).toNat)
  case atStart => exact ⟨0, 0, by omega, rfl, rfl, rfl⟩
  case round =>
    obtain ⟨k, acc, hkl, rfl, rfl, hacc⟩ := hrel
    have hlt2 : acc < 256 ^ k := by have := unfixL_lt (L.take k); rw [hacc]; rwa [List.length_take, Nat.min_eq_left hkl] at this
    by_cases hlt : k < L.length
    · obtain ⟨x, hx⟩ : ∃ x : Nat, x = L[k].toNat := ⟨_, rfl⟩
      have hck := HC.out k hlt
      rw [← hx] at hck
      have hx256 : x < 256 := by rw [hx]; exact byte_lt _
      obtain ⟨acc', ha'⟩ : ∃ acc' : Nat, acc' = acc + x * 256 ^ k := ⟨_, rfl⟩
      obtain ⟨he, _⟩ := unfix_or acc x k (by omega) hlt2 hx256
      rw [← ha'] at he
      have HA : Hid (acc' = unfixL (L.take (k + 1))) := by show _ = _; rw [unfix_take L k hlt, ← hacc, ← hx, ha']
      clear hx ha' hacc hlt2
      go_wp2
      go_round
      case rel => exact ⟨k + 1, acc', by omega, by go_num, rfl, HA.out⟩
      case measure => simp [intOf]; omega
    · have hk : k = L.length := by omega
      have HA : Hid (acc = unfixL L) := by show _ = _; rw [hacc, List.take_of_length_le (by omega)]
      have hlt3 : acc < 4294967296 := Nat.lt_of_lt_of_le hlt2 (Nat.le_trans (Nat.pow_le_pow_right (by omega) (show k ≤ 4 by omega)) (by decide))
      clear hacc hlt2 hk
      by_cases hm : 2147483647 < acc
      · go_wp2
        go_ret2
        exact ⟨by rw [HR.out, ← HA.out, if_pos hm]; exact rfl, rfl⟩
      · go_wp2
        go_ret2
        exact ⟨by rw [HR.out, ← HA.out, if_neg hm]; exact rfl, rfl⟩
end Go.Proofs.Ytkockhggnbfahaa
end
section
set_option linter.unusedVariables false
namespace Go.Proofs.Ytkockhggnbfahaa
open Go.RowKit
theorem equal_any (L M : List UInt8) (A C : Option Addr) (c d B E : Nat) (w : World) (ha : RB w B A L) (hb : RB w E C M) :
    Calls Try.prog 86 #[.slice A L.length c, .slice C M.length d] w fun e w' => e = .returned (.bool (decide (L = M))) ∧ w = w' := by
  have e1 := run_str (P := Try.prog) 26 5 9 Try.underlying26 Try.underlying5 Try.underlying9 ha L.length c rfl
  have e2 := run_str (P := Try.prog) 26 5 9 Try.underlying26 Try.underlying5 Try.underlying9 hb M.length d rfl
  go_enter Try.func86, Try.ntmps86
  go_wp2
  go_ret
  exact ⟨congrArg (fun b => Ending.returned (Value.bool b)) (text_eq L M), rfl⟩
set_option maxRecDepth 100000 in
set_option maxHeartbeats 1000000 in
theorem clone_some (L : List UInt8) (ad : Addr) (c B : Nat) (w : World) (hr : RB w B (some ad) L) (hl : L.length ≤ 140737488351232) :
    Calls Try.prog 91 #[.slice (some ad) L.length c] w (GivesOne L w) := by
  obtain ⟨i0, hi0, hz0, hz1, hz2⟩ := info_parts Try.info5
  have hr := rb_lt hr
  have hn : (binOp .eql 26 (.slice (some ad) L.length c) (.slice none 0 0)).run Try.prog w = .ok (.bool false) w := Lib.run_eql_slice_nil w 26 5 (some ad) L.length c 0 0 Try.underlying26
  go_enter Try.func91, Try.ntmps91
  go_wp2_with (at_builtin; refine wpList_append_any _ rfl (.tmp 5) (.tmp 6) _ rfl w.heap.size 5 i0 _ 1 1 Try.underlying26 hi0 hz0 hz1 hz2 rfl (by omega) (.slice (some ⟨w.heap.size, 0, none⟩) 0 0) 0 [] rfl (World.ownsRow_made w #[] 0 (Nat.le_refl _) (by decide) rfl) w.heap.size (some ad) L.length c (cells L) rfl (hr.alloc (Nat.le_refl _) _) (cells_one _) (by simp only [maxLen]; omega) (by omega) (by simp) ?_; intro v5 w5 ho5 hg5 hat5; simp only [Nat.zero_add, List.nil_append] at ho5; have hb5 : Below w.heap.size w w5 := ((Below.refl _ _).alloc (Nat.le_refl _) _).grown hg5 (by simp) (by simp [Value.ownBlock]))
  obtain ⟨A3, c3, hv⟩ := own_form ho5
  go_ret
  exact ⟨A3, c3, by rw [hv]; rfl, by rw [hv] at ho5; exact ho5, hb5⟩
theorem clone_none (n c : Nat) (w : World) : Calls Try.prog 91 #[.slice none n c] w fun e w' => e = .returned (.slice none 0 0) ∧ w = w' := by
  have hn : (binOp .eql 26 (.slice none n c) (.slice none 0 0)).run Try.prog w = .ok (.bool true) w := Lib.run_eql_slice_nil w 26 5 none n c 0 0 Try.underlying26
  go_enter Try.func91, Try.ntmps91
  go_wp2
  go_ret
  exact ⟨rfl, rfl⟩
theorem clone_any (L : List UInt8) (A : Option Addr) (c B : Nat) (w : World) (hr : RB w B A L) (hl : L.length ≤ 140737488351232) :
    Calls Try.prog 91 #[.slice A L.length c] w (GivesOne L w) := by
  rcases A with _ | ad
  · have hL : L = [] := by
      rcases L with _ | ⟨x, L⟩
      · rfl
      · obtain ⟨ad, h, _⟩ := hr.2 (by simp)
        cases h
    subst hL
    refine (clone_none _ c w).mono fun e w' h => ?_
    obtain ⟨he, rfl⟩ := h
    exact ⟨none, 0, he, World.ownsRow_nil _ _ _ _, Below.refl _ _⟩
  · exact clone_some L ad c B w hr hl
end Go.Proofs.Ytkockhggnbfahaa
end
section
set_option linter.unusedVariables false
set_option linter.unusedSimpArgs false
namespace Go.Proofs.Ytkockhggnbfahaa
open Go.RowKit
theorem isNumber_yes (n : Int) (w : World) (h0 : 0 ≤ n) (h1 : n ≤ 2147483647) : Calls Try.prog 64 #[.int .i64 n] w fun e w' => e = .returned (.bool true) ∧ w = w' := by
  go_enter Try.func64, Try.ntmps64
  go_wp2
  go_ret
  exact ⟨rfl, rfl⟩
end Go.Proofs.Ytkockhggnbfahaa
end
