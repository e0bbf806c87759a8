/- Lemmas under the proofs of this place: BytesFns, CrcBits, Num. No statement is proved here. -/
import Derived.Test.YtghenhacndaelaaBu04
import Derived.Test.YtghenhacndaelaaBu00
import Derived.Lib.SliceRun
import Derived.Laws.BitsAllLaws
set_option linter.unusedSimpArgs false
set_option linter.unusedVariables false
set_option maxRecDepth 100000
set_option maxHeartbeats 16000000
namespace Go.Proofs.Ytghenhacndaelaa
section
open Go.RowKit
theorem equal_any (L M : List UInt8) (A C : Option Addr) (c d B E : Nat) (w : World) (ha : RB w B A L) (hb : RB w E C M) :
    Calls Try.prog 67 #[.slice A L.length c, .slice C M.length d] w fun e w' => e = .returned (.bool (decide (L = M))) ∧ w = w' := by
  have e1 := run_str (P := Try.prog) 38 5 9 Try.underlying38 Try.underlying5 Try.underlying9 ha L.length c rfl
  have e2 := run_str (P := Try.prog) 38 5 9 Try.underlying38 Try.underlying5 Try.underlying9 hb M.length d rfl
  go_enter Try.func67, Try.ntmps67
  go_wp2
  go_ret
  exact ⟨congrArg (fun b => Ending.returned (Value.bool b)) (text_eq L M), rfl⟩
theorem clone_some (L : List UInt8) (ad : Addr) (c B : Nat) (w : World) (hr : RB w B (some ad) L) (hl : L.length ≤ 140737488351232) :
    Calls Try.prog 70 #[.slice (some ad) L.length c] w (GivesOne L w) := by
  obtain ⟨i0, hi0, hz0, hz1, hz2⟩ := info_parts Try.info5
  have hr := rb_lt hr
  have hn : (binOp .eql 38 (.slice (some ad) L.length c) (.slice none 0 0)).run Try.prog w = .ok (.bool false) w := Lib.run_eql_slice_nil w 38 5 (some ad) L.length c 0 0 Try.underlying38
  go_enter Try.func70, Try.ntmps70
  go_wp2_with (at_builtin; refine wpList_append_any _ rfl (.tmp 5) (.tmp 6) _ rfl w.heap.size 5 i0 _ 1 1 Try.underlying38 hi0 hz0 hz1 hz2 rfl (by omega) (.slice (some ⟨w.heap.size, 0, none⟩) 0 0) 0 [] rfl (World.ownsRow_made w #[] 0 (Nat.le_refl _) (by decide) rfl) w.heap.size (some ad) L.length c (cells L) rfl (hr.alloc (Nat.le_refl _) _) (cells_one _) (by simp only [maxLen]; omega) (by omega) (by simp) ?_; intro v5 w5 ho5 hg5 hat5; simp only [Nat.zero_add, List.nil_append] at ho5; have hb5 : Below w.heap.size w w5 := ((Below.refl _ _).alloc (Nat.le_refl _) _).grown hg5 (by simp) (by simp [Value.ownBlock]))
  obtain ⟨A3, c3, hv⟩ := own_form ho5
  go_ret
  exact ⟨A3, c3, by rw [hv]; rfl, by rw [hv] at ho5; exact ho5, hb5⟩
theorem clone_none (n c : Nat) (w : World) : Calls Try.prog 70 #[.slice none n c] w fun e w' => e = .returned (.slice none 0 0) ∧ w = w' := by
  have hn : (binOp .eql 38 (.slice none n c) (.slice none 0 0)).run Try.prog w = .ok (.bool true) w := Lib.run_eql_slice_nil w 38 5 none n c 0 0 Try.underlying38
  go_enter Try.func70, Try.ntmps70
  go_wp2
  go_ret
  exact ⟨rfl, rfl⟩
theorem clone_any (L : List UInt8) (A : Option Addr) (c B : Nat) (w : World) (hr : RB w B A L) (hl : L.length ≤ 140737488351232) :
    Calls Try.prog 70 #[.slice A L.length c] w (GivesOne L w) := by
  rcases A with _ | ad
  · have hL : L = [] := by
      rcases L with _ | ⟨x, L⟩
      · rfl
      · obtain ⟨ad, h, _⟩ := hr.2 (by simp)
        cases h
    subst hL
    refine (clone_none _ c w).mono fun e w' h => ?_
    obtain ⟨he, rfl⟩ := h
    exact ⟨none, 0, he, World.ownsRow_nil _ _ _ _, Below.refl _ _⟩
  · exact clone_some L ad c B w hr hl
end
section
open Go.RowKit
theorem u32_not (s : Nat) (h : s < 4294967296) : bits .xor .u32 IntKind.u32.max (s : Int) = ((s ^^^ 4294967295 : Nat) : Int) := by
  have e : IntKind.u32.max = ((4294967295 : Nat) : Int) := by rfl
  rw [e, u32_xor_nat _ _ (by omega) h, Nat.xor_comm]
theorem u32_byte (x : Nat) (b : UInt8) (h : x < 4294967296) : bits .xor .u32 (x : Int) ((b.toNat : Int) % 4294967296) = ((x ^^^ b.toNat : Nat) : Int) := by
  have hb := b.toNat_lt
  rw [Int.emod_eq_of_lt (by omega) (by omega), u32_xor_nat _ _ h (by omega)]
theorem u32_step (y : Nat) (h : y < 4294967296) :
    bits .xor .u32 ((y : Int) / 2) (bits .and .u32 2197175160 (-bits .and .u32 (y : Int) 1 % 4294967296)) = ((stp y : Nat) : Int) := by
  have e1 : bits .and .u32 (y : Int) 1 = ((y % 2 : Nat) : Int) := by
    have e : (1 : Int) = ((1 : Nat) : Int) := rfl
    rw [e, u32_and_nat _ _ h (by omega), Nat.and_one_is_mod]
  rw [e1]
  have e2 : ((y : Int) / 2) = ((y / 2 : Nat) : Int) := by omega
  have ep : (2197175160 : Int) = ((2197175160 : Nat) : Int) := rfl
  rw [e2, ep]
  unfold stp
  rcases (show y % 2 = 0 ∨ y % 2 = 1 by omega) with h0 | h0
  · rw [h0]
    have e3 : (-((0 : Nat) : Int) % 4294967296) = ((0 : Nat) : Int) := by decide
    rw [e3, u32_and_nat _ _ (by omega) (by omega), u32_xor_nat _ _ (by omega) (by decide), if_neg (by omega)]
    simp
  · rw [h0]
    have e3 : (-((1 : Nat) : Int) % 4294967296) = ((4294967295 : Nat) : Int) := by decide
    rw [e3, u32_and_nat _ _ (by omega) (by omega), u32_xor_nat _ _ (by omega) (by decide), if_pos rfl]
    rfl
theorem stps_succ (j x : Nat) : stps (j + 1) x = stp (stps j x) := by
  have := stps_add j 1 x
  simpa [stps] using this
theorem raw_take (c : Nat) (L : List UInt8) (k : Nat) (h : k < L.length) : raw c (L.take (k + 1)) = stps 8 (raw c (L.take k) ^^^ L[k].toNat) := by
  rw [List.take_succ_eq_append_getElem h, raw_append]
  rfl
end
section
open Go.RowKit
theorem isNumber_yes (n : Int) (w : World) (h0 : 0 ≤ n) (h1 : n ≤ 2147483647) : Calls Try.prog 76 #[.int .i64 n] w fun e w' => e = .returned (.bool true) ∧ w = w' := by
  go_enter Try.func76, Try.ntmps76
  go_wp2
  go_ret
  exact ⟨rfl, rfl⟩
end
end Go.Proofs.Ytghenhacndaelaa
