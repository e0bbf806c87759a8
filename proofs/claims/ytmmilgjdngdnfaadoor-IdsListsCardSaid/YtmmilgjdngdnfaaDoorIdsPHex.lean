/- The walk of the program's Hex (layer 4). -/
import Derived.Test.YtmmilgjdngdnfaaDoorIdsHex
import Derived.Laws.BitsAllLaws
set_option linter.unusedVariables false
namespace Go.Proofs.YtmmilgjdngdnfaaDoor
open Go.RowKit

set_option maxRecDepth 100000 in
set_option maxHeartbeats 1000000 in
theorem idsHex_any (L : Bs) (w : World) (hl : L.length ≤ 1000) : Calls Tryd.prog 28 #[.string (text L)] w fun e w' => e = .returned (.string (text (hexL L))) ∧ Below w.heap.size w w' := by
  obtain ⟨i0, hi0, hz0, hz1, hz2⟩ := info_parts Tryd.info5
  have hby : i0.bytes = 1 := hz2
  obtain ⟨t, ht⟩ : ∃ t, t = text L := ⟨_, rfl⟩
  obtain ⟨n, hn⟩ : ∃ n, n = L.length := ⟨_, rfl⟩
  have hts : t.size = n := by rw [ht, hn]; exact text_size L
  have HI : Hid (∀ k, k < n → ∀ V, (Instr.index 9 (.string t) (.int .i64 (k : Int))).run Tryd.prog V = .ok (.int .u8 ((L.getD k 0).toNat : Int)) V) := fun k hk V => by
    rw [ht]; exact index_text L .i64 k V (by omega)
  have HD : Hid (∀ k : Nat, k < 16 → ∀ V, (Instr.index 9 (.string { data := #[48, 49, 50, 51, 52, 53, 54, 55, 56, 57, 97, 98, 99, 100, 101, 102] }) (.int .u8 (k : Int))).run Tryd.prog V = .ok (.int .u8 ((hexd k).toNat : Int)) V) := fun k hk V => by
    rw [← hexD_text]; exact index_text hexD .u8 k V hk
  have HN := Lib.hid hn
  have hn1 : n ≤ 1000 := by omega
  obtain ⟨q, hq⟩ : ∃ q, q = 2 * n := ⟨_, rfl⟩
  have hq1 : q ≤ 2000 := by omega
  have e2n : (2 : Int) * (n : Int) = (q : Int) := by omega
  clear hq
  rw [← ht]
  clear ht hn
  go_enter Tryd.func28, Tryd.ntmps28
  go_wp2_with (first
    | (at_make; refine wpList_make_own _ rfl _ _ 39 rfl w.heap.size 5 i0 _ 1 Tryd.underlying39 hi0 hz0 hz1 .i64 .i64 _ q rfl rfl (by omega) (by rw [hby]; omega) (by unfold maxLen; omega) (Nat.le_refl _) ?_; intro w2 ho2 hg2))
  have b2 : Below w.heap.size w w2 := (Below.refl _ _).grown hg2 (Nat.le_refl _) (by simp)
  obtain ⟨v2, hv2⟩ : ∃ v2, v2 = Value.slice (some ⟨w.heap.size, 0, none⟩) 0 q := ⟨_, rfl⟩
  rw [← hv2] at ho2 ⊢
  clear hg2 hv2
  go_loopw [3, 4, 11] (fun v x4 i wr => ∃ (k y : Nat), k ≤ n ∧ i = .int .i64 (k : Int) ∧ Hid (y = 2 * k) ∧ y ≤ 2000 ∧ wr.ownsRow w.heap.size 5 1 v y (cells ((L.take k).flatMap hexB)) ∧ Below w.heap.size w wr) (fun _ _ i _ => n - (intOf i).toNat)
  case atStart => exact ⟨0, 0, by omega, rfl, rfl, by omega, ho2, b2⟩
  case round =>
    obtain ⟨k, y, hk, rfl, HY, hy, hown, hb⟩ := hrel
    have u0 : (0 : Int) ≤ (k : Int) := by omega
    by_cases hlt : k < n
    · have u1 : (k : Int) < (n : Int) := by omega
      obtain ⟨b, hbx⟩ : ∃ b, b = L.getD k 0 := ⟨_, rfl⟩
      have hb256 := b.toNat_lt
      have hi := HI.out k hlt
      rw [← hbx] at hi
      obtain ⟨q2, hq⟩ : ∃ q, q = b.toNat / 16 := ⟨_, rfl⟩
      obtain ⟨r, hr⟩ : ∃ r, r = b.toNat % 16 := ⟨_, rfl⟩
      have e1 : (b.toNat : Int) / 16 = (q2 : Int) := by omega
      have e2 : bits .and .u8 (b.toNat : Int) 15 = (r : Int) := by
        rw [show (15 : Int) = ((15 : Nat) : Int) from rfl, u8_and_nat _ _ hb256 (by omega), hr, show (15 : Nat) = 2 ^ 4 - 1 from rfl, Nat.and_two_pow_sub_one_eq_mod]
      have hq16 : q2 < 16 := by omega
      have eq8 : IntKind.u8.wrap (q2 : Int) = (q2 : Int) := by rw [IntKind.wrap_u8']; omega
      have er8 : IntKind.u8.wrap (r : Int) = (r : Int) := by rw [IntKind.wrap_u8']; omega
      have hr16 : r < 16 := by omega
      obtain ⟨x1, hx1⟩ : ∃ x, x = hexd q2 := ⟨_, rfl⟩
      obtain ⟨x2, hx2⟩ : ∃ x, x = hexd r := ⟨_, rfl⟩
      have hd1 := HD.out q2 hq16
      have hd2 := HD.out r hr16
      rw [← hx1] at hd1
      rw [← hx2] at hd2
      have HF : Hid ((L.take (k + 1)).flatMap hexB = (L.take k).flatMap hexB ++ [x1, x2]) := by
        show _ = _
        have hkL : k < L.length := by have := HN.out; omega
        have e : L[k] = b := by rw [hbx, List.getD, List.getElem?_eq_getElem hkL]; rfl
        rw [List.take_succ_eq_append_getElem hkL, List.flatMap_append, e, hx1, hx2, hq, hr]
        simp [hexB]
      have hyk : y < 2000 - 1 := by have := HY.out; have := HN.out; omega
      have HLt := Lib.hid hlt
      clear hbx hq hr hx1 hx2 HI HD hb256
      go_wp2
      have HNW := Lib.hid (show Reads (wr.alloc (.cells #[.int .u8 (x1.toNat : Int), .int .u8 (x2.toNat : Int)] 5)) (wr.heap.size + 1) 1 (some ⟨wr.heap.size, 0, none⟩) 2 (cells [x1, x2]) from rb_new wr [x1, x2])
      have hz8 := hb.size
      go_region_law (refine step_append_any _ rfl (.tmp 14) (.tmp 25) _ rfl w.heap.size 5 i0 _ 1 1 Tryd.underlying39 hi0 hz0 hz1 hz2 rfl (by omega) _ y (cells ((L.take k).flatMap hexB)) rfl (World.ownsRow.drew (World.ownsRow.alloc hown _)) (wr.heap.size + 1) (some ⟨wr.heap.size, 0, none⟩) 2 2 (cells [x1, x2]) rfl (Reads.drew HNW.out) (cells_one _) (by simp only [maxLen]; omega) (by omega) (by simp; omega) ?_; intro v9 w9 ho9 hg9 hat9; have hb9 : Below w.heap.size w w9 := (Below.drew (hb.alloc hz8 _)).grown hg9 (by show w.heap.size ≤ (wr.alloc _).heap.size; simp; omega) (fun q hq => (hown.lt q hq).1); rw [← cells_append, ← HF.out] at ho9)
      all_goals
        clear hown hb hg9 hat9 HNW
        go_wp2
        have hlt := HLt.out
        refine ⟨⟨k + 1, y + 2, by omega, by go_num, by show _ = _; rw [HY.out]; omega, by omega, ho9, hb9⟩, ?_⟩
        simp [intOf]; omega
    · have hfin : (L.take k).flatMap hexB = hexL L := by unfold hexL; rw [List.take_of_length_le (by have := HN.out; omega)]
      rw [hfin] at hown
      have hlen : (hexL L).length = y := by have := hown.1; rw [cells_length] at this; omega
      obtain ⟨A8, c8, rfl⟩ := own_form hown
      have hfr : RB wr wr.heap.size A8 (hexL L) := by refine Reads.of_own (base := w.heap.size) (e := 5) (c := c8) ?_; rw [hlen]; exact hown
      have est := aw_str hfr y c8 hlen.symm
      clear hfin hlen hown hfr HI HD
      go_wp2
      go_ret
      exact ⟨rfl, hb⟩

end Go.Proofs.YtmmilgjdngdnfaaDoor
