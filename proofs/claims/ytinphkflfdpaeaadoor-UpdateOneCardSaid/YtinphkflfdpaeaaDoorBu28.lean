/- Lemmas under the proofs of this place: ShaPTail. No statement is proved here. -/
import Derived.Test.YtinphkflfdpaeaaDoorBu25
set_option linter.unusedVariables false
set_option maxRecDepth 100000
set_option maxHeartbeats 16000000
namespace Go.Proofs.YtinphkflfdpaeaaDoor
open Go.RowKit
theorem tail_any (n : Nat) (w : World) (hn : n ≤ 1000000) :
    Calls Tryd.prog 82 #[.int .u64 (n : Int)] w fun e w' => ∃ g, w.heap.size ≤ g ∧ e = .returned (.slice (some ⟨g, 0, none⟩) (tailB n).length (tailB n).length) ∧ RB w' w'.heap.size (some ⟨g, 0, none⟩) (tailB n) ∧ Below w.heap.size w w' := by
  obtain ⟨i0, hi0, hz0, hz1, hz2⟩ := info_parts Tryd.info5
  have hby : i0.bytes = 1 := hz2
  obtain ⟨T, hT⟩ : ∃ T, T = 1 + noughts n + 8 := ⟨_, rfl⟩
  have hTn : T = noughts n + 9 := by omega
  have hno : noughts n < 64 := by unfold noughts; omega
  have n0 : (0 : Int) ≤ (n : Int) := by omega
  have e1 : IntKind.u64.wrap (119 - (n : Int) % 64) = ((119 - n % 64 : Nat) : Int) := by rw [IntKind.wrap_u64]; omega
  have e2 : ((119 - n % 64 : Nat) : Int) % 64 = (noughts n : Int) := by unfold noughts; omega
  have e3 : IntKind.u64.wrap (1 + (noughts n : Int)) = ((1 + noughts n : Nat) : Int) := by rw [IntKind.wrap_u64]; omega
  have e4 : IntKind.u64.wrap (((1 + noughts n : Nat) : Int) + 8) = (T : Int) := by rw [IntKind.wrap_u64]; omega
  have e5 : IntKind.u64.wrap ((n : Int) * 8) = ((8 * n : Nat) : Int) := by rw [IntKind.wrap_u64]; omega
  have HC0 : Hid (∀ W : World, Blk W w.heap.size 5 (List.replicate T (.int .u8 0)).toArray → W.cell? ⟨w.heap.size, 0, none⟩ = some (.int .u8 0)) := fun W h => by
    have h0 : 0 < T := by omega
    rw [h.cell 0]; simp [h0]
  have HT := Lib.hid hTn
  have t0 : (0 : Int) < (T : Int) := by omega
  have t1 : T ≤ 72 := by omega
  clear hT hTn
  go_enter Tryd.func82, Tryd.ntmps82
  go_wp2_with (first
    | (at_make; refine wpList_make_full _ rfl _ _ 29 rfl w.heap.size 5 i0 _ 1 Tryd.underlying29 hi0 hz0 hz1 .u64 .u64 _ _ T rfl rfl (by have := HT.out; omega) (by have := HT.out; omega) (by rw [hby]; omega) (by unfold maxLen; omega) (Nat.le_refl _) ?_; intro w1 hown hgrow; have m0 : Blk w1 w.heap.size 5 (List.replicate T (.int .u8 0)).toArray := made_block hown; have c0 : w1.cell? ⟨w.heap.size, 0, none⟩ = some (.int .u8 0) := HC0.out _ m0; have f0 : w1.frozen? ⟨w.heap.size, 0, none⟩ = false := m0.frozen 0; have HM := Lib.hid m0; clear m0))
  have hb1 : Below w.heap.size w w1 := (Below.refl _ _).grown hgrow (Nat.le_refl _) (by simp)
  have HB0 : Hid (Blk (w1.setCell ⟨w.heap.size, 0, none⟩ (.int .u8 128)) w.heap.size 5 (cells (tailK n 0)).toArray) := by
    have h := HM.out.set_ 0 (.int .u8 128)
    have e : (List.replicate T (Value.int .u8 0)).toArray.setIfInBounds 0 (.int .u8 128) = (cells (tailK n 0)).toArray := by
      rw [tailK_zero, HT.out, List.replicate_succ]
      apply Array.toList_inj.1
      simp [cells]
    rwa [e] at h
  clear HM hown hgrow c0 f0 e1 e2 e3 e4 HC0
  go_loopw [5, 6] (fun v i wr => ∃ k : Nat, k ≤ 8 ∧ v = .int .u64 ((8 * n / 256 ^ k : Nat) : Int) ∧ i = .int .i64 ((noughts n + 8 - k : Nat) : Int) ∧ Blk wr w.heap.size 5 (cells (tailK n k)).toArray ∧ Below w.heap.size w wr) (fun v _ _ => (intOf v).toNat)
  case atStart => exact ⟨0, by omega, by congr 1; simp, by have := HT.out; congr 1; omega, HB0.out, hb1.setCell (Nat.le_refl _) _⟩
  case round =>
    clear HB0 hb1 e5
    obtain ⟨k, hk, rfl, rfl, hB, hb⟩ := hrel
    obtain ⟨m, hm⟩ : ∃ m, m = 8 * n / 256 ^ k := ⟨_, rfl⟩
    rw [← hm]
    by_cases h0 : m = 0
    · have hTn := HT.out
      have hlast := tailK_last n k hk (by omega) (hm.symm.trans h0)
      have hlen : (tailB n).length = T := by rw [tailB_length]; omega
      have hrb : RB wr wr.heap.size (some ⟨w.heap.size, 0, none⟩) (tailB n) := by
        rw [hlast] at hB
        have hlt := hB.lt
        refine ⟨by rw [cells_length]; omega, fun _ => ⟨_, rfl, hlt, fun j u hu => ?_⟩⟩
        have e : (⟨w.heap.size, 0, none⟩ : Addr).add j = ⟨w.heap.size, j, none⟩ := by unfold Addr.add; split <;> simp_all
        rw [e, hB.cell j]
        simpa using hu
      subst h0
      clear hm hlast hB hTn
      have HLn := Lib.hid hlen
      clear hlen
      go_wp2
      go_ret
      exact ⟨w.heap.size, Nat.le_refl _, by rw [HLn.out]; rfl, hrb, hb⟩
    · have hk8 : k < 8 := by
        rcases Nat.lt_or_ge k 8 with h | h
        · exact h
        · have : k = 8 := by omega
          subst this
          exact absurd (hm.trans (Nat.div_eq_of_lt (by omega))) h0
      obtain ⟨x, hx⟩ : ∃ x, x = UInt8.ofNat m := ⟨_, rfl⟩
      have HN : Hid (Blk (wr.setCell ⟨w.heap.size, noughts n + 8 - k, none⟩ (.int .u8 (x.toNat : Int))) w.heap.size 5 (cells (tailK n (k + 1))).toArray) := by
        have := cblk_set hB (noughts n + 8 - k) x
        rw [hx, hm] at this ⊢
        rw [tailK_step n k hk8]
        exact this
      obtain ⟨yo, c1⟩ : ∃ y : UInt8, wr.cell? ⟨w.heap.size, noughts n + 8 - k, none⟩ = some (.int .u8 (y.toNat : Int)) := ⟨_, cblk_cell hB (by rw [tailK_length n k hk]; omega)⟩
      have f1 : wr.frozen? ⟨w.heap.size, noughts n + 8 - k, none⟩ = false := hB.frozen _
      have e7 : (m : Int) % 256 = (x.toNat : Int) := by rw [hx]; simp
      have e9 : 8 * n / 256 ^ (k + 1) = m / 256 := by rw [hm, Nat.pow_succ, Nat.div_div_eq_div_mul]
      have u0 : (0 : Int) < (m : Int) := by omega
      have u1 : ((noughts n + 8 - k : Nat) : Int) < (T : Int) := by have := HT.out; omega
      have HE9 := Lib.hid e9
      clear hm hB e9 hx
      go_wp2
      have e8 : (m : Int) / 256 = ((m / 256 : Nat) : Int) := by simp
      refine ⟨⟨k + 1, by omega, by rw [HE9.out, e8], by congr 1; omega, HN.out, hb.setCell (Nat.le_refl _) _⟩, ?_⟩
      simp only [intOf]
      omega
end Go.Proofs.YtinphkflfdpaeaaDoor
