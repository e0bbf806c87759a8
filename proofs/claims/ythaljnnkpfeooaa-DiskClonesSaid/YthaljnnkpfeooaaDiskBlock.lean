/- The walk of layer 6's Block: bytes again and again; and of the reference's may. -/
import Derived.Test.YthaljnnkpfeooaaMem
import Derived.Test.YthaljnnkpfeooaaLaw
set_option linter.unusedVariables false
namespace Go.Proofs.Ythaljnnkpfeooaa
open Go.RowKit

/-- The first k bytes of a block are laid. -/
def blockK (b : List UInt8) : Nat → List UInt8
  | 0 => List.replicate 256 0
  | k + 1 => (blockK b k).set k (b.getD (k % b.length) 0)
def blockL (b : List UInt8) : List UInt8 := if b.length = 0 then List.replicate 256 0 else blockK b 256
theorem blockK_length (b : List UInt8) : ∀ k, (blockK b k).length = 256
  | 0 => List.length_replicate ..
  | k + 1 => by rw [blockK, List.length_set, blockK_length b k]
theorem blockL_length (b : List UInt8) : (blockL b).length = 256 := by
  unfold blockL; split
  · exact List.length_replicate ..
  · exact blockK_length b 256
theorem made_blk {w w1 : World} {n : Nat} (hown : w1.ownsRow w.heap.size 5 1 (.slice (some ⟨w.heap.size, 0, none⟩) n n) n (madeCells (Value.int .u8 0).cells (n * 1)).toList) : Blk w1 w.heap.size 5 (cells (List.replicate n 0)).toArray := by
  have h := made_block hown
  have e : (cells (List.replicate n 0)).toArray = (List.replicate n (Value.int .u8 0)).toArray := by simp [cells]
  unfold Blk
  rw [e]; exact h
theorem rb_blk6 {w : World} {g : Nat} {t : TypeId} {L : List UInt8} (h : Blk w g t (cells L).toArray) : RB w w.heap.size (some ⟨g, 0, none⟩) L := by
  refine ⟨by simp [cells_length], fun h0 => ⟨_, rfl, h.lt, fun j u hu => ?_⟩⟩
  have e : (⟨g, 0, none⟩ : Addr).add j = ⟨g, j, none⟩ := by unfold Addr.add; split <;> simp_all
  rw [e, (blk_cell h j).1]
  simpa using hu

theorem cells_at6 (L : List UInt8) {k : Nat} (hk : k < L.length) : (cells L).toArray[k]? = some (.int .u8 ((L.getD k 0).toNat : Int)) := by
  simp [cells, List.getD, List.getElem?_eq_getElem hk]
theorem cblk_cell6 {w : World} {g : Nat} {t : TypeId} {L : List UInt8} (h : Blk w g t (cells L).toArray) {k : Nat} (hk : k < L.length) : w.cell? ⟨g, k, none⟩ = some (.int .u8 ((L.getD k 0).toNat : Int)) := by
  rw [h.cell k, cells_at6 L hk]
theorem cblk_set6 {w : World} {g : Nat} {t : TypeId} {L : List UInt8} (h : Blk w g t (cells L).toArray) (k : Nat) (x : UInt8) : Blk (w.setCell ⟨g, k, none⟩ (.int .u8 (x.toNat : Int))) g t (cells (L.set k x)).toArray := by
  have h1 := h.set_ k (.int .u8 (x.toNat : Int))
  have e : (cells L).toArray.setIfInBounds k (.int .u8 (x.toNat : Int)) = (cells (L.set k x)).toArray := by
    apply Array.toList_inj.1
    simp [cells, List.map_set]
  rwa [e] at h1
set_option maxRecDepth 100000 in
set_option maxHeartbeats 1000000 in
theorem block_any (L : List UInt8) (A : Option Addr) (n c : Nat) (w : World) (hr : RB w w.heap.size A L) (hn : n = L.length) (hl : L.length ≤ 100000) :
    Calls Try.prog 24 #[.slice A n c] w fun e w' => ∃ g, e = .returned (.slice (some ⟨g, 0, none⟩) 256 256) ∧ w.heap.size ≤ g ∧ Blk w' g 5 (cells (blockL L)).toArray ∧ Below w.heap.size w w' := by
  obtain ⟨i0, hi0, hz0, hz1, hz2⟩ := info_parts Try.info5
  have hby : i0.bytes = 1 := hz2
  have HN := Lib.hid hn
  have HR : Hid (0 < L.length → ∃ b off, A = some ⟨b, off, none⟩ ∧ b < w.heap.size ∧ ∀ k (hk : k < L.length), w.cell? ⟨b, off + k, none⟩ = some (.int .u8 (L[k].toNat : Int))) := fun h => hr.at_ h
  clear hr hn
  go_enter Try.func24, Try.ntmps24
  go_wp2_with (first
    | (at_make; refine wpList_make_full _ rfl _ _ 33 rfl w.heap.size 5 i0 _ 1 Try.underlying33 hi0 hz0 hz1 .i64 .i64 _ _ 256 rfl rfl rfl rfl (by rw [hby]; omega) (by unfold maxLen; omega) (Nat.le_refl _) ?_; intro w2 ho2 hg2))
  have b2 : Below w.heap.size w w2 := (Below.refl _ _).grown hg2 (Nat.le_refl _) (by simp)
  have k2 : Blk w2 w.heap.size 5 (cells (blockK L 0)).toArray := made_blk ho2
  clear ho2 hg2
  obtain ⟨g, hg⟩ : ∃ g, g = w.heap.size := ⟨_, rfl⟩
  have HG : Hid (w.heap.size ≤ g) := by show _ ≤ _; omega
  rw [← hg] at k2
  rw [← hg]
  clear hg
  go_loopw [4] (fun v wr => ∃ k : Nat, k ≤ 256 ∧ v = .int .i64 (k : Int) ∧ Hid (L.length = 0 → k = 0) ∧ Blk wr g 5 (cells (blockK L k)).toArray ∧ Below w.heap.size w wr) (fun v _ => 256 - (intOf v).toNat)
  case atStart => exact ⟨0, by omega, rfl, fun _ => rfl, k2, b2⟩
  case round =>
    clear k2 b2
    obtain ⟨k, hk, rfl, HZ, hB, hb⟩ := hrel
    have u0 : (0 : Int) ≤ (k : Int) := by omega
    by_cases hlt : k < 256
    · have u1 : (k : Int) < 256 := by omega
      by_cases h0 : 0 < n
      · have hL0 : 0 < L.length := by have := HN.out; omega
        obtain ⟨b, off, rfl, hbb, hcc⟩ := HR.out hL0
        obtain ⟨r, hrr⟩ : ∃ r, r = k % n := ⟨_, rfl⟩
        have hrn : r < n := by rw [hrr]; exact Nat.mod_lt _ h0
        have hrL : r < L.length := by have := HN.out; omega
        obtain ⟨x, hx⟩ : ∃ x, x = L.getD r 0 := ⟨_, rfl⟩
        have hck := hcc r hrL
        have hxe : L[r] = x := by rw [hx, List.getD, List.getElem?_eq_getElem hrL]; rfl
        rw [hxe, ← hb.cell (p := ⟨b, off + r, none⟩) hbb] at hck
        have em : (k : Int) % (n : Int) = (r : Int) := by rw [hrr]; omega
        have em2 : (k : Int).tmod (n : Int) = (r : Int) := by rw [Int.tmod_eq_emod_of_nonneg u0]; exact em
        have hne : ¬ (n : Int) = 0 := by omega
        have u2 : (r : Int) < (n : Int) := by omega
        have u3 : (0 : Int) < (n : Int) := by omega
        have f3 : wr.frozen? ⟨g, k, none⟩ = false := hB.frozen _
        have c3 := cblk_cell6 hB (k := k) (by rw [blockK_length]; exact hlt)
        have HB2 : Hid (Blk (wr.setCell ⟨g, k, none⟩ (.int .u8 (x.toNat : Int))) g 5 (cells (blockK L (k + 1))).toArray) := by
          have := cblk_set6 hB k x
          rw [hx, hrr, HN.out] at this
          rw [hx, hrr, HN.out, blockK]
          exact this
        have HL0 := Lib.hid hL0
        clear hcc hx hxe hrL hbb hB hrr hL0
        go_wp2
        refine ⟨⟨k + 1, by omega, by go_num, fun h => absurd h (by have := HL0.out; omega), HB2.out, hb.setCell (p := ⟨g, k, none⟩) HG.out _⟩, ?_⟩
        simp [intOf]; omega
      · have hn0 : n = 0 := by omega
        have hL0 : L.length = 0 := by have := HN.out; omega
        have hk0 := HZ.out hL0
        have HV : Hid (blockL L = blockK L k) := by show _ = _; unfold blockL; rw [if_pos hL0, hk0]; rfl
        subst hn0
        clear HZ hL0 hk0 h0
        go_wp2
        go_ret
        exact ⟨g, rfl, HG.out, by rw [HV.out]; exact hB, hb⟩
    · have hk256 : k = 256 := by omega
      have HV : Hid (blockL L = blockK L k) := by
        show _ = _
        unfold blockL
        split
        · rename_i h; have := HZ.out h; omega
        · rw [hk256]
      have u2 : ¬ (k : Int) < 256 := by omega
      have d0 : decide ((k : Int) < 256) = false := decide_eq_false u2
      clear hk256 HZ
      go_wp2
      go_ret
      exact ⟨g, rfl, HG.out, by rw [HV.out]; exact hB, hb⟩

set_option maxRecDepth 100000 in
theorem may_any (i : Int) (w : World) : Calls Try.prog 32 #[.int .i64 i] w fun e w' => e = .returned (.bool (decide (16 ≤ i ∧ i ≤ 1024))) ∧ w = w' := by
  by_cases h1 : 16 ≤ i
  · by_cases h2 : i ≤ 1024
    · have HV : Hid (decide (16 ≤ i ∧ i ≤ 1024) = true) := decide_eq_true ⟨h1, h2⟩
      have d1 : decide (i ≥ 16) = true := decide_eq_true h1
      have d2 : decide (i ≤ 1024) = true := decide_eq_true h2
      go_enter Try.func32, Try.ntmps32
      go_wp2
      go_ret
      exact ⟨by first | rfl | (rw [HV.out]; rfl), rfl⟩
    · have HV : Hid (decide (16 ≤ i ∧ i ≤ 1024) = false) := decide_eq_false fun h => h2 h.2
      have d1 : decide (i ≥ 16) = true := decide_eq_true h1
      have d2 : decide (i ≤ 1024) = false := decide_eq_false h2
      go_enter Try.func32, Try.ntmps32
      go_wp2
      go_ret
      exact ⟨by first | rfl | (rw [HV.out]; rfl), rfl⟩
  · have HV : Hid (decide (16 ≤ i ∧ i ≤ 1024) = false) := decide_eq_false fun h => h1 h.1
    have d1 : decide (i ≥ 16) = false := decide_eq_false h1
    have d2 : decide ((16 : Int) ≤ i) = false := decide_eq_false h1
    go_enter Try.func32, Try.ntmps32
    go_wp2
    go_ret
    exact ⟨by first | rfl | (rw [HV.out]; rfl), rfl⟩

end Go.Proofs.Ythaljnnkpfeooaa
