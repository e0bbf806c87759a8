/- Lemmas under the proofs of this place: DiskBlock, SupWholeM, Cells6. No statement is proved here. -/
import Derived.Test.YtkockhggnbfahaaBu04
import Derived.Test.YtkockhggnbfahaaBu02
import Derived.Test.YtkockhggnbfahaaBu05
section
set_option linter.unusedVariables false
namespace Go.Proofs.Ytkockhggnbfahaa
open Go.RowKit
def blockK (b : List UInt8) : Nat → List UInt8
  | 0 => List.replicate 256 0
  | k + 1 => (blockK b k).set k (b.getD (k % b.length) 0)
def blockL (b : List UInt8) : List UInt8 := if b.length = 0 then List.replicate 256 0 else blockK b 256
theorem blockK_length (b : List UInt8) : ∀ k, (blockK b k).length = 256
  | 0 => List.length_replicate ..
  | k + 1 => by rw [blockK, List.length_set, blockK_length b k]
theorem blockL_length (b : List UInt8) : (blockL b).length = 256 := by
  unfold blockL; split
  · exact List.length_replicate ..
  · exact blockK_length b 256
theorem made_blk {w w1 : World} {n : Nat} (hown : w1.ownsRow w.heap.size 5 1 (.slice (some ⟨w.heap.size, 0, none⟩) n n) n (madeCells (Value.int .u8 0).cells (n * 1)).toList) : Blk w1 w.heap.size 5 (cells (List.replicate n 0)).toArray := by
  have h := made_block hown
  have e : (cells (List.replicate n 0)).toArray = (List.replicate n (Value.int .u8 0)).toArray := by simp [cells]
  unfold Blk
  rw [e]; exact h
theorem rb_blk6 {w : World} {g : Nat} {t : TypeId} {L : List UInt8} (h : Blk w g t (cells L).toArray) : RB w w.heap.size (some ⟨g, 0, none⟩) L := by
  refine ⟨by simp [cells_length], fun h0 => ⟨_, rfl, h.lt, fun j u hu => ?_⟩⟩
  have e : (⟨g, 0, none⟩ : Addr).add j = ⟨g, j, none⟩ := by unfold Addr.add; split <;> simp_all
  rw [e, (blk_cell h j).1]
  simpa using hu
theorem cells_at6 (L : List UInt8) {k : Nat} (hk : k < L.length) : (cells L).toArray[k]? = some (.int .u8 ((L.getD k 0).toNat : Int)) := by
  simp [cells, List.getD, List.getElem?_eq_getElem hk]
theorem cblk_cell6 {w : World} {g : Nat} {t : TypeId} {L : List UInt8} (h : Blk w g t (cells L).toArray) {k : Nat} (hk : k < L.length) : w.cell? ⟨g, k, none⟩ = some (.int .u8 ((L.getD k 0).toNat : Int)) := by
  rw [h.cell k, cells_at6 L hk]
theorem cblk_set6 {w : World} {g : Nat} {t : TypeId} {L : List UInt8} (h : Blk w g t (cells L).toArray) (k : Nat) (x : UInt8) : Blk (w.setCell ⟨g, k, none⟩ (.int .u8 (x.toNat : Int))) g t (cells (L.set k x)).toArray := by
  have h1 := h.set_ k (.int .u8 (x.toNat : Int))
  have e : (cells L).toArray.setIfInBounds k (.int .u8 (x.toNat : Int)) = (cells (L.set k x)).toArray := by
    apply Array.toList_inj.1
    simp [cells, List.map_set]
  rwa [e] at h1
set_option maxRecDepth 100000 in
set_option maxHeartbeats 1000000 in
theorem block_any (L : List UInt8) (A : Option Addr) (n c : Nat) (w : World) (hr : RB w w.heap.size A L) (hn : n = L.length) (hl : L.length ≤ 100000) :
    Calls Try.prog 39 #[.slice A n c] w fun e w' => ∃ g, e = .returned (.slice (some ⟨g, 0, none⟩) 256 256) ∧ w.heap.size ≤ g ∧ Blk w' g 5 (cells (blockL L)).toArray ∧ Below w.heap.size w w' := by
  obtain ⟨i0, hi0, hz0, hz1, hz2⟩ := info_parts Try.info5
  have hby : i0.bytes = 1 := hz2
  have HN := Lib.hid hn
  have HR : Hid (0 < L.length → ∃ b off, A = some ⟨b, off, none⟩ ∧ b < w.heap.size ∧ ∀ k (hk : k < L.length), w.cell? ⟨b, off + k, none⟩ = some (.int .u8 (L[k].toNat : Int))) := fun h => hr.at_ h
  clear hr hn
  go_enter Try.func39, Try.ntmps39
  go_wp2_with (first
    | (at_make; refine wpList_make_full _ rfl _ _ 26 rfl w.heap.size 5 i0 _ 1 Try.underlying26 hi0 hz0 hz1 .i64 .i64 _ _ 256 rfl rfl rfl rfl (by rw [hby]; omega) (by unfold maxLen; omega) (Nat.le_refl _) ?_; intro w2 ho2 hg2))
  have b2 : Below w.heap.size w w2 := (Below.refl _ _).grown hg2 (Nat.le_refl _) (by simp)
  have k2 : Blk w2 w.heap.size 5 (cells (blockK L 0)).toArray := made_blk ho2
  clear ho2 hg2
  obtain ⟨g, hg⟩ : ∃ g, g = w.heap.size := ⟨_, rfl⟩
  have HG : Hid (w.heap.size ≤ g) := by show _ ≤ _; omega
  rw [← hg] at k2
  rw [← hg]
  clear hg
  go_loopw [4] (fun v wr => ∃ k : Nat, k ≤ 256 ∧ v = .int .i64 (k : Int) ∧ Hid (L.length = 0 → k = 0) ∧ Blk wr g 5 (cells (blockK L k)).toArray ∧ Below w.heap.size w wr) (fun v _ => 256 - (intOf v).toNat)
  case atStart => exact ⟨0, by omega, rfl, fun _ => rfl, k2, b2⟩
  case round =>
    clear k2 b2
    obtain ⟨k, hk, rfl, HZ, hB, hb⟩ := hrel
    have u0 : (0 : Int) ≤ (k : Int) := by omega
    by_cases hlt : k < 256
    · have u1 : (k : Int) < 256 := by omega
      by_cases h0 : 0 < n
      · have hL0 : 0 < L.length := by have := HN.out; omega
        obtain ⟨b, off, rfl, hbb, hcc⟩ := HR.out hL0
        obtain ⟨r, hrr⟩ : ∃ r, r = k % n := ⟨_, rfl⟩
        have hrn : r < n := by rw [hrr]; exact Nat.mod_lt _ h0
        have hrL : r < L.length := by have := HN.out; omega
        obtain ⟨x, hx⟩ : ∃ x, x = L.getD r 0 := ⟨_, rfl⟩
        have hck := hcc r hrL
        have hxe : L[r] = x := by rw [hx, List.getD, List.getElem?_eq_getElem hrL]; rfl
        rw [hxe, ← hb.cell (p := ⟨b, off + r, none⟩) hbb] at hck
        have em : (k : Int) % (n : Int) = (r : Int) := by rw [hrr]; omega
        have em2 : (k : Int).tmod (n : Int) = (r : Int) := by rw [Int.tmod_eq_emod_of_nonneg u0]; exact em
        have hne : ¬ (n : Int) = 0 := by omega
        have u2 : (r : Int) < (n : Int) := by omega
        have u3 : (0 : Int) < (n : Int) := by omega
        have f3 : wr.frozen? ⟨g, k, none⟩ = false := hB.frozen _
        have c3 := cblk_cell6 hB (k := k) (by rw [blockK_length]; exact hlt)
        have HB2 : Hid (Blk (wr.setCell ⟨g, k, none⟩ (.int .u8 (x.toNat : Int))) g 5 (cells (blockK L (k + 1))).toArray) := by
          have := cblk_set6 hB k x
          rw [hx, hrr, HN.out] at this
          rw [hx, hrr, HN.out, blockK]
          exact this
        have HL0 := Lib.hid hL0
        clear hcc hx hxe hrL hbb hB hrr hL0
        go_wp2
        refine ⟨⟨k + 1, by omega, by go_num, fun h => absurd h (by have := HL0.out; omega), HB2.out, hb.setCell (p := ⟨g, k, none⟩) HG.out _⟩, ?_⟩
        simp [intOf]; omega
      · have hn0 : n = 0 := by omega
        have hL0 : L.length = 0 := by have := HN.out; omega
        have hk0 := HZ.out hL0
        have HV : Hid (blockL L = blockK L k) := by show _ = _; unfold blockL; rw [if_pos hL0, hk0]; rfl
        subst hn0
        clear HZ hL0 hk0 h0
        go_wp2
        go_ret
        exact ⟨g, rfl, HG.out, by rw [HV.out]; exact hB, hb⟩
    · have hk256 : k = 256 := by omega
      have HV : Hid (blockL L = blockK L k) := by
        show _ = _
        unfold blockL
        split
        · rename_i h; have := HZ.out h; omega
        · rw [hk256]
      have u2 : ¬ (k : Int) < 256 := by omega
      have d0 : decide ((k : Int) < 256) = false := decide_eq_false u2
      clear hk256 HZ
      go_wp2
      go_ret
      exact ⟨g, rfl, HG.out, by rw [HV.out]; exact hB, hb⟩
set_option maxRecDepth 100000 in
theorem may_any (i : Int) (w : World) : Calls Try.prog 44 #[.int .i64 i] w fun e w' => e = .returned (.bool (decide (16 ≤ i ∧ i ≤ 1024))) ∧ w = w' := by
  by_cases h1 : 16 ≤ i
  · by_cases h2 : i ≤ 1024
    · have HV : Hid (decide (16 ≤ i ∧ i ≤ 1024) = true) := decide_eq_true ⟨h1, h2⟩
      have d1 : decide (i ≥ 16) = true := decide_eq_true h1
      have d2 : decide (i ≤ 1024) = true := decide_eq_true h2
      go_enter Try.func44, Try.ntmps44
      go_wp2
      go_ret
      exact ⟨by first | rfl | (rw [HV.out]; rfl), rfl⟩
    · have HV : Hid (decide (16 ≤ i ∧ i ≤ 1024) = false) := decide_eq_false fun h => h2 h.2
      have d1 : decide (i ≥ 16) = true := decide_eq_true h1
      have d2 : decide (i ≤ 1024) = false := decide_eq_false h2
      go_enter Try.func44, Try.ntmps44
      go_wp2
      go_ret
      exact ⟨by first | rfl | (rw [HV.out]; rfl), rfl⟩
  · have HV : Hid (decide (16 ≤ i ∧ i ≤ 1024) = false) := decide_eq_false fun h => h1 h.1
    have d1 : decide (i ≥ 16) = false := decide_eq_false h1
    have d2 : decide ((16 : Int) ≤ i) = false := decide_eq_false h1
    go_enter Try.func44, Try.ntmps44
    go_wp2
    go_ret
    exact ⟨by first | rfl | (rw [HV.out]; rfl), rfl⟩
end Go.Proofs.Ytkockhggnbfahaa
end
section
set_option linter.unusedVariables false
namespace Go.Proofs.Ytkockhggnbfahaa
def Pu.block (s : Pu) : List UInt8 := s.bytes ++ List.replicate 192 0
theorem Pu.block_length (s : Pu) : s.block.length = 256 := by unfold Pu.block; rw [List.length_append, s.bytes_length, List.length_replicate]
theorem Pu.block_take (s : Pu) : s.block.take 64 = s.bytes := by unfold Pu.block; rw [List.take_append_of_le_length (by rw [s.bytes_length]; omega), List.take_of_length_le (by rw [s.bytes_length]; omega)]
def zeros256 : List UInt8 := List.replicate 256 0
theorem slot_block {s : Pu} (h : s.may = true) {n k : Int} (hb : s.blocks = n) (hg : s.gen % 2 = k) {b : List UInt8} (ht : b.take 64 = s.bytes) : slotU n k b = some s := by
  unfold slotU
  rw [ht, getU_put s h, if_pos ⟨rfl, hb, hg⟩]
theorem sum_zeros : openL (List.replicate 64 0) = none := by
  unfold openL
  rw [if_neg]
  intro h
  have h3 : sealL ((List.replicate 64 (0 : UInt8)).take ((List.replicate 64 (0 : UInt8)).length - 4)) ≠ List.replicate 64 0 := by decide +kernel
  exact h3 h.2
theorem getU_zeros : getU (List.replicate 64 0) = (.zero, 12) := by
  have h1 : getS (List.replicate 64 0) = (.zero, 12) := getS_sum (by simp) sum_zeros
  unfold getU
  rw [h1]
  rfl
theorem slot_zeros {n k : Int} {b : List UInt8} (ht : b.take 64 = List.replicate 64 0) : slotU n k b = none := by
  unfold slotU
  rw [ht, getU_zeros, if_neg]
  intro h
  have := h.1
  simp at this
def dk2 (b0 b1 : List UInt8) : List (List UInt8) := b0 :: b1 :: List.replicate 14 zeros256
theorem readU_calm (b0 b1 : List UInt8) (l : Int) (r w f : Nat) : readU ⟨dk2 b0 b1, [], l, false, r, w, f⟩ = (⟨dk2 b0 b1, [], l, false, r + 2, w, f⟩, bestU 16 b0 b1) := by
  have h0 : (Dk.read ⟨dk2 b0 b1, [], l, false, r, w, f⟩ 0) = (⟨dk2 b0 b1, [], l, false, r + 1, w, f⟩, b0, 0) := rfl
  have h1 : (Dk.read ⟨dk2 b0 b1, [], l, false, r + 1, w, f⟩ 1) = (⟨dk2 b0 b1, [], l, false, r + 1 + 1, w, f⟩, b1, 0) := rfl
  unfold readU
  rw [h0]
  simp only [ne_eq, not_true, if_false]
  rw [h1]
  simp only [not_true, if_false]
  rfl
theorem write_dk2 (b0 b1 : List UInt8) (l : Int) (r w f : Nat) (k : Nat) (hk : k < 2) (b : List UInt8) (hb : b.length = 256) (hl : -1 ≤ l) : Dk.write ⟨dk2 b0 b1, [], l, false, r, w, f⟩ (k : Int) b = if l = 0 then (⟨dk2 b0 b1, [(k, b)], 0, true, r, w, f⟩, 9) else (⟨dk2 b0 b1, [(k, b)], if 0 < l then l - 1 else l, false, r, w + 1, f⟩, 0) := by
  unfold Dk.write
  have ht : Dk.there ⟨dk2 b0 b1, [], l, false, r, w, f⟩ (k : Int) = true := by
    unfold Dk.there dk2
    simp
    omega
  rw [ht]
  simp only [Bool.false_eq_true, if_false, Bool.not_true, hb, ne_eq, not_true, List.nil_append, Int.toNat_natCast]
  unfold Dk.deed
  by_cases h0 : l = 0
  · subst h0; rfl
  · simp only [h0, if_false]
    by_cases h1 : 0 < l
    · simp only [h1, if_true]
    · simp only [h1, if_false]
theorem flush_dk2 (b0 b1 : List UInt8) (l : Int) (r w f : Nat) (k : Nat) (b : List UInt8) : Dk.flush ⟨dk2 b0 b1, [(k, b)], l, false, r, w, f⟩ = if l = 0 then (⟨dk2 b0 b1, [(k, b)], 0, true, r, w, f⟩, 9) else (⟨(dk2 b0 b1).set k b, [], if 0 < l then l - 1 else l, false, r, w, f + 1⟩, 0) := by
  unfold Dk.flush Dk.deed
  by_cases h0 : l = 0
  · subst h0; rfl
  · simp only [Bool.false_eq_true, if_false, h0]
    by_cases h1 : 0 < l
    · simp only [h1, if_true]; rfl
    · simp only [h1, if_false]; rfl
theorem writeU_dk2 (b0 b1 : List UInt8) (l : Int) (r w f : Nat) (s : Pu) (h : s.may = true) (hb : s.blocks = 16) (k : Nat) (hk : k < 2) (hg : s.gen % 2 = (k : Int)) (hl : -1 ≤ l) :
    writeU ⟨dk2 b0 b1, [], l, false, r, w, f⟩ s = if l = 0 then (⟨dk2 b0 b1, [(k, s.block)], 0, true, r, w, f⟩, 9) else if l = 1 then (⟨dk2 b0 b1, [(k, s.block)], 0, true, r, w + 1, f⟩, 9) else (⟨(dk2 b0 b1).set k s.block, [], if 0 < l then l - 2 else l, false, r, w + 1, f + 1⟩, 0) := by
  have hw := write_dk2 b0 b1 l r w f k hk s.block s.block_length hl
  have hn : s.blocks = ((dk2 b0 b1).length : Int) := by rw [hb]; rfl
  unfold writeU
  rw [h]
  simp only [Bool.true_eq_false, if_false]
  rw [if_neg (fun hh => hh hn), hg]
  show (if (Dk.write _ (k : Int) s.block).2 ≠ 0 then Dk.write _ (k : Int) s.block else (Dk.write _ (k : Int) s.block).1.flush) = _
  rw [hw]
  by_cases h0 : l = 0
  · rw [if_pos h0, if_pos h0]; rfl
  · rw [if_neg h0, if_neg h0]
    simp only [ne_eq, not_true, if_false]
    rw [flush_dk2]
    by_cases h1 : l = 1
    · subst h1; rfl
    · rw [if_neg h1]
      by_cases h2 : 0 < l
      · rw [if_pos h2, if_pos h2, if_neg (by omega), if_pos (by omega)]
        congr 2; omega
      · rw [if_neg h2, if_neg h2, if_neg h0, if_neg h2]
theorem dk2_set (b0 b1 b : List UInt8) (k : Nat) (hk : k < 2) : (dk2 b0 b1).set k b = if k = 0 then dk2 b b1 else dk2 b0 b := by
  match k, hk with
  | 0, _ => rfl
  | 1, _ => rfl
theorem torn_first (was b : List UInt8) (m : Int) (h1 : was.length = 256) (h2 : b.length = 256) : (Dk.torn was b m).take 64 = b.take 64 ∨ (Dk.torn was b m).take 64 = was.take 64 := by
  have h := Dk.torn_sector was b m 0 (by omega) h1 h2
  have e : ∀ x : List UInt8, Dk.sector x 0 = x.take 64 := fun x => by unfold Dk.sector; rw [Nat.mul_zero, List.drop_zero]
  rw [e, e] at h
  rw [h]
  split
  · exact .inl rfl
  · exact .inr rfl
theorem crash_dk2 (b0 b1 : List UInt8) (l : Int) (o : Bool) (r w f : Nat) (k : Nat) (hk : k < 2) (b : List UInt8) (masks : List Int) (h0 : b0.length = 256) (h1 : b1.length = 256) (hb : b.length = 256) :
    ∃ x, (x.take 64 = b.take 64 ∨ x.take 64 = (if k = 0 then b0 else b1).take 64) ∧ Dk.crash ⟨dk2 b0 b1, [(k, b)], l, o, r, w, f⟩ masks = ⟨if k = 0 then dk2 x b1 else dk2 b0 x, [], -1, false, r, w, f⟩ := by
  unfold Dk.crash Dk.crashed
  by_cases hm : 0 < masks.length
  · rw [if_pos hm]
    have hw : (dk2 b0 b1).getD k [] = if k = 0 then b0 else b1 := by
      match k, hk with
      | 0, _ => rfl
      | 1, _ => rfl
    refine ⟨Dk.torn ((dk2 b0 b1).getD k []) b (masks.getD 0 0), ?_, ?_⟩
    · rw [hw]
      exact torn_first _ b _ (by split <;> assumption) hb
    · rw [← dk2_set _ _ _ k hk]; rfl
  · rw [if_neg hm]
    refine ⟨if k = 0 then b0 else b1, .inr rfl, ?_⟩
    match k, hk with
    | 0, _ => rfl
    | 1, _ => rfl
theorem best_two {n : Int} {b0 b1 : List UInt8} {s t : Pu} (h0 : slotU n 0 b0 = some s) (h1 : slotU n 1 b1 = some t) : bestU n b0 b1 = if t.gen > s.gen then (t, 0) else (s, 0) := by unfold bestU; rw [h0, h1]
theorem best_first {n : Int} {b0 b1 : List UInt8} {s : Pu} (h0 : slotU n 0 b0 = some s) (h1 : slotU n 1 b1 = none) : bestU n b0 b1 = (s, 0) := by unfold bestU; rw [h0, h1]
theorem best_second {n : Int} {b0 b1 : List UInt8} {t : Pu} (h0 : slotU n 0 b0 = none) (h1 : slotU n 1 b1 = some t) : bestU n b0 b1 = (t, 0) := by unfold bestU; rw [h0, h1]
theorem read_slots (a b : Pu) (ha : a.may = true) (hb : b.may = true) (hab : a.blocks = 16) (hbb : b.blocks = 16) (hg : b.gen = a.gen + 1) (k : Nat) (hk : k < 2) (hak : a.gen % 2 = (k : Int)) (x y : List UInt8) (hx : x.take 64 = a.bytes) :
    (y.take 64 = b.bytes → bestU 16 (if k = 0 then x else y) (if k = 0 then y else x) = (b, 0)) ∧ (y.take 64 = List.replicate 64 0 → bestU 16 (if k = 0 then x else y) (if k = 0 then y else x) = (a, 0)) := by
  match k, hk with
  | 0, _ =>
    simp only [if_true]
    have sa := slot_block ha hab (k := 0) (by omega) hx
    refine ⟨fun hy => ?_, fun hy => ?_⟩
    · rw [best_two sa (slot_block hb hbb (k := 1) (by omega) hy), if_pos (by omega)]
    · exact best_first sa (slot_zeros hy)
  | 1, _ =>
    simp only [Nat.one_ne_zero, if_false]
    have sa := slot_block ha hab (k := 1) (by omega) hx
    refine ⟨fun hy => ?_, fun hy => ?_⟩
    · rw [best_two (slot_block hb hbb (k := 0) (by omega) hy) sa, if_neg (by omega)]
    · exact best_second (slot_zeros hy) sa
def dkA (a : Pu) (k : Nat) : List (List UInt8) := if k = 0 then dk2 a.block zeros256 else dk2 zeros256 a.block
theorem write_first (a : Pu) (ha : a.may = true) (hab : a.blocks = 16) (k : Nat) (hk : k < 2) (hak : a.gen % 2 = (k : Int)) : writeU (Dk.blank 16) a = (⟨dkA a k, [], -1, false, 0, 1, 1⟩, 0) := by
  have h := writeU_dk2 zeros256 zeros256 (-1) 0 0 0 a ha hab k hk hak (by omega)
  have e : Dk.blank 16 = ⟨dk2 zeros256 zeros256, [], -1, false, 0, 0, 0⟩ := rfl
  rw [e, h, if_neg (by omega), if_neg (by omega), if_neg (by omega), dk2_set _ _ _ k hk]
  rfl
theorem super_whole (a b : Pu) (ha : a.may = true) (hb : b.may = true) (hab : a.blocks = 16) (hbb : b.blocks = 16) (hg : b.gen = a.gen + 1) (k : Nat) (hk : k < 2) (hak : a.gen % 2 = (k : Int)) (n : Int) (hn : 0 ≤ n) (masks : List Int) :
    ∃ (d : Dk) (z : Int), writeU ⟨dkA a k, [], n, false, 0, 1, 1⟩ b = (d, z) ∧ ∃ d' s, readU (d.crash masks) = (d', s, 0) ∧ ((z = 0 ∧ s = b) ∨ (z = 9 ∧ (s = a ∨ s = b))) := by
  obtain ⟨j, hj⟩ : ∃ j, j = 1 - k := ⟨_, rfl⟩
  have hj2 : j < 2 := by omega
  have hbj : b.gen % 2 = (j : Int) := by omega
  have z64 : zeros256.take 64 = List.replicate 64 0 := by unfold zeros256; rw [List.take_replicate, show min 64 256 = 64 from rfl]
  have zl : zeros256.length = 256 := by unfold zeros256; rw [List.length_replicate]
  obtain ⟨x0, hx0⟩ : ∃ x, x = (if k = 0 then a.block else zeros256) := ⟨_, rfl⟩
  obtain ⟨x1, hx1⟩ : ∃ x, x = (if k = 0 then zeros256 else a.block) := ⟨_, rfl⟩
  have hd : dkA a k = dk2 x0 x1 := by
    unfold dkA
    rw [hx0, hx1]
    split <;> rfl
  have hl0 : x0.length = 256 := by rw [hx0]; split; exact a.block_length; exact zl
  have hl1 : x1.length = 256 := by rw [hx1]; split; exact zl; exact a.block_length
  have hw := writeU_dk2 x0 x1 n 0 1 1 b hb hbb j hj2 hbj (by omega)
  have hread : ∀ (y : List UInt8) (l : Int) (r w f : Nat), ∃ d', readU ⟨if j = 0 then dk2 y x1 else dk2 x0 y, [], l, false, r, w, f⟩ = (d', bestU 16 (if k = 0 then a.block else y) (if k = 0 then y else a.block)) := by
    intro y l r w f
    have hkj : k = 0 ∧ j = 1 ∨ k = 1 ∧ j = 0 := by omega
    rcases hkj with ⟨h1, h2⟩ | ⟨h1, h2⟩
    · subst h1 h2
      simp only [if_true, Nat.one_ne_zero, if_false] at hx0 hx1 ⊢
      rw [hx0]
      exact ⟨_, readU_calm _ _ _ _ _ _⟩
    · subst h1 h2
      simp only [if_true, Nat.one_ne_zero, if_false] at hx0 hx1 ⊢
      rw [hx1]
      exact ⟨_, readU_calm _ _ _ _ _ _⟩
  have hrs := fun y => read_slots a b ha hb hab hbb hg k hk hak a.block y a.block_take
  have hold : ((if j = 0 then x0 else x1) : List UInt8) = zeros256 := by
    have hkj : k = 0 ∧ j = 1 ∨ k = 1 ∧ j = 0 := by omega
    rcases hkj with ⟨h1, h2⟩ | ⟨h1, h2⟩
    · subst h1 h2; rw [hx1]; rfl
    · subst h1 h2; rw [hx0]; rfl
  have hcrash : ∀ (l : Int) (o : Bool) (r w f : Nat), ∃ d' s, readU (Dk.crash ⟨dk2 x0 x1, [(j, b.block)], l, o, r, w, f⟩ masks) = (d', s, 0) ∧ (s = a ∨ s = b) := by
    intro l o r w f
    obtain ⟨y, hy, hc⟩ := crash_dk2 x0 x1 l o r w f j hj2 b.block masks hl0 hl1 b.block_length
    rw [hc]
    obtain ⟨d', hr⟩ := hread y (-1) r w f
    rw [hr]
    rw [hold, z64, b.block_take] at hy
    rcases hy with hy | hy
    · rw [(hrs y).1 hy]; exact ⟨d', b, rfl, .inr rfl⟩
    · rw [(hrs y).2 hy]; exact ⟨d', a, rfl, .inl rfl⟩
  rw [hd, hw]
  by_cases h0 : n = 0
  · rw [if_pos h0]
    obtain ⟨d', s, h1, h2⟩ := hcrash 0 true 0 1 1
    exact ⟨_, _, rfl, d', s, h1, .inr ⟨rfl, h2⟩⟩
  · rw [if_neg h0]
    by_cases h1 : n = 1
    · rw [if_pos h1]
      obtain ⟨d', s, h3, h2⟩ := hcrash 0 true 0 (1 + 1) 1
      exact ⟨_, _, rfl, d', s, h3, .inr ⟨rfl, h2⟩⟩
    · rw [if_neg h1]
      refine ⟨_, _, rfl, ?_⟩
      rw [dk2_set _ _ _ j hj2]
      obtain ⟨d', hr⟩ := hread b.block (-1) 0 (1 + 1) (1 + 1)
      have hc : ∀ (S : List (List UInt8)) (l : Int), Dk.crash ⟨S, [], l, false, 0, 1 + 1, 1 + 1⟩ masks = ⟨S, [], -1, false, 0, 1 + 1, 1 + 1⟩ := fun S l => rfl
      rw [hc, hr, (hrs b.block).1 b.block_take]
      exact ⟨d', b, rfl, .inl ⟨rfl, rfl⟩⟩
end Go.Proofs.Ytkockhggnbfahaa
end
section
set_option linter.unusedVariables false
namespace Go.Proofs.Ytkockhggnbfahaa
open Go.RowKit
theorem Try.cells5 : Try.prog.cellsOf 5 = 1 := by kernel_rfl
theorem Try.cells33 : Try.prog.cellsOf 26 = 1 := by kernel_rfl
theorem Try.cells3 : Try.prog.cellsOf 3 = 1 := by kernel_rfl
end Go.Proofs.Ytkockhggnbfahaa
end
