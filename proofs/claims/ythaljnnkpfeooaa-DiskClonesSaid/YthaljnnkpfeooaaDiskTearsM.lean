/- The walk of layer 6's Block over bytes of any length; what DiskTears reckons. -/
import Derived.Test.YthaljnnkpfeooaaDiskAwake
import Derived.Test.YthaljnnkpfeooaaOpenParts
set_option linter.unusedVariables false
namespace Go.Proofs.Ythaljnnkpfeooaa
open Go.RowKit

set_option maxRecDepth 100000 in
set_option maxHeartbeats 1000000 in
theorem blockl_any (L : List UInt8) (A : Option Addr) (n c : Nat) (w : World) (hr : RB w w.heap.size A L) (hn : n = L.length) (hl : L.length ≤ 9223372036854775807) :
    Calls Try.prog 24 #[.slice A n c] w fun e w' => ∃ g, e = .returned (.slice (some ⟨g, 0, none⟩) 256 256) ∧ w.heap.size ≤ g ∧ Blk w' g 5 (cells (blockL L)).toArray ∧ Below w.heap.size w w' := by
  obtain ⟨i0, hi0, hz0, hz1, hz2⟩ := info_parts Try.info5
  have hby : i0.bytes = 1 := hz2
  have HN := Lib.hid hn
  have HR : Hid (0 < L.length → ∃ b off, A = some ⟨b, off, none⟩ ∧ b < w.heap.size ∧ ∀ k (hk : k < L.length), w.cell? ⟨b, off + k, none⟩ = some (.int .u8 (L[k].toNat : Int))) := fun h => hr.at_ h
  clear hr hn
  go_enter Try.func24, Try.ntmps24
  go_wp2_with (first
    | (at_make; refine wpList_make_full _ rfl _ _ 33 rfl w.heap.size 5 i0 _ 1 Try.underlying33 hi0 hz0 hz1 .i64 .i64 _ _ 256 rfl rfl rfl rfl (by rw [hby]; omega) (by unfold maxLen; omega) (Nat.le_refl _) ?_; intro w2 ho2 hg2))
  have b2 : Below w.heap.size w w2 := (Below.refl _ _).grown hg2 (Nat.le_refl _) (by simp)
  have k2 : Blk w2 w.heap.size 5 (cells (blockK L 0)).toArray := made_blk ho2
  clear ho2 hg2
  obtain ⟨g, hg⟩ : ∃ g, g = w.heap.size := ⟨_, rfl⟩
  have HG : Hid (w.heap.size ≤ g) := by show _ ≤ _; omega
  rw [← hg] at k2
  rw [← hg]
  clear hg
  go_loopw [4] (fun v wr => ∃ k : Nat, k ≤ 256 ∧ v = .int .i64 (k : Int) ∧ Hid (L.length = 0 → k = 0) ∧ Blk wr g 5 (cells (blockK L k)).toArray ∧ Below w.heap.size w wr) (fun v _ => 256 - (intOf v).toNat)
  case atStart => exact ⟨0, by omega, rfl, fun _ => rfl, k2, b2⟩
  case round =>
    clear k2 b2
    obtain ⟨k, hk, rfl, HZ, hB, hb⟩ := hrel
    have u0 : (0 : Int) ≤ (k : Int) := by omega
    by_cases hlt : k < 256
    · have u1 : (k : Int) < 256 := by omega
      by_cases h0 : 0 < n
      · have hL0 : 0 < L.length := by have := HN.out; omega
        obtain ⟨b, off, rfl, hbb, hcc⟩ := HR.out hL0
        obtain ⟨r, hrr⟩ : ∃ r, r = k % n := ⟨_, rfl⟩
        have hrn : r < n := by rw [hrr]; exact Nat.mod_lt _ h0
        have hrL : r < L.length := by have := HN.out; omega
        obtain ⟨x, hx⟩ : ∃ x, x = L.getD r 0 := ⟨_, rfl⟩
        have hck := hcc r hrL
        have hxe : L[r] = x := by rw [hx, List.getD, List.getElem?_eq_getElem hrL]; rfl
        rw [hxe, ← hb.cell (p := ⟨b, off + r, none⟩) hbb] at hck
        have em : (k : Int) % (n : Int) = (r : Int) := by rw [hrr]; omega
        have em2 : (k : Int).tmod (n : Int) = (r : Int) := by rw [Int.tmod_eq_emod_of_nonneg u0]; exact em
        have hne : ¬ (n : Int) = 0 := by omega
        have u2 : (r : Int) < (n : Int) := by omega
        have u3 : (0 : Int) < (n : Int) := by omega
        have f3 : wr.frozen? ⟨g, k, none⟩ = false := hB.frozen _
        have c3 := cblk_cell6 hB (k := k) (by rw [blockK_length]; exact hlt)
        have HB2 : Hid (Blk (wr.setCell ⟨g, k, none⟩ (.int .u8 (x.toNat : Int))) g 5 (cells (blockK L (k + 1))).toArray) := by
          have := cblk_set6 hB k x
          rw [hx, hrr, HN.out] at this
          rw [hx, hrr, HN.out, blockK]
          exact this
        have HL0 := Lib.hid hL0
        clear hcc hx hxe hrL hbb hB hrr hL0
        go_wp2
        refine ⟨⟨k + 1, by omega, by go_num, fun h => absurd h (by have := HL0.out; omega), HB2.out, hb.setCell (p := ⟨g, k, none⟩) HG.out _⟩, ?_⟩
        simp [intOf]; omega
      · have hn0 : n = 0 := by omega
        have hL0 : L.length = 0 := by have := HN.out; omega
        have hk0 := HZ.out hL0
        have HV : Hid (blockL L = blockK L k) := by show _ = _; unfold blockL; rw [if_pos hL0, hk0]; rfl
        subst hn0
        clear HZ hL0 hk0 h0
        go_wp2
        go_ret
        exact ⟨g, rfl, HG.out, by rw [HV.out]; exact hB, hb⟩
    · have hk256 : k = 256 := by omega
      have HV : Hid (blockL L = blockK L k) := by
        show _ = _
        unfold blockL
        split
        · rename_i h; have := HZ.out h; omega
        · rw [hk256]
      have u2 : ¬ (k : Int) < 256 := by omega
      have d0 : decide ((k : Int) < 256) = false := decide_eq_false u2
      clear hk256 HZ
      go_wp2
      go_ret
      exact ⟨g, rfl, HG.out, by rw [HV.out]; exact hB, hb⟩

namespace Dk
theorem want_append (masks : List Int) (k : Nat) : ∀ (l m : List (List UInt8)) (i : Nat) (cur : List UInt8), want masks k (l ++ m) i cur = want masks k m (i + l.length) (want masks k l i cur)
  | [], m, i, cur => by simp [want]
  | b :: l, m, i, cur => by
    rw [List.cons_append, want, want_append masks k l m (i + 1), want, List.length_cons, show i + 1 + l.length = i + (l.length + 1) by omega]
theorem want_stop (masks : List Int) (k : Nat) : ∀ (l : List (List UInt8)) (i : Nat) (cur : List UInt8), masks.length ≤ i → want masks k l i cur = cur
  | [], i, cur, _ => rfl
  | b :: l, i, cur, h => by rw [want, want_stop masks k l (i + 1) _ (by omega), if_neg (by omega)]
theorem want_snoc (masks : List Int) (k : Nat) (l : List (List UInt8)) (b cur : List UInt8) : want masks k (l ++ [b]) 0 cur = if l.length < masks.length ∧ bitOf (masks.getD l.length 0) k = true then b else want masks k l 0 cur := by
  rw [want_append, want, want, Nat.zero_add]
theorem want_all (masks : List Int) (k : Nat) (l : List (List UInt8)) (cur : List UInt8) (j : Nat) (h : masks.length ≤ j) : want masks k (l.take j) 0 cur = want masks k l 0 cur := by
  conv => rhs; rw [← List.take_append_drop j l, want_append]
  by_cases hj : j ≤ l.length
  · rw [want_stop masks k (l.drop j) _ _ (by rw [List.length_take]; omega)]
  · rw [List.drop_eq_nil_of_le (by omega)]; rfl
/-- The disk of DiskTears behind its first i writes. -/
def tk (n : Nat) (Ls : List (List UInt8)) (i : Nat) : Dk := ⟨List.replicate 16 (List.replicate 256 0), (Ls.take i).map (fun b => (n, blockL b)), -1, false, 0, i, 0⟩
theorem tk_zero (n : Nat) (Ls : List (List UInt8)) : tk n Ls 0 = blank 16 := rfl
theorem deed_calm (d : Dk) (h : d.left = -1) : deed d = (d, true) := by
  unfold deed; rw [if_neg (by omega), if_neg (by omega)]
theorem tk_write (n : Nat) (hn : n ≤ 15) (Ls : List (List UInt8)) (i : Nat) (hi : i < Ls.length) : (tk n Ls i).write (n : Int) (blockL Ls[i]) = (tk n Ls (i + 1), 0) := by
  have ht : (tk n Ls i).there (n : Int) = true := by
    unfold there
    rw [decide_eq_true_eq]
    show 0 ≤ (n : Int) ∧ (n : Int) < ((List.replicate 16 (List.replicate 256 (0 : UInt8))).length : Int)
    rw [List.length_replicate]; omega
  rw [write_yes rfl ht (blockL_length _), Int.toNat_natCast]
  rw [deed_calm _ rfl, wrote]
  have hw : (tk n Ls i).waits ++ [(n, blockL Ls[i])] = (tk n Ls (i + 1)).waits := by
    unfold tk
    rw [List.take_succ_eq_append_getElem hi, List.map_append]; rfl
  rw [hw]; rfl
theorem tk_load (n : Nat) (Ls : List (List UInt8)) (i : Nat) (hi : i ≤ 20) : (tk n Ls i).load ≤ 100000 := by
  show 0 + i + 0 + ((Ls.take i).map (fun b => (n, blockL b))).length ≤ 100000
  rw [List.length_map, List.length_take]; omega
/-- What is read behind the crash: each sector is what the last write said whose mask names it. -/
theorem tk_read (n : Nat) (hn : n ≤ 15) (Ls : List (List UInt8)) (masks : List Int) (m : Nat) (hm : m = Ls.length) : ∃ R, (((tk n Ls m).crash masks).read (n : Int)).2 = (R, 0) ∧ R.length = 256 ∧ ∀ k, k < 4 → sector R k = sector (want masks k (Ls.map blockL) 0 (blockL [])) k := by
  have h1 : ((tk n Ls m).crash masks).safe = crashed masks (List.replicate 16 (List.replicate 256 0)) ((Ls.map blockL).map fun b => (n, b)) 0 := by
    unfold crash tk
    simp only [hm, List.take_length, List.map_map]
    rfl
  have hs : (List.replicate 16 (List.replicate 256 (0 : UInt8))).getD n [] = blockL [] := by
    rw [List.getD, List.getElem?_replicate, if_pos (by omega)]; rfl
  have ht := fun k hk => tears masks n k hk (Ls.map blockL) (List.replicate 16 (List.replicate 256 0)) 0 (fun b hb => by obtain ⟨x, _, rfl⟩ := List.mem_map.1 hb; exact blockL_length x) (by rw [List.length_replicate]; omega) (by rw [hs]; exact blockL_length [])
  refine ⟨((tk n Ls m).crash masks).now n, ?_, ?_, ?_⟩
  · unfold read
    rw [show ((tk n Ls m).crash masks).off = false from rfl]
    have h2 : ((tk n Ls m).crash masks).there (n : Int) = true := by
      unfold there; rw [h1, crashed_length, List.length_replicate, decide_eq_true_eq]; omega
    rw [h2]; rfl
  · unfold now; rw [show ((tk n Ls m).crash masks).waits = [] from rfl, h1]
    exact (ht 0 (by omega)).2
  · intro k hk
    unfold now; rw [show ((tk n Ls m).crash masks).waits = [] from rfl, h1]
    have := (ht k hk).1
    rw [hs] at this
    exact this
end Dk

end Go.Proofs.Ythaljnnkpfeooaa
