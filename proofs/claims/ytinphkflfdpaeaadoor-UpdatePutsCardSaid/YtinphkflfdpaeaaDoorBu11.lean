/- Lemmas under the proofs of this place: CurL, ShaRWords, RowLaws. No statement is proved here. -/
import Derived.Test.YtinphkflfdpaeaaDoorBu05
import Derived.Test.YtinphkflfdpaeaaDoorBu07
import Derived.Test.YtinphkflfdpaeaaDoorBu02
import Derived.Test.YtinphkflfdpaeaaDoorBu03
import Derived.Deep.QuietTactic
import Derived.BigQuiet
import Derived.Deep.RegionLaw
import Derived.IntWalk
set_option linter.unusedSimpArgs false
set_option linter.unusedVariables false
set_option maxRecDepth 100000
set_option maxHeartbeats 16000000
namespace Go.Proofs.YtinphkflfdpaeaaDoor
section
open Go.RowKit
theorem left_any (g : Nat) (st : Option (List UInt8)) (w : World) (h : Cur w g st) : Calls Tryd.prog 27 #[.pointer (some ⟨g, 0, none⟩)] w fun e w' => e = .returned (.int .i64 (leftN st : Int)) ∧ w = w' := by
  have hb := bad_any g st w h
  rcases st with _ | L
  · clear h
    go_enter Tryd.func27, Tryd.ntmps27
    go_wp2_with (go_at_call 53; refine hb.mono ?_; rintro e w' ⟨rfl, rfl⟩)
    go_ret
    exact ⟨rfl, rfl⟩
  · obtain ⟨A, c, h, _, _⟩ := h
    have hc : w.cell? ⟨g, 0, none⟩ = some (.slice A L.length c) := (blk_cell h 0).1
    clear h
    go_enter Tryd.func27, Tryd.ntmps27
    go_wp2_with (go_at_call 53; refine hb.mono ?_; rintro e w' ⟨rfl, rfl⟩)
    go_ret
    exact ⟨rfl, rfl⟩
end
section
open Go.RowKit
theorem refTurn_any (x : UInt32) (n : Nat) (w : World) (h0 : 0 < n) (h1 : n < 32) : Calls Tryd.prog 69 #[.int .u32 (x.toNat : Int), .int .u32 (n : Int)] w fun e w' => e = .returned (.int .u32 ((rotR x n).toNat : Int)) ∧ w = w' := by
  have hx := w_lt x
  have HR := Lib.hid (w_rot x n h0 h1)
  go_enter Tryd.func69, Tryd.ntmps69
  go_wp2
  go_ret
  exact ⟨congrArg (fun v => Ending.returned (Value.int .u32 v)) HR.out, rfl⟩
theorem refWord_any (b o n c : Nat) (x0 x1 x2 x3 : UInt8) (w : World) (hn : 4 ≤ n) (h0 : w.cell? ⟨b, o, none⟩ = some (.int .u8 (x0.toNat : Int))) (h1 : w.cell? ⟨b, o + 1, none⟩ = some (.int .u8 (x1.toNat : Int)))
    (h2 : w.cell? ⟨b, o + 2, none⟩ = some (.int .u8 (x2.toNat : Int))) (h3 : w.cell? ⟨b, o + 3, none⟩ = some (.int .u8 (x3.toNat : Int))) :
    Calls Tryd.prog 84 #[.slice (some ⟨b, o, none⟩) n c] w fun e w' => e = .returned (.int .u32 ((wordL x0 x1 x2 x3).toNat : Int)) ∧ Below w.heap.size w w' := by
  have n0 : (0 : Int) < (n : Int) := by omega
  have n1 : (1 : Int) < (n : Int) := by omega
  have n2 : (2 : Int) < (n : Int) := by omega
  have n3 : (3 : Int) < (n : Int) := by omega
  have HW := Lib.hid (w_word x0 x1 x2 x3)
  go_enter Tryd.func84, Tryd.ntmps84
  go_wp2
  go_quiet (fail)
  go_wp2
  go_ret
  exact ⟨congrArg (fun v => Ending.returned (Value.int .u32 v)) HW.out, ⟨rfl, rfl, rfl, Nat.le_refl _, fun _ _ => rfl⟩⟩
theorem sched_word (B : List UInt8) (k : Nat) (h : k < 16) : schedK B (k + 1) = schedK B k ++ [wordL (B.getD (4 * k) 0) (B.getD (4 * k + 1) 0) (B.getD (4 * k + 2) 0) (B.getD (4 * k + 3) 0)] := by
  rw [schedK, schedW, if_pos h]
theorem sched_step (B : List UInt8) (k : Nat) (h : ¬ k < 16) : schedK B (k + 1) = schedK B k ++ [(schedK B k).getD (k - 16) 0 + sig0 ((schedK B k).getD (k - 15) 0) + (schedK B k).getD (k - 7) 0 + sig1 ((schedK B k).getD (k - 2) 0)] := by
  rw [schedK, schedW, if_neg h]
theorem refSchedule_any (B : List UInt8) (A : Option Addr) (c E : Nat) (w : World) (hr : RB w E A B) (hl : B.length = 64) (hc : 64 ≤ c) (hcm : c ≤ 9223372036854775807) :
    Calls Tryd.prog 68 #[.slice A 64 c] w fun e w' => ∃ A' c', e = .returned (.slice A' 64 c') ∧ RW w' w'.heap.size A' (schedK B 64) ∧ Below w.heap.size w w' := by
  have hr := rb_lt hr
  obtain ⟨g, o, rfl, hg, hcell⟩ := RB.at_ hr (by omega)
  have HCell : Hid (∀ j, j < 64 → w.cell? ⟨g, o + j, none⟩ = some (.int .u8 ((B.getD j 0).toNat : Int))) := by
    intro j hj
    rw [hcell j (by omega)]
    simp [List.getD, List.getElem?_eq_getElem (show j < B.length by omega)]
  clear hcell hr hl
  go_enter Tryd.func68, Tryd.ntmps68
  go_wp2
  go_loopw [3, 4] (fun v i wr => ∃ k : Nat, k ≤ 16 ∧ i = .int .i64 (k : Int) ∧ wr.ownsRow w.heap.size 66 1 v k (wcells (schedK B k)) ∧ Below w.heap.size w wr) (fun _ i _ => 16 - (intOf i).toNat)
  case atStart => exact ⟨0, by omega, rfl, World.ownsRow_nil _ _ _ _, Below.refl _ _⟩
  case round =>
    obtain ⟨k, hk, rfl, hown, hbw⟩ := hrel
    by_cases hlt : k < 16
    · obtain ⟨x0, hx0⟩ : ∃ x, x = B.getD (4 * k) 0 := ⟨_, rfl⟩
      obtain ⟨x1, hx1⟩ : ∃ x, x = B.getD (4 * k + 1) 0 := ⟨_, rfl⟩
      obtain ⟨x2, hx2⟩ : ∃ x, x = B.getD (4 * k + 2) 0 := ⟨_, rfl⟩
      obtain ⟨x3, hx3⟩ : ∃ x, x = B.getD (4 * k + 3) 0 := ⟨_, rfl⟩
      have HS : Hid (schedK B (k + 1) = schedK B k ++ [wordL x0 x1 x2 x3]) := by show _ = _; rw [hx0, hx1, hx2, hx3]; exact sched_word B k hlt
      have HW : Hid (∀ n c', 4 ≤ n → Calls Tryd.prog 84 #[.slice (some ⟨g, o + 4 * k, none⟩) n c'] wr fun e w' => e = .returned (.int .u32 ((wordL x0 x1 x2 x3).toNat : Int)) ∧ Below wr.heap.size wr w') := by
        intro n c' hn
        refine refWord_any g (o + 4 * k) n c' x0 x1 x2 x3 wr hn ?_ ?_ ?_ ?_
        · rw [hbw.cell (p := ⟨g, o + 4 * k, none⟩) hg, HCell.out _ (by omega), hx0]
        · rw [hbw.cell (p := ⟨g, o + 4 * k + 1, none⟩) hg, Nat.add_assoc, HCell.out _ (by omega), hx1]
        · rw [hbw.cell (p := ⟨g, o + 4 * k + 2, none⟩) hg, Nat.add_assoc, HCell.out _ (by omega), hx2]
        · rw [hbw.cell (p := ⟨g, o + 4 * k + 3, none⟩) hg, Nat.add_assoc, HCell.out _ (by omega), hx3]
      clear hx0 hx1 hx2 hx3
      have q1 : (4 : Int) * (k : Int) ≤ 64 := by omega
      have q2 : (0 : Int) ≤ 4 * (k : Int) := by omega
      have q3 : ¬ c = 4 * k := by omega
      have q4 : (4 * (k : Int)).toNat = 4 * k := by omega
      have q5 : 4 ≤ 64 - 4 * k := by omega
      have hkb : k + 1 ≤ 1048576 := by omega
      go_wp2_with (first
        | (go_at_call 84; (with_reducible refine (HW.out _ _ q5).mono ?_); rintro e w1 ⟨rfl, hb1⟩; have hb2 : Below w.heap.size w w1 := hbw.trans (hb1.mono hbw.size); have hown1 : w1.ownsRow w.heap.size 66 1 _ k (wcells (schedK B k)) := World.ownsRow.kept hown (row := none) ⟨hb1.os, hb1.tape, hb1.output, hb1.size, fun i hi _ => hb1.block i hi⟩ (Classical.em _))
        | (at_builtin; refine append_word rfl _ _ rfl (wordL x0 x1 x2 x3) k rfl hown1 hb2 (Nat.le_refl _) rfl rfl hkb ?_; intro v' w2 hown' hbw'))
      go_roundw
      case rel => exact ⟨k + 1, by omega, by go_num, by rw [HS.out]; exact hown', hbw'⟩
      case measure => simp [intOf]; omega
    · have hk16 : k = 16 := by omega
      rw [hk16] at hown
      clear hk16
      go_wp2
      obtain ⟨wo, rfl⟩ : ∃ wo : World, wo = wr := ⟨_, rfl⟩
      go_loopw [3, 5] (fun v i wr => ∃ k : Nat, 16 ≤ k ∧ k ≤ 64 ∧ i = .int .i64 (k : Int) ∧ wr.ownsRow w.heap.size 66 1 v k (wcells (schedK B k)) ∧ Below w.heap.size w wr) (fun _ i _ => 64 - (intOf i).toNat)
      case atStart => exact ⟨16, by omega, by omega, rfl, hown, hbw⟩
      case round =>
        clear hown hbw
        obtain ⟨m, rfl⟩ : ∃ m : Nat, m = k := ⟨_, rfl⟩
        obtain ⟨k, hk16, hk, rfl, hown, hbw⟩ := hrel
        by_cases hlt : k < 64
        · obtain ⟨g2, cap, rfl, hle, _⟩ := hown.form (by omega)
          have hsl := schedK_length B k
          have HC : Hid (∀ j, j < k → wr.cell? ⟨g2, j, none⟩ = some (.int .u32 (((schedK B k).getD j 0).toNat : Int))) := by
            intro j hj
            rw [hown.cellAt j (by omega), wcells_get _ _ (by omega)]
            simp [List.getD, List.getElem?_eq_getElem (show j < (schedK B k).length by omega)]
          obtain ⟨x, hx⟩ : ∃ x, x = (schedK B k).getD (k - 15) 0 := ⟨_, rfl⟩
          obtain ⟨y, hy⟩ : ∃ y, y = (schedK B k).getD (k - 2) 0 := ⟨_, rfl⟩
          obtain ⟨p, hp⟩ : ∃ p, p = (schedK B k).getD (k - 16) 0 := ⟨_, rfl⟩
          obtain ⟨q, hq⟩ : ∃ q, q = (schedK B k).getD (k - 7) 0 := ⟨_, rfl⟩
          obtain ⟨s, hs⟩ : ∃ s, s = sig0 x := ⟨_, rfl⟩
          obtain ⟨t, ht⟩ : ∃ t, t = sig1 y := ⟨_, rfl⟩
          have HS : Hid (schedK B (k + 1) = schedK B k ++ [p + s + q + t]) := by show _ = _; rw [hp, hs, hq, ht, hx, hy]; exact sched_step B k (by omega)
          have c15 : wr.cell? ⟨g2, k - 15, none⟩ = some (.int .u32 (x.toNat : Int)) := by rw [HC.out _ (by omega), ← hx]
          have c2 : wr.cell? ⟨g2, k - 2, none⟩ = some (.int .u32 (y.toNat : Int)) := by rw [HC.out _ (by omega), ← hy]
          have c16 : wr.cell? ⟨g2, k - 16, none⟩ = some (.int .u32 (p.toNat : Int)) := by rw [HC.out _ (by omega), ← hp]
          have c7 : wr.cell? ⟨g2, k - 7, none⟩ = some (.int .u32 (q.toNat : Int)) := by rw [HC.out _ (by omega), ← hq]
          have F1 : bits .xor .u32 (bits .xor .u32 ((rotR x 7).toNat : Int) ((rotR x 18).toNat : Int)) ((x.toNat : Int) / 8) = (s.toNat : Int) := by
            have h3 := w_shr x 3 (by omega)
            rw [show (8 : Int) = 2 ^ 3 from rfl, h3, w_xor, w_xor, hs]; rfl
          have F2 : bits .xor .u32 (bits .xor .u32 ((rotR y 17).toNat : Int) ((rotR y 19).toNat : Int)) ((y.toNat : Int) / 1024) = (t.toNat : Int) := by
            have h3 := w_shr y 10 (by omega)
            rw [show (1024 : Int) = 2 ^ 10 from rfl, h3, w_xor, w_xor, ht]; rfl
          have F3 := w_add p s
          have F4 := w_add (p + s) q
          have F5 := w_add (p + s + q) t
          have T7 : Hid (∀ W, Calls Tryd.prog 69 #[.int .u32 (x.toNat : Int), .int .u32 7] W fun e w' => e = .returned (.int .u32 ((rotR x 7).toNat : Int)) ∧ W = w') := fun W => refTurn_any x 7 W (by decide) (by decide)
          have T18 : Hid (∀ W, Calls Tryd.prog 69 #[.int .u32 (x.toNat : Int), .int .u32 18] W fun e w' => e = .returned (.int .u32 ((rotR x 18).toNat : Int)) ∧ W = w') := fun W => refTurn_any x 18 W (by decide) (by decide)
          have T17 : Hid (∀ W, Calls Tryd.prog 69 #[.int .u32 (y.toNat : Int), .int .u32 17] W fun e w' => e = .returned (.int .u32 ((rotR y 17).toNat : Int)) ∧ W = w') := fun W => refTurn_any y 17 W (by decide) (by decide)
          have T19 : Hid (∀ W, Calls Tryd.prog 69 #[.int .u32 (y.toNat : Int), .int .u32 19] W fun e w' => e = .returned (.int .u32 ((rotR y 19).toNat : Int)) ∧ W = w') := fun W => refTurn_any y 19 W (by decide) (by decide)
          clear hx hy hp hq hs ht hsl
          have i15 : (0 : Int) ≤ (k : Int) - 15 := by omega
          have i2 : (0 : Int) ≤ (k : Int) - 2 := by omega
          have i16 : (0 : Int) ≤ (k : Int) - 16 := by omega
          have i7 : (0 : Int) ≤ (k : Int) - 7 := by omega
          have j15 : ((k : Int) - 15).toNat = k - 15 := by omega
          have j2 : ((k : Int) - 2).toNat = k - 2 := by omega
          have j16 : ((k : Int) - 16).toNat = k - 16 := by omega
          have j7 : ((k : Int) - 7).toNat = k - 7 := by omega
          have u16 : (16 : Int) ≤ (k : Int) := by omega
          have u7 : (7 : Int) ≤ (k : Int) := by omega
          have v7 : 7 ≤ k := by omega
          have l15 : (k : Int) - 15 < (k : Int) := by omega
          have l2 : (k : Int) - 2 < (k : Int) := by omega
          have l16 : (k : Int) - 16 < (k : Int) := by omega
          have l7 : (k : Int) - 7 < (k : Int) := by omega
          go_wp2
          go_quiet (fail)
          go_wp2_with (first
            | (go_at_call 69; (with_reducible refine (T7.out _).mono ?_); rintro e w' ⟨rfl, rfl⟩)
            | (go_at_call 69; (with_reducible refine (T18.out _).mono ?_); rintro e w' ⟨rfl, rfl⟩)
            | (go_at_call 69; (with_reducible refine (T17.out _).mono ?_); rintro e w' ⟨rfl, rfl⟩)
            | (go_at_call 69; (with_reducible refine (T19.out _).mono ?_); rintro e w' ⟨rfl, rfl⟩))
          have hownx : (wr.drewN nq).ownsRow w.heap.size 66 1 (.slice (some ⟨g2, 0, none⟩) k cap) k (wcells (schedK B k)) := hown
          have hbx : Below w.heap.size w (wr.drewN nq) := ⟨hbw.os, hbw.tape, hbw.output, hbw.size, hbw.block⟩
          have d16 : (wr.drewN nq).cell? ⟨g2, k - 16, none⟩ = some (.int .u32 (p.toNat : Int)) := c16
          have d7 : (wr.drewN nq).cell? ⟨g2, k - 7, none⟩ = some (.int .u32 (q.toNat : Int)) := c7
          clear F1 F2 T7 T18 T17 T19 HC c15 c2 c16 c7 hown hbw
          generalize wr.drewN nq = wx at hownx hbx d16 d7 ⊢
          obtain ⟨i0, hi0, hz0, hz1, hz2⟩ := info_parts Tryd.infoU32
          have hnew := rw_new wx [p + s + q + t]
          have hz9 := hbx.size
          have hgl := hownx.lt g2 rfl
          have w16 : IntKind.i64.wrap ((k : Int) - 16) = (k : Int) - 16 := IntWalk.i64_in _ (by omega)
          have w7 : IntKind.i64.wrap ((k : Int) - 7) = (k : Int) - 7 := IntWalk.i64_in _ (by omega)
          go_region_law (first | (refine step_append_any _ rfl (.tmp 52) (.tmp 68) _ rfl w.heap.size 66 i0 _ 1 4 Tryd.underlying67 hi0 hz0 hz1 hz2 rfl (by omega) _ k (wcells (schedK B k)) rfl (World.ownsRow.drew (World.ownsRow.alloc hownx _)) (wx.heap.size + 1) (some ⟨wx.heap.size, 0, none⟩) 1 1 (wcells [p + s + q + t]) rfl (Reads.drew hnew) (wcells_one _) (by simp only [maxLen]; omega) (by omega) (by show w.heap.size ≤ (wx.alloc _).heap.size; simp; omega) ?_; intro v1 w1 hown1 hg1 hat1))
          all_goals
            have hb1 : Below w.heap.size w w1 := (Below.drew (hbx.alloc hz9 _)).grown hg1 (by show w.heap.size ≤ (wx.alloc _).heap.size; simp; omega) (fun j hj => (hownx.lt j hj).1)
            have HO : Hid (w1.ownsRow w.heap.size 66 1 v1 (k + 1) (wcells (schedK B (k + 1)))) := by show World.ownsRow _ _ _ _ _ _ _; rw [HS.out, wcells_append]; exact hown1
            clear hown1 hg1 hat1 hnew hownx hbx w16 w7 d16 d7
            go_wp2
            go_roundw
            case rel => exact ⟨k + 1, by omega, by omega, by go_num, HO.out, hb1⟩
            case measure => simp [intOf]; omega
        · obtain rfl : k = 64 := by omega
          obtain ⟨A', c', rfl⟩ := wown_form hown
          have hrw : RW wr wr.heap.size A' (schedK B 64) := by
            refine wown_rw (base := w.heap.size) (c := c') ?_
            rw [schedK_length]; exact hown
          clear hown
          go_wp2
          go_ret
          exact ⟨A', c', rfl, hrw, hbw⟩
end
section
open Go.RowKit
theorem wblk_cell {w : World} {g : Nat} {t : TypeId} {L : List UInt32} (h : Blk w g t (wcells L).toArray) {k : Nat} (hk : k < L.length) : w.cell? ⟨g, k, none⟩ = some (.int .u32 ((L.getD k 0).toNat : Int)) := by
  rw [h.cell k]
  simp [wcells, List.getD, List.getElem?_eq_getElem hk]
theorem wblk_set {w : World} {g : Nat} {t : TypeId} {L : List UInt32} (h : Blk w g t (wcells L).toArray) (k : Nat) (x : UInt32) : Blk (w.setCell ⟨g, k, none⟩ (.int .u32 (x.toNat : Int))) g t (wcells (L.set k x)).toArray := by
  have h1 := h.set_ k (.int .u32 (x.toNat : Int))
  have e : (wcells L).toArray.setIfInBounds k (.int .u32 (x.toNat : Int)) = (wcells (L.set k x)).toArray := by
    apply Array.toList_inj.1
    simp [wcells, List.map_set]
  rwa [e] at h1
theorem cells_at (L : List UInt8) {k : Nat} (hk : k < L.length) : (cells L).toArray[k]? = some (.int .u8 ((L.getD k 0).toNat : Int)) := by
  simp [cells, List.getD, List.getElem?_eq_getElem hk]
theorem wcells_at (L : List UInt32) {k : Nat} (hk : k < L.length) : (wcells L).toArray[k]? = some (.int .u32 ((L.getD k 0).toNat : Int)) := by
  simp [wcells, List.getD, List.getElem?_eq_getElem hk]
theorem cblk_cell {w : World} {g : Nat} {t : TypeId} {L : List UInt8} (h : Blk w g t (cells L).toArray) {k : Nat} (hk : k < L.length) : w.cell? ⟨g, k, none⟩ = some (.int .u8 ((L.getD k 0).toNat : Int)) := by
  rw [h.cell k, cells_at L hk]
theorem cblk_set {w : World} {g : Nat} {t : TypeId} {L : List UInt8} (h : Blk w g t (cells L).toArray) (k : Nat) (x : UInt8) : Blk (w.setCell ⟨g, k, none⟩ (.int .u8 (x.toNat : Int))) g t (cells (L.set k x)).toArray := by
  have h1 := h.set_ k (.int .u8 (x.toNat : Int))
  have e : (cells L).toArray.setIfInBounds k (.int .u8 (x.toNat : Int)) = (cells (L.set k x)).toArray := by
    apply Array.toList_inj.1
    simp [cells, List.map_set]
  rwa [e] at h1
end
end Go.Proofs.YtinphkflfdpaeaaDoor
