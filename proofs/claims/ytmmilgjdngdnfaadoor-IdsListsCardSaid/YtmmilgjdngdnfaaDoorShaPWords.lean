/- The walks of the program's turned and spread (layer 3). -/
import Derived.Test.YtmmilgjdngdnfaaDoorShaPMath
import Derived.Test.YtmmilgjdngdnfaaDoorShaRWords
import Derived.Test.YtmmilgjdngdnfaaDoorRowLaws
import Derived.StillTailTactics
set_option linter.unusedVariables false
namespace Go.Proofs.YtmmilgjdngdnfaaDoor
open Go.RowKit

theorem turned_any (x : UInt32) (n : Nat) (w : World) (h0 : 0 < n) (h1 : n < 32) : Calls Tryd.prog 70 #[.int .u32 (x.toNat : Int), .int .u64 (n : Int)] w fun e w' => e = .returned (.int .u32 ((rotR x n).toNat : Int)) ∧ w = w' := by
  have hx := w_lt x
  have HR := Lib.hid (w_rot x n h0 h1)
  have hs : IntKind.u64.wrap (32 - (n : Int)) = ((32 - n : Nat) : Int) := by rw [IntKind.wrap_u64]; omega
  go_enter Tryd.func70, Tryd.ntmps70
  go_wp2
  go_ret
  exact ⟨congrArg (fun v => Ending.returned (Value.int .u32 v)) HR.out, rfl⟩

theorem Tryd.shaW : (Tryd.prog.info? 67).map (fun i => (i.zero, i.size)) = some (some (.agg (wcells (List.replicate 64 0)).toArray), (wcells (List.replicate 64 0)).toArray.size) := by kernel_rfl
theorem Tryd.shaWs : (Tryd.prog.info? 67).map (·.size) = some 64 := by kernel_rfl
theorem Tryd.shaBs : (Tryd.prog.info? 53).map (·.size) = some 64 := by kernel_rfl
theorem Tryd.sha1 : (Tryd.prog.info? 5).map (·.size) = some 1 := by kernel_rfl
theorem Tryd.sha4 : (Tryd.prog.info? 51).map (·.size) = some 1 := by kernel_rfl

/-- One step of the bytes into words. -/
theorem spread_word (x : UInt32) (b : UInt8) : bits .or .u32 ((x.toNat : Int) * 256 % 4294967296) ((b.toNat : Int) % 4294967296) = ((x <<< 8 ||| b.toUInt32).toNat : Int) := by
  have h8 := w_shl x 8 (by omega)
  rw [show (2 : Int) ^ 8 = 256 from rfl] at h8
  have e : (b.toNat : Int) % 4294967296 = ((b.toUInt32).toNat : Int) := by have := b.toNat_lt; rw [Int.emod_eq_of_lt (by omega) (by omega)]; simp
  rw [h8, e, w_or]
  rfl

set_option maxRecDepth 100000 in
set_option maxHeartbeats 2000000 in
theorem spread_any (B : List UInt8) (w : World) (hl : B.length = 64) :
    Calls Tryd.prog 55 #[.agg (cells B).toArray] w fun e w' => e = .returned (.agg (wcells (schedK B 64)).toArray) ∧ Below w.heap.size w w' := by
  have HI : Hid (∀ n : Nat, n < 64 → ∀ W, (Instr.index 53 (.agg (cells B).toArray) (.int .i64 (n : Int))).run Tryd.prog W = .ok (.int .u8 ((B.getD n 0).toNat : Int)) W) :=
    fun n hn W => run_index_row Tryd.underlying53 Tryd.sha1 (fun d h => by rw [Tryd.underlying5] at h; injection h with h; subst h; rfl) (by rw [Tryd.underlying5]; rfl) rfl hn (cells_at B (by omega))
  go_enter Tryd.func55, Tryd.ntmps55
  go_wp2_with (first
    | (refine wpList_box_letter rfl 53 _ rfl (some 1) rfl (cells B).toArray rfl ?_; intro g1 w1 hw1 hg1)
    | (refine wpList_alloc_letter rfl 67 rfl (some 2) rfl _ Tryd.shaW ?_; intro g2 w2 hw2 hg2)
    | (refine wpList_alloc_letter rfl 67 rfl (some 3) rfl _ Tryd.shaW ?_; intro g3 w3 hw3 hg3)
    | (refine wpList_load_row rfl 53 _ rfl g1 rfl _ _ _ _ (letter_keeps hw3 (letter_keeps hw2 (letter_blk hw1 hg1))) Tryd.underlying53 rfl (by rw [Tryd.shaBs]; simp [cells_length, hl]) ?_))
  have b1 : Below w.heap.size w w1 := letter_below hw1 (Below.refl _ _) (Nat.le_refl _)
  have b2 : Below w.heap.size w w2 := letter_below hw2 b1 (by have := letter_size hw1; omega)
  have b3 : Below w.heap.size w w3 := letter_below hw3 b2 (by have := letter_size hw1; have := letter_size hw2; omega)
  have k3 : Blk w3 g3 67 (wcells (List.replicate 64 0)).toArray := letter_blk hw3 hg3
  have k2 : Blk w3 g2 67 (wcells (List.replicate 64 0)).toArray := letter_keeps hw3 (letter_blk hw2 hg2)
  have hn2 : w.heap.size ≤ g2 := by have := letter_size hw1; have := hg2.out; omega
  have hn3 : g2 < g3 := by have := letter_size hw2; have := hg3.out; have := hg2.out; omega
  clear hw1 hw2 hw3 hg1 hg2 hg3 b1 b2
  go_loopw [4, 5, 10] (fun v4 v5 i wr => ∃ n : Nat, n ≤ 64 ∧ i = .int .i64 (n : Int) ∧ Blk wr g3 67 (wcells (spreadK B n)).toArray ∧ Blk wr g2 67 (wcells (List.replicate 64 0)).toArray ∧ Below w.heap.size w wr) (fun _ _ i _ => 64 - (intOf i).toNat)
  case atStart => exact ⟨0, by omega, rfl, k3, k2, b3⟩
  case round =>
    obtain ⟨n, hn, rfl, q3, q2, hbw⟩ := hrel
    by_cases hlt : n < 64
    · have hi := HI.out n hlt
      have hl3 := spreadK_length B n
      obtain ⟨x, hx⟩ : ∃ x, x = (spreadK B n).getD (n / 4) 0 := ⟨_, rfl⟩
      obtain ⟨b, hb⟩ : ∃ b, b = B.getD n 0 := ⟨_, rfl⟩
      have c3 : wr.cell? ⟨g3, n / 4, none⟩ = some (.int .u32 (x.toNat : Int)) := by rw [hx]; exact wblk_cell q3 (by omega)
      have f3 : wr.frozen? ⟨g3, n / 4, none⟩ = false := q3.frozen _
      have HN : Hid (Blk (wr.setCell ⟨g3, n / 4, none⟩ (.int .u32 ((x <<< 8 ||| b.toUInt32).toNat : Int))) g3 67 (wcells (spreadK B (n + 1))).toArray) := by
        have := wblk_set q3 (n / 4) (x <<< 8 ||| b.toUInt32)
        rwa [hx, hb] at this ⊢
      have HW := spread_word x b
      rw [← hb] at hi
      have u0 : (0 : Int) ≤ (n : Int) := by omega
      have u1 : (n : Int) < 64 := by omega
      have hq : (n : Int).tdiv 4 = ((n / 4 : Nat) : Int) := by rw [Int.tdiv_eq_ediv_of_nonneg (by omega)]; simp
      have u2 : ((n / 4 : Nat) : Int) < 64 := by omega
      clear hx hb hl3 q3 HI
      go_wp2
      have ev : x.toNat <<< 8 % 4294967296 ||| b.toNat = (x <<< 8 ||| b.toUInt32).toNat := by simp
      rw [ev]
      refine ⟨⟨n + 1, by omega, by go_num, HN.out, q2.far (show g2 ≠ g3 by omega) _, hbw.setCell (show w.heap.size ≤ g3 by omega) _⟩, ?_⟩
      simp [intOf]; omega
    · have h64 : n = 64 := by omega
      have p3 : Blk wr g3 67 (wcells (wordsK B 16)).toArray := by rw [← spreadK_last, ← h64]; exact q3
      clear HI q3 h64 k3 k2 b3
      obtain ⟨wo, rfl⟩ : ∃ wo : World, wo = wr := ⟨_, rfl⟩
      go_wp2
      go_loopw [6, 7, 8] (fun i v7 v8 wr => ∃ n : Nat, 16 ≤ n ∧ n ≤ 64 ∧ i = .int .i64 (n : Int) ∧ Blk wr g3 67 (wcells (wordsK B n)).toArray ∧ Blk wr g2 67 (wcells (List.replicate 64 0)).toArray ∧ Below w.heap.size w wr) (fun i _ _ _ => 64 - (intOf i).toNat)
      case atStart => exact ⟨16, by omega, by omega, rfl, p3, q2, hbw⟩
      case round =>
        clear p3 q2 hbw
        obtain ⟨n, hn16, hn, rfl, q3, q2, hbw⟩ := hrel
        by_cases hlt : n < 64
        · have hl3 := wordsK_length B n hn
          obtain ⟨y16, h16⟩ : ∃ x, x = (wordsK B n).getD (n - 16) 0 := ⟨_, rfl⟩
          obtain ⟨y15, h15⟩ : ∃ x, x = (wordsK B n).getD (n - 15) 0 := ⟨_, rfl⟩
          obtain ⟨y7, h7⟩ : ∃ x, x = (wordsK B n).getD (n - 7) 0 := ⟨_, rfl⟩
          obtain ⟨y2, h2⟩ : ∃ x, x = (wordsK B n).getD (n - 2) 0 := ⟨_, rfl⟩
          have c15 : wr.cell? ⟨g3, n - 15, none⟩ = some (.int .u32 (y15.toNat : Int)) := by rw [h15]; exact wblk_cell q3 (by omega)
          have c2 : wr.cell? ⟨g3, n - 2, none⟩ = some (.int .u32 (y2.toNat : Int)) := by rw [h2]; exact wblk_cell q3 (by omega)
          have e16 : IntKind.i64.wrap ((n : Int) - 16) = ((n - 16 : Nat) : Int) := (IntWalk.i64_in _ (by omega)).trans (by omega)
          have e15 : IntKind.i64.wrap ((n : Int) - 15) = ((n - 15 : Nat) : Int) := (IntWalk.i64_in _ (by omega)).trans (by omega)
          have e7 : IntKind.i64.wrap ((n : Int) - 7) = ((n - 7 : Nat) : Int) := (IntWalk.i64_in _ (by omega)).trans (by omega)
          have e2 : IntKind.i64.wrap ((n : Int) - 2) = ((n - 2 : Nat) : Int) := (IntWalk.i64_in _ (by omega)).trans (by omega)
          have t16 : ((n - 16 : Nat) : Int) < 64 := by omega
          have t15 : ((n - 15 : Nat) : Int) < 64 := by omega
          have t7 : ((n - 7 : Nat) : Int) < 64 := by omega
          have t2 : ((n - 2 : Nat) : Int) < 64 := by omega
          have u0 : (0 : Int) ≤ (n : Int) := by omega
          have u1 : (n : Int) < 64 := by omega
          have HN : Hid (∀ wq : World, Blk wq g3 67 (wcells (wordsK B n)).toArray → Blk (wq.setCell ⟨g3, n, none⟩ (.int .u32 ((y16 + sig0 y15 + y7 + sig1 y2).toNat : Int))) g3 67 (wcells (wordsK B (n + 1))).toArray) := by
            intro wq hq
            rw [wordsK_step B n hn16 hlt, ← h16, ← h15, ← h7, ← h2]
            exact wblk_set hq n _
          have HQ : Hid (∀ wq : World, Blk wq g3 67 (wcells (wordsK B n)).toArray → wq.cell? ⟨g3, n - 16, none⟩ = some (.int .u32 (y16.toNat : Int)) ∧ wq.cell? ⟨g3, n - 7, none⟩ = some (.int .u32 (y7.toNat : Int)) ∧
              wq.frozen? ⟨g3, n, none⟩ = false ∧ ∃ y : UInt32, wq.cell? ⟨g3, n, none⟩ = some (.int .u32 (y.toNat : Int))) :=
            fun wq hq => ⟨by rw [h16]; exact wblk_cell hq (by omega), by rw [h7]; exact wblk_cell hq (by omega), hq.frozen _, _, wblk_cell hq (by omega)⟩
          obtain ⟨z0, hz0⟩ : ∃ x, x = sig0 y15 := ⟨_, rfl⟩
          obtain ⟨z1, hz1⟩ : ∃ x, x = sig1 y2 := ⟨_, rfl⟩
          have F1 : bits .xor .u32 (bits .xor .u32 ((rotR y15 7).toNat : Int) ((rotR y15 18).toNat : Int)) ((y15.toNat : Int) / 8) = (z0.toNat : Int) := by rw [show (8 : Int) = 2 ^ 3 from rfl, w_shr _ _ (by omega), w_xor, w_xor, hz0]; rfl
          have F2 : bits .xor .u32 (bits .xor .u32 ((rotR y2 17).toNat : Int) ((rotR y2 19).toNat : Int)) ((y2.toNat : Int) / 1024) = (z1.toNat : Int) := by rw [show (1024 : Int) = 2 ^ 10 from rfl, w_shr _ _ (by omega), w_xor, w_xor, hz1]; rfl
          have T7 : Hid (∀ W, Calls Tryd.prog 70 #[.int .u32 (y15.toNat : Int), .int .u64 7] W fun e w' => e = .returned (.int .u32 ((rotR y15 7).toNat : Int)) ∧ W = w') := fun W => turned_any y15 7 W (by decide) (by decide)
          have T18 : Hid (∀ W, Calls Tryd.prog 70 #[.int .u32 (y15.toNat : Int), .int .u64 18] W fun e w' => e = .returned (.int .u32 ((rotR y15 18).toNat : Int)) ∧ W = w') := fun W => turned_any y15 18 W (by decide) (by decide)
          have T17 : Hid (∀ W, Calls Tryd.prog 70 #[.int .u32 (y2.toNat : Int), .int .u64 17] W fun e w' => e = .returned (.int .u32 ((rotR y2 17).toNat : Int)) ∧ W = w') := fun W => turned_any y2 17 W (by decide) (by decide)
          have T19 : Hid (∀ W, Calls Tryd.prog 70 #[.int .u32 (y2.toNat : Int), .int .u64 19] W fun e w' => e = .returned (.int .u32 ((rotR y2 19).toNat : Int)) ∧ W = w') := fun W => turned_any y2 19 W (by decide) (by decide)
          obtain ⟨p1, hp1⟩ : ∃ x, x = y16 + z0 := ⟨_, rfl⟩
          obtain ⟨p2, hp2⟩ : ∃ x, x = p1 + y7 := ⟨_, rfl⟩
          obtain ⟨p3, hp3⟩ : ∃ x, x = p2 + z1 := ⟨_, rfl⟩
          have A1 : ((y16.toNat : Int) + (z0.toNat : Int)) % 4294967296 = (p1.toNat : Int) := by rw [w_add, hp1]
          have A2 : ((p1.toNat : Int) + (y7.toNat : Int)) % 4294967296 = (p2.toNat : Int) := by rw [w_add, hp2]
          have A3 : ((p2.toNat : Int) + (z1.toNat : Int)) % 4294967296 = (p3.toNat : Int) := by rw [w_add, hp3]
          rw [← hz0, ← hz1, ← hp1, ← hp2, ← hp3] at HN
          clear h16 h15 h7 h2 hl3 hz0 hz1 hp1 hp2 hp3
          go_wp2
          go_quiet (fail)
          have q3' : Blk (wr.drewN nq) g3 67 (wcells (wordsK B n)).toArray := q3.drewN nq
          have q2' : Blk (wr.drewN nq) g2 67 (wcells (List.replicate 64 0)).toArray := q2.drewN nq
          have hbw' : Below w.heap.size w (wr.drewN nq) := ⟨hbw.os, hbw.tape, hbw.output, hbw.size, hbw.block⟩
          generalize wr.drewN nq = wq at q3' q2' hbw' ⊢
          clear c15 c2 q3 q2 hbw
          obtain ⟨c16, c7, f3, yo, c3⟩ := HQ.out _ q3'
          have HP : Hid (Blk wq g3 67 (wcells (wordsK B n)).toArray) := q3'
          clear q3'
          go_wp2_with (first
            | (go_at_call 70; (with_reducible refine (T7.out _).mono ?_); rintro e w' ⟨rfl, rfl⟩)
            | (go_at_call 70; (with_reducible refine (T18.out _).mono ?_); rintro e w' ⟨rfl, rfl⟩)
            | (go_at_call 70; (with_reducible refine (T17.out _).mono ?_); rintro e w' ⟨rfl, rfl⟩)
            | (go_at_call 70; (with_reducible refine (T19.out _).mono ?_); rintro e w' ⟨rfl, rfl⟩))
          go_still_tail 15, (by kernel_rfl)
          change wpList _ _ _ _ _ wq.drew
          go_wp2
          refine ⟨⟨n + 1, by omega, by omega, by go_num, (HN.out _ HP.out).drew, (q2'.far (show g2 ≠ g3 by omega) _).drew, (hbw'.setCell (show w.heap.size ≤ g3 by omega) _).drew⟩, ?_⟩
          simp [intOf]; omega
        · have h64 : n = 64 := by omega
          have p3 : Blk wr g3 67 (wcells (schedK B 64)).toArray := by rw [← wordsK_last, ← h64]; exact q3
          clear q3 h64
          obtain ⟨CS, hCS⟩ : ∃ CS, CS = (wcells (schedK B 64)).toArray := ⟨_, rfl⟩
          obtain ⟨ZS, hZS⟩ : ∃ ZS, ZS = (wcells (List.replicate 64 0)).toArray := ⟨_, rfl⟩
          have hs : CS.size = 64 := by rw [hCS]; simp [wcells_length, schedK_length]
          have hz : ZS.size = 64 := by rw [hZS]; simp [wcells_length]
          have h1 : CS.all (·.oneCell') = true := by rw [hCS]; exact all_oneCell_toArray (wcells_one _)
          have HC : Hid (CS = (wcells (schedK B 64)).toArray) := hCS
          rw [← hCS] at p3
          rw [← hZS] at q2
          clear hCS hZS
          go_wp2_with (first
            | (refine wpList_load_row rfl 67 _ rfl g3 rfl _ _ _ _ p3 Tryd.underlying67 rfl (by rw [hs]; exact Tryd.shaWs) ?_)
            | (refine wpList_store_rowTo rfl 67 _ _ rfl rfl g2 CS rfl rfl _ _ q2 (by rw [hs]; exact Tryd.shaWs) (by rw [hs, hz]) h1 ?_))
          have q9 : Blk (wr.setRow g2 CS) g2 67 CS := setRow_heap _ _ _ _ _ _ q2
          try simp only [Exit.inBlock, Exit.then]
          refine bodyPost_ret (results_cell_row rfl _ _ g2 _ _ _ _ rfl q9 Tryd.underlying67 rfl (by rw [hs]; exact Tryd.shaWs)) rfl ?_
          rw [HC.out]
          exact ⟨rfl, below_setRow hbw (by omega) _⟩
end Go.Proofs.YtmmilgjdngdnfaaDoor
