/- Lemmas under the proofs of this place: WalPNextY. No statement is proved here. -/
import Derived.Test.YtghenhacndaelaaBu31
set_option linter.unusedSimpArgs false
set_option linter.unusedVariables false
set_option maxRecDepth 100000
set_option maxHeartbeats 16000000
namespace Go.Proofs.Ytghenhacndaelaa
open Go.RowKit
open Wal
theorem next_sets {w2 : World} {ga R nq : Nat} {A : Option Addr} {n c : Nat} {j : Nat} {least most : Int} (hk : Blk w2 ga 51 #[.slice A n c, .int .i64 (j : Int), .int .i64 least, .int .i64 most]) (hR : Blk w2 R 79 #[.int .i64 0, .int .i64 0, .int .i64 0, .int .i64 0, .slice none 0 0]) (hne : ga ≠ R) (A2 : Option Addr) (n2 c2 : Nat) (kd ep nu lf : Int) (v : Value) :
    Blk (((((((w2.drewN nq).setCell ⟨ga, 0, none⟩ (.slice A2 n2 c2)).setCell ⟨ga, 1, none⟩ (.int .i64 ((j : Int) + 1))).setCell ⟨R, 0, none⟩ (.int .i64 kd)).setCell ⟨R, 1, none⟩ (.int .i64 ep)).setCell ⟨R, 2, none⟩ (.int .i64 nu)).setCell ⟨R, 3, none⟩ (.int .i64 lf) |>.setCell ⟨R, 4, none⟩ v) ga 51 #[.slice A2 n2 c2, .int .i64 ((j + 1 : Nat) : Int), .int .i64 least, .int .i64 most] ∧
    (∀ B L, RB w2 w2.heap.size B L → RB (((((((w2.drewN nq).setCell ⟨ga, 0, none⟩ (.slice A2 n2 c2)).setCell ⟨ga, 1, none⟩ (.int .i64 ((j : Int) + 1))).setCell ⟨R, 0, none⟩ (.int .i64 kd)).setCell ⟨R, 1, none⟩ (.int .i64 ep)).setCell ⟨R, 2, none⟩ (.int .i64 nu)).setCell ⟨R, 3, none⟩ (.int .i64 lf) |>.setCell ⟨R, 4, none⟩ v) (((((((w2.drewN nq).setCell ⟨ga, 0, none⟩ (.slice A2 n2 c2)).setCell ⟨ga, 1, none⟩ (.int .i64 ((j : Int) + 1))).setCell ⟨R, 0, none⟩ (.int .i64 kd)).setCell ⟨R, 1, none⟩ (.int .i64 ep)).setCell ⟨R, 2, none⟩ (.int .i64 nu)).setCell ⟨R, 3, none⟩ (.int .i64 lf) |>.setCell ⟨R, 4, none⟩ v).heap.size B L) ∧
    (∀ w, Below w.heap.size w w2 → w.heap.size ≤ R → Only w (((((((w2.drewN nq).setCell ⟨ga, 0, none⟩ (.slice A2 n2 c2)).setCell ⟨ga, 1, none⟩ (.int .i64 ((j : Int) + 1))).setCell ⟨R, 0, none⟩ (.int .i64 kd)).setCell ⟨R, 1, none⟩ (.int .i64 ep)).setCell ⟨R, 2, none⟩ (.int .i64 nu)).setCell ⟨R, 3, none⟩ (.int .i64 lf) |>.setCell ⟨R, 4, none⟩ v) ga) ∧ True := by
  have k1 : Blk (w2.drewN nq) ga 51 #[.slice A n c, .int .i64 (j : Int), .int .i64 least, .int .i64 most] := hk
  have k2 : Blk (((w2.drewN nq).setCell ⟨ga, 0, none⟩ (.slice A2 n2 c2)).setCell ⟨ga, 1, none⟩ (.int .i64 ((j : Int) + 1))) ga 51 #[.slice A2 n2 c2, .int .i64 ((j + 1 : Nat) : Int), .int .i64 least, .int .i64 most] := (k1.set_ 0 (.slice A2 n2 c2)).set_ 1 (.int .i64 ((j : Int) + 1))
  have o2 : Only (w2.drewN nq) (((w2.drewN nq).setCell ⟨ga, 0, none⟩ (.slice A2 n2 c2)).setCell ⟨ga, 1, none⟩ (.int .i64 ((j : Int) + 1))) ga := only_trans (only_set _ _ _ _) (only_set _ _ _ _)
  have r1 : Blk (w2.drewN nq) R 79 #[.int .i64 0, .int .i64 0, .int .i64 0, .int .i64 0, .slice none 0 0] := hR
  have r2 := r1.only o2 (fun e => hne e.symm)
  have b2 : ∀ B L, RB w2 w2.heap.size B L → RB (((w2.drewN nq).setCell ⟨ga, 0, none⟩ (.slice A2 n2 c2)).setCell ⟨ga, 1, none⟩ (.int .i64 ((j : Int) + 1))) (((w2.drewN nq).setCell ⟨ga, 0, none⟩ (.slice A2 n2 c2)).setCell ⟨ga, 1, none⟩ (.int .i64 ((j : Int) + 1))).heap.size B L := fun B L h => rb_only8 (w := w2.drewN nq) (h.drewN nq) k1 no8_area o2
  have p2 : ∀ w, Below w.heap.size w w2 → Only w (((w2.drewN nq).setCell ⟨ga, 0, none⟩ (.slice A2 n2 c2)).setCell ⟨ga, 1, none⟩ (.int .i64 ((j : Int) + 1))) ga := fun w h => only_trans (only_below (chain7 h (drewN_room w2 nq)) ga) o2
  generalize ((w2.drewN nq).setCell ⟨ga, 0, none⟩ (.slice A2 n2 c2)).setCell ⟨ga, 1, none⟩ (.int .i64 ((j : Int) + 1)) = w3 at k2 r2 b2 p2 ⊢
  have o3 : Only w3 (((((w3.setCell ⟨R, 0, none⟩ (.int .i64 kd)).setCell ⟨R, 1, none⟩ (.int .i64 ep)).setCell ⟨R, 2, none⟩ (.int .i64 nu)).setCell ⟨R, 3, none⟩ (.int .i64 lf)).setCell ⟨R, 4, none⟩ v) R := only_trans (only_trans (only_trans (only_trans (only_set _ _ _ _) (only_set _ _ _ _)) (only_set _ _ _ _)) (only_set _ _ _ _)) (only_set _ _ _ _)
  exact ⟨k2.only o3 hne, fun B L h => rb_only8 (b2 B L h) r2 (no8_sec _ _ _ _ _ _ _) o3, fun w h h2 => only_five (p2 w h) h2 _ _ _ _ _, trivial⟩
theorem wnext_yes {w : World} {ga : Nat} {img : List UInt8} {j N : Nat} {least most : Int} {bb : Nat} (h : Area13 w ga img j least most bb) (hN : img.length = 64 * N) (hN1 : N ≤ 1000) (hj : j < N) (hz : (secA img j).2 = 0) (hb : (secA img j).1.number = (j : Int)) (he : least ≤ (secA img j).1.epoch ∧ (secA img j).1.epoch ≤ most) :
    Calls Try.prog 26 #[.pointer (some ⟨ga, 0, none⟩)] w (NextYes ga img j least most bb (secA img j).1 w) := by
  obtain ⟨n, A, c, h⟩ := h
  have hn := h.len
  have hcp := h.cap
  have hlt := h.blk.lt
  obtain ⟨b0, o, rfl, hb0, _⟩ := h.left.at_ (by rw [List.length_drop]; omega)
  have r0 : w.cell? ⟨ga, 0, none⟩ = some (.slice (some ⟨b0, o, none⟩) n c) := by rw [h.blk.cell]; rfl
  have nb := fun w' => Try.secBuild0 w'
  have a24 := fun w' => Try.aggSec w'
  have s24 := fun w' => Try.sizeSec w'
  have n0 := fun w' => Try.notFalse w'
  have n1 := fun w' => Try.notTrue w'
  have hn0 : ((n : Int) == 0) = false := by rw [beq_eq_false_iff_ne]; omega
  have hn2 : decide ((n : Int) = 0) = false := decide_eq_false (by omega)
  have ks := fun W => sl_to b0 o n c 64 64 rfl (by omega) (by omega) W
  obtain ⟨⟨kd, ep, nu, lf, D⟩, z, hsz⟩ : ∃ s z, secA img j = (s, z) := ⟨_, _, rfl⟩
  obtain ⟨m, hm⟩ : ∃ m, m = D.length := ⟨_, rfl⟩
  have HM := Lib.hid hm
  have HSZ := Lib.hid hsz
  have HAt := Lib.hid h
  have hln : (secL img j).length = 64 := by unfold secL; rw [List.length_take, List.length_drop]; omega
  have HGet : Hid (∀ W, Below w.heap.size w W → Calls Try.prog 39 #[.slice (some ⟨b0, o, none⟩) 64 c] W fun e w' => ∃ B d, e = .returned (.tuple #[.agg #[.int .i64 kd, .int .i64 ep, .int .i64 nu, .int .i64 lf, .slice B m d], .int .i64 z]) ∧ Hid (RB w' w'.heap.size B D) ∧ Hid (Below W.heap.size W w') ∧ Hid (∀ ad, B = some ad → w.heap.size ≤ ad.block)) := fun W hW => by
    have hr := rb_take ((h.left.below (hW.mono h.le)).more (Nat.le_trans h.le hW.size)) 64 (by rw [List.length_drop]; omega)
    have h3 := sget_new (secL img j) (some ⟨b0, o, none⟩) c W hr (by rw [hln]; omega) hcp.2 (by rw [hln]; omega)
    rw [hln] at h3
    refine h3.mono ?_
    rintro e w' ⟨B, d, he, hrb, hnw, hb⟩
    have h6 : getS (secL img j) = (⟨kd, ep, nu, lf, D⟩, z) := hsz
    rw [h6] at he hrb
    unfold secV at he
    simp only [] at he
    rw [← hm] at he
    exact ⟨B, d, he, hrb, hb, fun ad e => Nat.le_trans hW.size (hnw ad e)⟩
  have HC : Hid (∀ W, Below w.heap.size w W → (W.cell? ⟨ga, 0, none⟩ = some (.slice (some ⟨b0, o, none⟩) n c) ∧ W.cell? ⟨ga, 1, none⟩ = some (.int .i64 (j : Int)) ∧ W.cell? ⟨ga, 2, none⟩ = some (.int .i64 least) ∧ W.cell? ⟨ga, 3, none⟩ = some (.int .i64 most)) ∧ (W.frozen? ⟨ga, 0, none⟩ = false ∧ W.frozen? ⟨ga, 1, none⟩ = false)) := fun W hW => by
    have h0 := Blk.below h.blk hW hlt
    exact ⟨⟨by rw [h0.cell]; rfl, by rw [h0.cell]; rfl, by rw [h0.cell]; rfl, by rw [h0.cell]; rfl⟩, h0.frozen 0, h0.frozen 1⟩
  have HS : Hid (∀ (w1 : World) B d W, Below (w1.alloc (.cells #[.int .i64 kd, .int .i64 ep, .int .i64 nu, .int .i64 lf, .slice B m d] 79)).heap.size (w1.alloc (.cells #[.int .i64 kd, .int .i64 ep, .int .i64 nu, .int .i64 lf, .slice B m d] 79)) W → W.cell? ⟨w1.heap.size, 0, none⟩ = some (.int .i64 kd) ∧ W.cell? ⟨w1.heap.size, 1, none⟩ = some (.int .i64 ep) ∧ W.cell? ⟨w1.heap.size, 2, none⟩ = some (.int .i64 nu) ∧ W.cell? ⟨w1.heap.size, 3, none⟩ = some (.int .i64 lf) ∧ W.cell? ⟨w1.heap.size, 4, none⟩ = some (.slice B m d)) := fun w1 B d W hb => by
    have h0 : Blk W w1.heap.size 79 #[.int .i64 kd, .int .i64 ep, .int .i64 nu, .int .i64 lf, .slice B m d] := Blk.below (Blk.new w1 _ _) hb (by simp)
    exact ⟨by rw [h0.cell]; rfl, by rw [h0.cell]; rfl, by rw [h0.cell]; rfl, by rw [h0.cell]; rfl, by rw [h0.cell]; rfl⟩
  have HR : Hid (∀ W, Below (w.alloc (.cells #[.int .i64 0, .int .i64 0, .int .i64 0, .int .i64 0, .slice none 0 0] 79)).heap.size (w.alloc (.cells #[.int .i64 0, .int .i64 0, .int .i64 0, .int .i64 0, .slice none 0 0] 79)) W → (W.cell? ⟨w.heap.size, 0, none⟩ = some (.int .i64 0) ∧ W.cell? ⟨w.heap.size, 1, none⟩ = some (.int .i64 0) ∧ W.cell? ⟨w.heap.size, 2, none⟩ = some (.int .i64 0) ∧ W.cell? ⟨w.heap.size, 3, none⟩ = some (.int .i64 0) ∧ W.cell? ⟨w.heap.size, 4, none⟩ = some (.slice none 0 0)) ∧ W.frozen? ⟨w.heap.size, 0, none⟩ = false ∧ W.frozen? ⟨w.heap.size, 1, none⟩ = false ∧ W.frozen? ⟨w.heap.size, 2, none⟩ = false ∧ W.frozen? ⟨w.heap.size, 3, none⟩ = false ∧ W.frozen? ⟨w.heap.size, 4, none⟩ = false) := fun W hb => by
    have h0 : Blk W w.heap.size 79 #[.int .i64 0, .int .i64 0, .int .i64 0, .int .i64 0, .slice none 0 0] := Blk.below (Blk.new w _ _) hb (by simp)
    exact ⟨⟨by rw [h0.cell]; rfl, by rw [h0.cell]; rfl, by rw [h0.cell]; rfl, by rw [h0.cell]; rfl, by rw [h0.cell]; rfl⟩, h0.frozen 0, h0.frozen 1, h0.frozen 2, h0.frozen 3, h0.frozen 4⟩
  have HRB : Hid (∀ W, Below (w.alloc (.cells #[.int .i64 0, .int .i64 0, .int .i64 0, .int .i64 0, .slice none 0 0] 79)).heap.size (w.alloc (.cells #[.int .i64 0, .int .i64 0, .int .i64 0, .int .i64 0, .slice none 0 0] 79)) W → Blk W w.heap.size 79 #[.int .i64 0, .int .i64 0, .int .i64 0, .int .i64 0, .slice none 0 0]) := fun W hb => Blk.below (Blk.new w _ _) hb (by simp)
  have hb1 : Below w.heap.size w (w.alloc (.cells #[.int .i64 0, .int .i64 0, .int .i64 0, .int .i64 0, .slice none 0 0] 79)) := (Below.refl _ _).alloc (Nat.le_refl _) _
  have HB1 := Lib.hid hb1
  obtain rfl : z = 0 := by rw [hsz] at hz; exact hz
  obtain rfl : nu = (j : Int) := by rw [hsz] at hb; exact hb
  have p1 : ((j : Int) != (j : Int)) = false := by rw [bne_eq_false_iff_eq]
  have p2 : ((j : Int) == (j : Int)) = true := beq_self_eq_true _
  have HW : Hid (∀ W, Calls Try.prog 23 #[.int .i64 ep, .int .i64 least, .int .i64 most] W fun e w' => e = .returned (.bool true) ∧ W = w') := fun W => wwithin_yes (by rw [hsz] at he; exact he) W
  obtain ⟨A2, hA2⟩ : ∃ A2, A2 = (if c = 64 then (some ⟨b0, o, none⟩ : Option Addr) else (some ⟨b0, o, none⟩ : Option Addr).map (fun a => a.add (64 * 1))) := ⟨_, rfl⟩
  obtain ⟨n2, hn2'⟩ : ∃ n2, n2 = n - 64 := ⟨_, rfl⟩
  obtain ⟨c2, hc2⟩ : ∃ c2, c2 = c - 64 := ⟨_, rfl⟩
  have kf : ∀ W, (Instr.sliceAt 38 (.slice (some ⟨b0, o, none⟩) n c) (some (.int .i64 64)) none none).run Try.prog W = .ok (.slice A2 n2 c2) W := fun W => by
    rw [hA2, hn2', hc2]
    exact bsl_from (some ⟨b0, o, none⟩) n c 64 64 rfl (by omega) (by omega) W
  have HA2 : Hid (RB w bb A2 (img.drop (64 * (j + 1))) ∧ (n2 = img.length - 64 * (j + 1) ∧ n2 ≤ c2 ∧ c2 ≤ 9223372036854775807) ∧ ∀ ad, A2 = some ad → ad.block ≠ ga) := by
    refine ⟨?_, ⟨by omega, by omega, by omega⟩, ?_⟩
    · have h3 := rb_cut13 h.left (s := 64) (c := c) (by rw [List.length_drop]; omega) (by rw [List.length_drop]; omega)
      rw [List.drop_drop] at h3
      rw [hA2, show 64 * (j + 1) = 64 * j + 64 by omega]
      exact h3
    · rw [hA2]
      exact if_block (P := fun k => k ≠ ga) h.ne
  have z1 : IntKind.i64.wrap ((j : Int) + 1) = (j : Int) + 1 := IntWalk.i64_in _ (by omega)
  have hne1 : ga ≠ w.heap.size := by omega
  clear hb he hz hA2 hn2' hc2
  clear h hN hj hm hsz hn hcp hln hb0
  have HNe := Lib.hid (And.intro hlt hne1)
  go_enter Try.func26, Try.ntmps26
  go_wp2_with (first
    | (go_at_call 39; (with_reducible refine (HGet.out _ HB1.out).mono ?_); rintro e w1 ⟨B1, e1, rfl, g1, q1, nw1⟩; have HQ1 := Lib.hid (q1.out.alloc q1.out.size (.cells #[.int .i64 kd, .int .i64 ep, .int .i64 (j : Int), .int .i64 lf, .slice B1 m e1] 79)); obtain ⟨t0, t1, t2, t3, t4⟩ := HS.out w1 B1 e1 _ (Below.refl _ _); have HBB := Lib.hid (chain7 HB1.out HQ1.out); obtain ⟨⟨v0, v1, v2, v3⟩, f0, f1⟩ := HC.out _ HBB.out; obtain ⟨⟨y0, y1, y2, y3, y4⟩, x0, x1, x2, x3, x4⟩ := HR.out _ HQ1.out))
  go_quiet (with_reducible exact quiet_same HW)
  have hq9 := drewN_room (w1.alloc (.cells #[.int .i64 kd, .int .i64 ep, .int .i64 (j : Int), .int .i64 lf, .slice B1 m e1] 79)) nq
  have hlt1 : w1.heap.size < (w1.alloc (.cells #[.int .i64 kd, .int .i64 ep, .int .i64 (j : Int), .int .i64 lf, .slice B1 m e1] 79)).heap.size := by simp
  have hnS : w.heap.size < w1.heap.size := by have := q1.out.size; simp at this; omega
  have HG1 := Lib.hid ((g1.out.below ((Below.refl _ _).alloc (Nat.le_refl _) (.cells #[.int .i64 kd, .int .i64 ep, .int .i64 (j : Int), .int .i64 lf, .slice B1 m e1] 79))).more (Nat.le_of_lt hlt1))
  generalize (w1.alloc (.cells #[.int .i64 kd, .int .i64 ep, .int .i64 (j : Int), .int .i64 lf, .slice B1 m e1] 79)) = w2 at t0 t1 t2 t3 t4 v0 v1 v2 v3 f0 f1 y0 y1 y2 y3 y4 x0 x1 x2 x3 x4 HQ1 HBB hq9 HG1 hlt1 ⊢
  have HNS := Lib.hid (And.intro hnS hlt1)
  have hgS : ga ≠ w1.heap.size := by omega
  have hwS : w.heap.size ≠ w1.heap.size := by omega
  have HLt := Lib.hid hlt
  go_wp2
  obtain ⟨m1, m2, m3, m4⟩ := next_sets (nq := nq) (Blk.below HAt.out.blk HBB.out HLt.out) (HRB.out _ HQ1.out) hne1 A2 n2 c2 kd ep (j : Int) lf (.slice B1 m e1)
  refine bodyPost_ret (v := .tuple #[.agg #[.int .i64 kd, .int .i64 ep, .int .i64 (j : Int), .int .i64 lf, .slice B1 m e1], .bool true]) (by simp [results, Try.results26, go_sem, y0, y1, y2, y3, y4]) rfl ⟨B1, e1, ?_, ?_, nw1.out, ?_, ?_⟩
  · rw [HSZ.out, HM.out]; rfl
  · rw [HSZ.out]; exact m2 _ _ HG1.out
  · exact ⟨n2, A2, c2, m1, rb_only HA2.out.1 HAt.out.le (m3 w HBB.out (Nat.le_refl _)) HA2.out.2.2, Nat.le_trans HAt.out.le (m3 w HBB.out (Nat.le_refl _)).size, HA2.out.2.1.1, HA2.out.2.1.2, HA2.out.2.2⟩
  · exact m3 w HBB.out (Nat.le_refl _)
theorem wnext_any {w : World} {ga : Nat} {img : List UInt8} {j N : Nat} {least most : Int} {bb : Nat} (h : Area13 w ga img j least most bb) (hN : img.length = 64 * N) (hN1 : N ≤ 1000) :
    (¬ Cnt (secA img) N least most j → Calls Try.prog 26 #[.pointer (some ⟨ga, 0, none⟩)] w (NextNo ga img j least most bb w)) ∧
    (Cnt (secA img) N least most j → Calls Try.prog 26 #[.pointer (some ⟨ga, 0, none⟩)] w (NextYes ga img j least most bb (secA img j).1 w)) := by
  refine ⟨fun hc => ?_, fun hc => wnext_yes h hN hN1 hc.1 hc.2.1 hc.2.2.1 hc.2.2.2⟩
  by_cases h1 : j < N
  · by_cases h2 : (secA img j).2 = 0
    · by_cases h3 : (secA img j).1.number = (j : Int)
      · exact wnext_epo h hN hN1 h1 h2 h3 fun h4 => hc ⟨h1, h2, h3, h4⟩
      · exact wnext_num h hN hN1 h1 h2 h3
    · exact wnext_bad h hN hN1 h1 h2
  · exact wnext_end h hN (by omega)
end Go.Proofs.Ytghenhacndaelaa
