/- Lemmas under the proofs of this place: WalPNextY, WalPTail, WalPConcat, WalRRecords, DiskRBlank. No statement is proved here. -/
import Derived.Test.YtghenhacndaelaaGreatBs23
import Derived.Test.YtghenhacndaelaaGreatBu15
import Derived.Test.YtghenhacndaelaaGreatBu14
import Derived.Test.YtghenhacndaelaaGreatBu18
import Derived.Test.YtghenhacndaelaaGreatBu10
import Derived.Test.YtghenhacndaelaaGreatBu02
import Derived.Test.YtghenhacndaelaaGreatBu03
import Derived.Test.YtghenhacndaelaaGreatBu01
import Derived.Test.YtghenhacndaelaaGreatBu09
import Derived.Test.YtghenhacndaelaaGreatBs24
import Derived.Deep.RegionHeld3
set_option linter.unusedSimpArgs false
set_option linter.unusedVariables false
set_option maxRecDepth 100000
set_option maxHeartbeats 16000000
namespace Go.Proofs.YtghenhacndaelaaGreat
section
open Go.RowKit
open Wal
theorem next_sets {w2 : World} {ga R nq : Nat} {A : Option Addr} {n c : Nat} {j : Nat} {least most : Int} (hk : Blk w2 ga 80 #[.slice A n c, .int .i64 (j : Int), .int .i64 least, .int .i64 most]) (hR : Blk w2 R 49 #[.int .i64 0, .int .i64 0, .int .i64 0, .int .i64 0, .slice none 0 0]) (hne : ga ≠ R) (A2 : Option Addr) (n2 c2 : Nat) (kd ep nu lf : Int) (v : Value) :
  Blk (((((((w2.drewN nq).setCell ⟨ga, 0, none⟩ (.slice A2 n2 c2)).setCell ⟨ga, 1, none⟩ (.int .i64 ((j : Int) + 1))).setCell ⟨R, 0, none⟩ (.int .i64 kd)).setCell ⟨R, 1, none⟩ (.int .i64 ep)).setCell ⟨R, 2, none⟩ (.int .i64 nu)).setCell ⟨R, 3, none⟩ (.int .i64 lf) |>.setCell ⟨R, 4, none⟩ v) ga 80 #[.slice A2 n2 c2, .int .i64 ((j + 1 : Nat) : Int), .int .i64 least, .int .i64 most] ∧
  (∀ B L, RB w2 w2.heap.size B L → RB (((((((w2.drewN nq).setCell ⟨ga, 0, none⟩ (.slice A2 n2 c2)).setCell ⟨ga, 1, none⟩ (.int .i64 ((j : Int) + 1))).setCell ⟨R, 0, none⟩ (.int .i64 kd)).setCell ⟨R, 1, none⟩ (.int .i64 ep)).setCell ⟨R, 2, none⟩ (.int .i64 nu)).setCell ⟨R, 3, none⟩ (.int .i64 lf) |>.setCell ⟨R, 4, none⟩ v) (((((((w2.drewN nq).setCell ⟨ga, 0, none⟩ (.slice A2 n2 c2)).setCell ⟨ga, 1, none⟩ (.int .i64 ((j : Int) + 1))).setCell ⟨R, 0, none⟩ (.int .i64 kd)).setCell ⟨R, 1, none⟩ (.int .i64 ep)).setCell ⟨R, 2, none⟩ (.int .i64 nu)).setCell ⟨R, 3, none⟩ (.int .i64 lf) |>.setCell ⟨R, 4, none⟩ v).heap.size B L) ∧
  (∀ w, Below w.heap.size w w2 → w.heap.size ≤ R → Only w (((((((w2.drewN nq).setCell ⟨ga, 0, none⟩ (.slice A2 n2 c2)).setCell ⟨ga, 1, none⟩ (.int .i64 ((j : Int) + 1))).setCell ⟨R, 0, none⟩ (.int .i64 kd)).setCell ⟨R, 1, none⟩ (.int .i64 ep)).setCell ⟨R, 2, none⟩ (.int .i64 nu)).setCell ⟨R, 3, none⟩ (.int .i64 lf) |>.setCell ⟨R, 4, none⟩ v) ga) ∧ True := by
 have k1 : Blk (w2.drewN nq) ga 80 #[.slice A n c, .int .i64 (j : Int), .int .i64 least, .int .i64 most] := hk
 have k2 : Blk (((w2.drewN nq).setCell ⟨ga, 0, none⟩ (.slice A2 n2 c2)).setCell ⟨ga, 1, none⟩ (.int .i64 ((j : Int) + 1))) ga 80 #[.slice A2 n2 c2, .int .i64 ((j + 1 : Nat) : Int), .int .i64 least, .int .i64 most] := (k1.set_ 0 (.slice A2 n2 c2)).set_ 1 (.int .i64 ((j : Int) + 1))
 have o2 : Only (w2.drewN nq) (((w2.drewN nq).setCell ⟨ga, 0, none⟩ (.slice A2 n2 c2)).setCell ⟨ga, 1, none⟩ (.int .i64 ((j : Int) + 1))) ga := only_trans (only_set _ _ _ _) (only_set _ _ _ _)
 have r1 : Blk (w2.drewN nq) R 49 #[.int .i64 0, .int .i64 0, .int .i64 0, .int .i64 0, .slice none 0 0] := hR
 have r2 := r1.only o2 (fun e => hne e.symm)
 have b2 : ∀ B L, RB w2 w2.heap.size B L → RB (((w2.drewN nq).setCell ⟨ga, 0, none⟩ (.slice A2 n2 c2)).setCell ⟨ga, 1, none⟩ (.int .i64 ((j : Int) + 1))) (((w2.drewN nq).setCell ⟨ga, 0, none⟩ (.slice A2 n2 c2)).setCell ⟨ga, 1, none⟩ (.int .i64 ((j : Int) + 1))).heap.size B L := fun B L h => rb_only8 (w := w2.drewN nq) (h.drewN nq) k1 no8_area o2
 have p2 : ∀ w, Below w.heap.size w w2 → Only w (((w2.drewN nq).setCell ⟨ga, 0, none⟩ (.slice A2 n2 c2)).setCell ⟨ga, 1, none⟩ (.int .i64 ((j : Int) + 1))) ga := fun w h => only_trans (only_below (chain7 h (drewN_room w2 nq)) ga) o2
 generalize ((w2.drewN nq).setCell ⟨ga, 0, none⟩ (.slice A2 n2 c2)).setCell ⟨ga, 1, none⟩ (.int .i64 ((j : Int) + 1)) = w3 at k2 r2 b2 p2 ⊢
 have o3 : Only w3 (((((w3.setCell ⟨R, 0, none⟩ (.int .i64 kd)).setCell ⟨R, 1, none⟩ (.int .i64 ep)).setCell ⟨R, 2, none⟩ (.int .i64 nu)).setCell ⟨R, 3, none⟩ (.int .i64 lf)).setCell ⟨R, 4, none⟩ v) R := only_trans (only_trans (only_trans (only_trans (only_set _ _ _ _) (only_set _ _ _ _)) (only_set _ _ _ _)) (only_set _ _ _ _)) (only_set _ _ _ _)
 exact ⟨k2.only o3 hne, fun B L h => rb_only8 (b2 B L h) r2 (no8_sec _ _ _ _ _ _ _) o3, fun w h h2 => only_five (p2 w h) h2 _ _ _ _ _, trivial⟩
theorem wnext_yes {w : World} {ga : Nat} {img : List UInt8} {j N : Nat} {least most : Int} {bb : Nat} (h : Area13 w ga img j least most bb) (hN : img.length = 64 * N) (hN1 : N ≤ 1000) (hj : j < N) (hz : (secA img j).2 = 0) (hb : (secA img j).1.number = (j : Int)) (he : least ≤ (secA img j).1.epoch ∧ (secA img j).1.epoch ≤ most) :
  Calls Tryz.prog 44 #[.pointer (some ⟨ga, 0, none⟩)] w (NextYes ga img j least most bb (secA img j).1 w) := by
 obtain ⟨n, A, c, h⟩ := h
 have hn := h.len
 have hcp := h.cap
 have hlt := h.blk.lt
 obtain ⟨b0, o, rfl, hb0, _⟩ := h.left.at_ (by rw [List.length_drop]; omega)
 have r0 : w.cell? ⟨ga, 0, none⟩ = some (.slice (some ⟨b0, o, none⟩) n c) := by rw [h.blk.cell]; rfl
 have nb := fun w' => Tryz.secBuild0 w'
 have a24 := fun w' => Tryz.aggSec w'
 have s24 := fun w' => Tryz.sizeSec w'
 have n0 := fun w' => Tryz.notFalse w'
 have n1 := fun w' => Tryz.notTrue w'
 have hn0 : ((n : Int) == 0) = false := by rw [beq_eq_false_iff_ne]; omega
 have hn2 : decide ((n : Int) = 0) = false := decide_eq_false (by omega)
 have ks := fun W => sl_to b0 o n c 64 64 rfl (by omega) (by omega) W
 obtain ⟨⟨kd, ep, nu, lf, D⟩, z, hsz⟩ : ∃ s z, secA img j = (s, z) := ⟨_, _, rfl⟩
 obtain ⟨m, hm⟩ : ∃ m, m = D.length := ⟨_, rfl⟩
 have HM := Lib.hid hm
 have HSZ := Lib.hid hsz
 have HAt := Lib.hid h
 have hln : (secL img j).length = 64 := by unfold secL; rw [List.length_take, List.length_drop]; omega
 have HGet : Hid (∀ W, Below w.heap.size w W → Calls Tryz.prog 68 #[.slice (some ⟨b0, o, none⟩) 64 c] W fun e w' => ∃ B d, e = .returned (.tuple #[.agg #[.int .i64 kd, .int .i64 ep, .int .i64 nu, .int .i64 lf, .slice B m d], .int .i64 z]) ∧ Hid (RB w' w'.heap.size B D) ∧ Hid (Below W.heap.size W w') ∧ Hid (∀ ad, B = some ad → w.heap.size ≤ ad.block)) := fun W hW => by
  have hr := rb_take ((h.left.below (hW.mono h.le)).more (Nat.le_trans h.le hW.size)) 64 (by rw [List.length_drop]; omega)
  have h3 := sget_new (secL img j) (some ⟨b0, o, none⟩) c W hr (by rw [hln]; omega) hcp.2 (by rw [hln]; omega)
  rw [hln] at h3
  refine h3.mono ?_
  rintro e w' ⟨B, d, he, hrb, hnw, hb⟩
  have h6 : getS (secL img j) = (⟨kd, ep, nu, lf, D⟩, z) := hsz
  rw [h6] at he hrb
  unfold secV at he
  simp only [] at he
  rw [← hm] at he
  exact ⟨B, d, he, hrb, hb, fun ad e => Nat.le_trans hW.size (hnw ad e)⟩
 have HC : Hid (∀ W, Below w.heap.size w W → (W.cell? ⟨ga, 0, none⟩ = some (.slice (some ⟨b0, o, none⟩) n c) ∧ W.cell? ⟨ga, 1, none⟩ = some (.int .i64 (j : Int)) ∧ W.cell? ⟨ga, 2, none⟩ = some (.int .i64 least) ∧ W.cell? ⟨ga, 3, none⟩ = some (.int .i64 most)) ∧ (W.frozen? ⟨ga, 0, none⟩ = false ∧ W.frozen? ⟨ga, 1, none⟩ = false)) := fun W hW => by
  have h0 := Blk.below h.blk hW hlt
  exact ⟨⟨by rw [h0.cell]; rfl, by rw [h0.cell]; rfl, by rw [h0.cell]; rfl, by rw [h0.cell]; rfl⟩, h0.frozen 0, h0.frozen 1⟩
 have HS : Hid (∀ (w1 : World) B d W, Below (w1.alloc (.cells #[.int .i64 kd, .int .i64 ep, .int .i64 nu, .int .i64 lf, .slice B m d] 49)).heap.size (w1.alloc (.cells #[.int .i64 kd, .int .i64 ep, .int .i64 nu, .int .i64 lf, .slice B m d] 49)) W → W.cell? ⟨w1.heap.size, 0, none⟩ = some (.int .i64 kd) ∧ W.cell? ⟨w1.heap.size, 1, none⟩ = some (.int .i64 ep) ∧ W.cell? ⟨w1.heap.size, 2, none⟩ = some (.int .i64 nu) ∧ W.cell? ⟨w1.heap.size, 3, none⟩ = some (.int .i64 lf) ∧ W.cell? ⟨w1.heap.size, 4, none⟩ = some (.slice B m d)) := fun w1 B d W hb => by
  have h0 : Blk W w1.heap.size 49 #[.int .i64 kd, .int .i64 ep, .int .i64 nu, .int .i64 lf, .slice B m d] := Blk.below (Blk.new w1 _ _) hb (by simp)
  exact ⟨by rw [h0.cell]; rfl, by rw [h0.cell]; rfl, by rw [h0.cell]; rfl, by rw [h0.cell]; rfl, by rw [h0.cell]; rfl⟩
 have HR : Hid (∀ W, Below (w.alloc (.cells #[.int .i64 0, .int .i64 0, .int .i64 0, .int .i64 0, .slice none 0 0] 49)).heap.size (w.alloc (.cells #[.int .i64 0, .int .i64 0, .int .i64 0, .int .i64 0, .slice none 0 0] 49)) W → (W.cell? ⟨w.heap.size, 0, none⟩ = some (.int .i64 0) ∧ W.cell? ⟨w.heap.size, 1, none⟩ = some (.int .i64 0) ∧ W.cell? ⟨w.heap.size, 2, none⟩ = some (.int .i64 0) ∧ W.cell? ⟨w.heap.size, 3, none⟩ = some (.int .i64 0) ∧ W.cell? ⟨w.heap.size, 4, none⟩ = some (.slice none 0 0)) ∧ W.frozen? ⟨w.heap.size, 0, none⟩ = false ∧ W.frozen? ⟨w.heap.size, 1, none⟩ = false ∧ W.frozen? ⟨w.heap.size, 2, none⟩ = false ∧ W.frozen? ⟨w.heap.size, 3, none⟩ = false ∧ W.frozen? ⟨w.heap.size, 4, none⟩ = false) := fun W hb => by
  have h0 : Blk W w.heap.size 49 #[.int .i64 0, .int .i64 0, .int .i64 0, .int .i64 0, .slice none 0 0] := Blk.below (Blk.new w _ _) hb (by simp)
  exact ⟨⟨by rw [h0.cell]; rfl, by rw [h0.cell]; rfl, by rw [h0.cell]; rfl, by rw [h0.cell]; rfl, by rw [h0.cell]; rfl⟩, h0.frozen 0, h0.frozen 1, h0.frozen 2, h0.frozen 3, h0.frozen 4⟩
 have HRB : Hid (∀ W, Below (w.alloc (.cells #[.int .i64 0, .int .i64 0, .int .i64 0, .int .i64 0, .slice none 0 0] 49)).heap.size (w.alloc (.cells #[.int .i64 0, .int .i64 0, .int .i64 0, .int .i64 0, .slice none 0 0] 49)) W → Blk W w.heap.size 49 #[.int .i64 0, .int .i64 0, .int .i64 0, .int .i64 0, .slice none 0 0]) := fun W hb => Blk.below (Blk.new w _ _) hb (by simp)
 have hb1 : Below w.heap.size w (w.alloc (.cells #[.int .i64 0, .int .i64 0, .int .i64 0, .int .i64 0, .slice none 0 0] 49)) := (Below.refl _ _).alloc (Nat.le_refl _) _
 have HB1 := Lib.hid hb1
 obtain rfl : z = 0 := by rw [hsz] at hz; exact hz
 obtain rfl : nu = (j : Int) := by rw [hsz] at hb; exact hb
 have p1 : ((j : Int) != (j : Int)) = false := by rw [bne_eq_false_iff_eq]
 have p2 : ((j : Int) == (j : Int)) = true := beq_self_eq_true _
 have HW : Hid (∀ W, Calls Tryz.prog 41 #[.int .i64 ep, .int .i64 least, .int .i64 most] W fun e w' => e = .returned (.bool true) ∧ W = w') := fun W => wwithin_yes (by rw [hsz] at he; exact he) W
 obtain ⟨A2, hA2⟩ : ∃ A2, A2 = (if c = 64 then (some ⟨b0, o, none⟩ : Option Addr) else (some ⟨b0, o, none⟩ : Option Addr).map (fun a => a.add (64 * 1))) := ⟨_, rfl⟩
 obtain ⟨n2, hn2'⟩ : ∃ n2, n2 = n - 64 := ⟨_, rfl⟩
 obtain ⟨c2, hc2⟩ : ∃ c2, c2 = c - 64 := ⟨_, rfl⟩
 have kf : ∀ W, (Instr.sliceAt 39 (.slice (some ⟨b0, o, none⟩) n c) (some (.int .i64 64)) none none).run Tryz.prog W = .ok (.slice A2 n2 c2) W := fun W => by
  rw [hA2, hn2', hc2]
  exact bsl_from (some ⟨b0, o, none⟩) n c 64 64 rfl (by omega) (by omega) W
 have HA2 : Hid (RB w bb A2 (img.drop (64 * (j + 1))) ∧ (n2 = img.length - 64 * (j + 1) ∧ n2 ≤ c2 ∧ c2 ≤ 9223372036854775807) ∧ ∀ ad, A2 = some ad → ad.block ≠ ga) := by
  refine ⟨?_, ⟨by omega, by omega, by omega⟩, ?_⟩
  ·have h3 := rb_cut13 h.left (s := 64) (c := c) (by rw [List.length_drop]; omega) (by rw [List.length_drop]; omega)
   rw [List.drop_drop] at h3
   rw [hA2, show 64 * (j + 1) = 64 * j + 64 by omega]
   exact h3
  ·rw [hA2]
   exact if_block (P := fun k => k ≠ ga) h.ne
 have z1 : IntKind.i64.wrap ((j : Int) + 1) = (j : Int) + 1 := IntWalk.i64_in _ (by omega)
 have hne1 : ga ≠ w.heap.size := by omega
 clear hb he hz hA2 hn2' hc2
 clear h hN hj hm hsz hn hcp hln hb0
 have HNe := Lib.hid (And.intro hlt hne1)
 go_enter Tryz.func44, Tryz.ntmps44
 go_wp2_with (first
  | (go_at_call 68; (with_reducible refine (HGet.out _ HB1.out).mono ?_); rintro e w1 ⟨B1, e1, rfl, g1, q1, nw1⟩; have HQ1 := Lib.hid (q1.out.alloc q1.out.size (.cells #[.int .i64 kd, .int .i64 ep, .int .i64 (j : Int), .int .i64 lf, .slice B1 m e1] 49)); obtain ⟨t0, t1, t2, t3, t4⟩ := HS.out w1 B1 e1 _ (Below.refl _ _); have HBB := Lib.hid (chain7 HB1.out HQ1.out); obtain ⟨⟨v0, v1, v2, v3⟩, f0, f1⟩ := HC.out _ HBB.out; obtain ⟨⟨y0, y1, y2, y3, y4⟩, x0, x1, x2, x3, x4⟩ := HR.out _ HQ1.out))
 go_quiet (with_reducible exact quiet_same HW)
 have hq9 := drewN_room (w1.alloc (.cells #[.int .i64 kd, .int .i64 ep, .int .i64 (j : Int), .int .i64 lf, .slice B1 m e1] 49)) nq
 have hlt1 : w1.heap.size < (w1.alloc (.cells #[.int .i64 kd, .int .i64 ep, .int .i64 (j : Int), .int .i64 lf, .slice B1 m e1] 49)).heap.size := by simp
 have hnS : w.heap.size < w1.heap.size := by have := q1.out.size; simp at this; omega
 have HG1 := Lib.hid ((g1.out.below ((Below.refl _ _).alloc (Nat.le_refl _) (.cells #[.int .i64 kd, .int .i64 ep, .int .i64 (j : Int), .int .i64 lf, .slice B1 m e1] 49))).more (Nat.le_of_lt hlt1))
 generalize (w1.alloc (.cells #[.int .i64 kd, .int .i64 ep, .int .i64 (j : Int), .int .i64 lf, .slice B1 m e1] 49)) = w2 at t0 t1 t2 t3 t4 v0 v1 v2 v3 f0 f1 y0 y1 y2 y3 y4 x0 x1 x2 x3 x4 HQ1 HBB hq9 HG1 hlt1 ⊢
 have HNS := Lib.hid (And.intro hnS hlt1)
 have hgS : ga ≠ w1.heap.size := by omega
 have hwS : w.heap.size ≠ w1.heap.size := by omega
 have HLt := Lib.hid hlt
 go_wp2
 obtain ⟨m1, m2, m3, m4⟩ := next_sets (nq := nq) (Blk.below HAt.out.blk HBB.out HLt.out) (HRB.out _ HQ1.out) hne1 A2 n2 c2 kd ep (j : Int) lf (.slice B1 m e1)
 refine bodyPost_ret (v := .tuple #[.agg #[.int .i64 kd, .int .i64 ep, .int .i64 (j : Int), .int .i64 lf, .slice B1 m e1], .bool true]) (by simp [results, Tryz.results44, go_sem, y0, y1, y2, y3, y4]) rfl ⟨B1, e1, ?_, ?_, nw1.out, ?_, ?_⟩
 ·rw [HSZ.out, HM.out]; rfl
 ·rw [HSZ.out]; exact m2 _ _ HG1.out
 ·exact ⟨n2, A2, c2, m1, rb_only HA2.out.1 HAt.out.le (m3 w HBB.out (Nat.le_refl _)) HA2.out.2.2, Nat.le_trans HAt.out.le (m3 w HBB.out (Nat.le_refl _)).size, HA2.out.2.1.1, HA2.out.2.1.2, HA2.out.2.2⟩
 ·exact m3 w HBB.out (Nat.le_refl _)
theorem wnext_any {w : World} {ga : Nat} {img : List UInt8} {j N : Nat} {least most : Int} {bb : Nat} (h : Area13 w ga img j least most bb) (hN : img.length = 64 * N) (hN1 : N ≤ 1000) :
  (¬ Cnt (secA img) N least most j → Calls Tryz.prog 44 #[.pointer (some ⟨ga, 0, none⟩)] w (NextNo ga img j least most bb w)) ∧
  (Cnt (secA img) N least most j → Calls Tryz.prog 44 #[.pointer (some ⟨ga, 0, none⟩)] w (NextYes ga img j least most bb (secA img j).1 w)) := by
 refine ⟨fun hc => ?_, fun hc => wnext_yes h hN hN1 hc.1 hc.2.1 hc.2.2.1 hc.2.2.2⟩
 by_cases h1 : j < N
 ·by_cases h2 : (secA img j).2 = 0
  ·by_cases h3 : (secA img j).1.number = (j : Int)
   ·exact wnext_epo h hN hN1 h1 h2 h3 fun h4 => hc ⟨h1, h2, h3, h4⟩
   ·exact wnext_num h hN hN1 h1 h2 h3
  ·exact wnext_bad h hN hN1 h1 h2
 ·exact wnext_end h hN (by omega)
end
section
open Go.RowKit
open Wal
theorem wtail_any (L : List UInt8) (A : Option Addr) (n c : Nat) (w : World) (hn : n = L.length) (hr : RB w w.heap.size A L) (hc : n ≤ c) (hcm : c ≤ 9223372036854775807) (hl : n ≤ 1000000) :
  Calls Tryz.prog 46 #[.slice A n c] w fun e w' => ∃ A' m c', e = .returned (.slice A' m c') ∧ m = L.length % 256 ∧ w'.ownsRow w.heap.size 5 1 (.slice A' m c') m (cells (endL L)) ∧ Below w.heap.size w w' := by
 obtain ⟨r, hr'⟩ : ∃ r, r = n % 256 := ⟨_, rfl⟩
 obtain ⟨s, hs⟩ : ∃ s, s = n - r := ⟨_, rfl⟩
 have hrn : r ≤ n := by rw [hr']; exact Nat.mod_le _ _
 have y0 : (n : Int).tmod 256 = (r : Int) := by rw [Int.tmod_eq_emod_of_nonneg (by omega)]; omega
 have y1 : (n : Int) % 256 = (r : Int) := by omega
 have y2 : (n : Int) - (r : Int) = (s : Int) := by omega
 have y3 : IntKind.i64.wrap (s : Int) = (s : Int) := IntWalk.i64_in _ (by omega)
 have y4 : IntKind.i64.wrap (r : Int) = (r : Int) := IntWalk.i64_in _ (by omega)
 obtain ⟨A2, hA2⟩ : ∃ A2, A2 = (if c = s then A else A.map (fun a => a.add (s * 1))) := ⟨_, rfl⟩
 obtain ⟨c2, hc2⟩ : ∃ c2, c2 = c - s := ⟨_, rfl⟩
 have kf : ∀ W, (Instr.sliceAt 39 (.slice A n c) (some (.int .i64 (s : Int))) none none).run Tryz.prog W = .ok (.slice A2 r c2) W := fun W => by
  have h := bsl_from A n c s s rfl (by omega) hc W
  rw [h, hA2, hc2, show n - s = r by omega]
 have hd : endL L = L.drop s := by unfold endL; rw [hs, hr', hn]
 have hdl : (endL L).length = r := by rw [endL_length, ← hn, hr']
 have hcut := rb_cut13 hr (s := s) (c := c) (by omega) (by omega)
 rw [← hA2, ← hd] at hcut
 have HC := Lib.hid (sclone_any (endL L) A2 c2 _ w hcut (by omega))
 rw [hdl] at HC
 have HR : Hid (r = L.length % 256) := by show r = _; rw [hr', hn]
 have HD := Lib.hid hdl
 clear hn hr hc hcm hl hr' hs hA2 hc2 hd hdl hcut hrn
 go_enter Tryz.func46, Tryz.ntmps46
 go_wp2_with (first
  | (go_at_call 51; (with_reducible refine HC.out.mono ?_); rintro e w1 ⟨A1, c1, rfl, o1, b1⟩))
 go_ret
 exact ⟨A1, r, c1, by rw [HD.out]; rfl, HR.out, by have := o1; unfold Own at this; rw [HD.out] at this; exact this, b1⟩
theorem Tryz.secBuild3P (k e n : Int) (w : World) : Sem.run Tryz.prog (Instr.build 49 #[(0, .int .i64 k), (1, .int .i64 e), (2, .int .i64 n)]) w = .ok (.agg #[.int .i64 k, .int .i64 e, .int .i64 n, .int .i64 0, .slice none 0 0]) w := by kernel_rfl
theorem app_secP {w3 : World} {As : Option Addr} {u N : Nat} {ep : Int} {t : List UInt8} (hS : SL w3 w3.heap.size As ((List.range N).map (partW u ep t))) (hm : ∀ i, i < N → (partW u ep t i).may = true) (i : Nat) (hi : i < N) :
  ∃ b off, As = some ⟨b, off, none⟩ ∧ ∃ (k1 k2 k3 k4 : Int) (dA : Option Addr) (n dc : Nat), (∀ W, Below w3.heap.size w3 W → W.cell? ⟨b, off + i * 5, none⟩ = some (.int .i64 k1) ∧ W.cell? ⟨b, off + i * 5 + 1, none⟩ = some (.int .i64 k2) ∧ W.cell? ⟨b, off + i * 5 + 2, none⟩ = some (.int .i64 k3) ∧ W.cell? ⟨b, off + i * 5 + 3, none⟩ = some (.int .i64 k4) ∧ W.cell? ⟨b, off + i * 5 + 4, none⟩ = some (.slice dA n dc)) ∧
   Hid (∀ W, Below w3.heap.size w3 W → Calls Tryz.prog 71 #[.agg #[.int .i64 k1, .int .i64 k2, .int .i64 k3, .int .i64 k4, .slice dA n dc]] W fun e w' => ∃ A c, e = .returned (.tuple #[.slice A 64 c, .int .i64 0]) ∧ Hid (RB w' w'.heap.size A (partW u ep t i).bytes) ∧ Below W.heap.size W w') := by
 obtain ⟨b, off, e, hlt, hc⟩ := hS (by simp; omega)
 have hi' : i < ((List.range N).map (partW u ep t)).length := by simpa using hi
 have ei : ((List.range N).map (partW u ep t))[i] = partW u ep t i := by simp
 obtain ⟨dA, dc, h1, h2, h3, h4, h5, h6⟩ := hc i hi'
 rw [ei] at h1 h2 h3 h4 h5 h6
 refine ⟨b, off, e, (partW u ep t i).kind, (partW u ep t i).epoch, (partW u ep t i).number, (partW u ep t i).left, dA, (partW u ep t i).data.length, dc, fun W hb => ?_, fun W hb => ?_⟩
 ·have k : ∀ j, W.cell? ⟨b, j, none⟩ = w3.cell? ⟨b, j, none⟩ := fun j => hb.cell (p := ⟨b, j, none⟩) hlt
  exact ⟨by rw [k]; exact h2, by rw [k]; exact h3, by rw [k]; exact h4, by rw [k]; exact h5, by rw [k]; exact h6⟩
 ·have hp := sput_any (partW u ep t i) dA dc W ((h1.below hb).more hb.size) (by
   show ((t.drop (48 * i)).take 48).length ≤ 1000000
   rw [List.length_take]; omega)
  refine hp.mono fun e w' hh => ?_
  obtain ⟨A, c, he, ho, hb'⟩ := hh.1 (hm i hi)
  rw [part_bytes] at he
  exact ⟨A, c, he, own_rb ho, hb'⟩
theorem own_lessP13 {w : World} {base base' n size : Nat} {e : TypeId} {v : Value} {xs : List Value} (h : w.ownsRow base e size v n xs) (hb : base' ≤ base) : w.ownsRow base' e size v n xs :=
 ⟨h.1, h.2.imp id fun ⟨g, cap, cur, h1, h2, h3⟩ => ⟨g, cap, cur, h1, Nat.le_trans hb h2, h3⟩⟩
theorem wsectors_any {w : World} {lg g : Nat} {E : Nat → Prop} {l : Lg} {A : Option Addr} {c : Nat} (h : PLogA w lg g E l A c) (t : List UInt8) (n : Nat) (T : Option Addr) (cT : Nat) (hn : n = t.length) (hl : n ≤ 50000) (hr : RB w w.heap.size T t) (hc : n ≤ cT) (hcm : cT ≤ 9223372036854775807) (h0 : needN t.length ≠ 0) (hf : used l + needN t.length ≤ 1000) (he : 0 ≤ l.epoch ∧ l.epoch ≤ 2147483647) :
  Calls Tryz.prog 48 #[.pointer (some ⟨lg, 0, none⟩), .slice T n cT] w fun e w' => ∃ A' q c', e = .returned (.slice A' q c') ∧ q = 64 * needN t.length ∧ w'.ownsRow w.heap.size 5 1 (.slice A' q c') q (cells (recBytes (used l) l.epoch t)) ∧ Below w.heap.size w w' := by
 obtain ⟨u, hue⟩ : ∃ u, u = used l := ⟨_, rfl⟩
 obtain ⟨N, hNe⟩ : ∃ N, N = needN t.length := ⟨_, rfl⟩
 have r3 := h.r3
 have r5 := h.r5
 obtain ⟨ep, hep⟩ : ∃ ep, ep = l.epoch := ⟨_, rfl⟩
 rw [← hue, ← hNe] at hf
 rw [← hNe] at h0
 have HLt : Hid (lg < w.heap.size) := h.blk.lt
 rw [← hue] at r3 ⊢
 rw [← hep] at r5 he ⊢
 have HSp : Hid (∀ W, Below w.heap.size w W → Calls Tryz.prog 70 #[.agg #[.int .i64 2, .int .i64 ep, .int .i64 (u : Int), .int .i64 0, .slice none 0 0], .slice T n cT] W fun e w' => ∃ A c, e = .returned (.tuple #[.slice A N c, .int .i64 0]) ∧ Hid (SL w' w'.heap.size A ((List.range N).map (partW u ep t))) ∧ Below W.heap.size W w') := fun W hW => by
  have h3 := ssplit_any (base u ep) none 0 t T cT W (by omega) ((hr.below hW).more hW.size) (by omega) hcm (show -9223372036854775808 ≤ (u : Int) ∧ (u : Int) ≤ 9223372036854775807 by omega)
  rw [split_base he (by rw [← hNe]; omega) (by rw [← hNe]; exact h0), ← hNe, ← hn] at h3
  refine h3.mono ?_
  rintro e w' ⟨A, c, he, hs, hb⟩
  rw [List.length_map, List.length_range] at he
  exact ⟨A, c, he, hs, hb⟩
 have HMay : Hid (∀ i, i < N → (partW u ep t i).may = true) := fun i hi => part_mayK he (by rw [← hNe]; omega) (by rw [← hNe]; exact hi)
 have HFin : Hid (recBytes u ep t = recK u ep t N) := by show _ = _; rw [hNe]; rfl
 have HNe := Lib.hid hNe
 have HCell : Hid (∀ (w1 : World) (kd ep nu lf : Int) B (m d : Nat), (w1.alloc (.cells #[.int .i64 kd, .int .i64 ep, .int .i64 nu, .int .i64 lf, .slice B m d] 49)).cell? ⟨w1.heap.size, 0, none⟩ = some (.int .i64 kd) ∧ (w1.alloc (.cells #[.int .i64 kd, .int .i64 ep, .int .i64 nu, .int .i64 lf, .slice B m d] 49)).cell? ⟨w1.heap.size, 1, none⟩ = some (.int .i64 ep) ∧ (w1.alloc (.cells #[.int .i64 kd, .int .i64 ep, .int .i64 nu, .int .i64 lf, .slice B m d] 49)).cell? ⟨w1.heap.size, 2, none⟩ = some (.int .i64 nu) ∧ (w1.alloc (.cells #[.int .i64 kd, .int .i64 ep, .int .i64 nu, .int .i64 lf, .slice B m d] 49)).cell? ⟨w1.heap.size, 3, none⟩ = some (.int .i64 lf) ∧ (w1.alloc (.cells #[.int .i64 kd, .int .i64 ep, .int .i64 nu, .int .i64 lf, .slice B m d] 49)).cell? ⟨w1.heap.size, 4, none⟩ = some (.slice B m d)) := fun w1 kd ep nu lf B m d => by
  have h0 : Blk (w1.alloc (.cells #[.int .i64 kd, .int .i64 ep, .int .i64 nu, .int .i64 lf, .slice B m d] 49)) w1.heap.size 49 #[.int .i64 kd, .int .i64 ep, .int .i64 nu, .int .i64 lf, .slice B m d] := Blk.new w1 _ _
  exact ⟨by rw [h0.cell]; rfl, by rw [h0.cell]; rfl, by rw [h0.cell]; rfl, by rw [h0.cell]; rfl, by rw [h0.cell]; rfl⟩
 have a24 := fun w' => Tryz.aggSec w'
 have s24 := fun w' => Tryz.sizeSec w'
 have n3 := fun k e n w' => Tryz.secBuild3P k e n w'
 have hN1 : N ≤ 1000 := by omega
 rw [← hNe]
 clear h hn hr hc hcm hl hf hue hNe hep he h0
 go_enter Tryz.func48, Tryz.ntmps48
 go_wp2
 have s0 : w.drew.cell? ⟨lg, 3, none⟩ = some (.int .i64 (u : Int)) ∧ w.drew.cell? ⟨lg, 5, none⟩ = some (.int .i64 ep) := ⟨r3, r5⟩
 have bd : Below w.heap.size w w.drew := (Below.refl _ _).drew
 go_region_held3 (fun W => W.cell? ⟨lg, 3, none⟩ = some (.int .i64 (u : Int)) ∧ W.cell? ⟨lg, 5, none⟩ = some (.int .i64 ep))
  (first | exact s0 | exact s3)
  (first
   | (go_at_call 70; (with_reducible refine (HSp.out _ bd).mono ?_); rintro e w3 ⟨As, cs, rfl, hS, b3⟩; have b3w : Below w.heap.size w w3 := chain7 bd b3; have s3 : w3.cell? ⟨lg, 3, none⟩ = some (.int .i64 (u : Int)) ∧ w3.cell? ⟨lg, 5, none⟩ = some (.int .i64 ep) := ⟨(b3.cell (p := ⟨lg, 3, none⟩) HLt.out).trans s0.1, (b3.cell (p := ⟨lg, 5, none⟩) HLt.out).trans s0.2⟩))
 have HB3 := Lib.hid b3w
 clear s0 s3 b3 b3w bd
 go_wp2
 go_loopw [7, 28] (fun v x wr => ∃ (i q1 c1 : Nat) (A1 : Option Addr), i ≤ N ∧ q1 ≤ 64000 ∧ v = .slice A1 q1 c1 ∧ x = .int .i64 (i : Int) ∧ Hid (q1 = 64 * i) ∧ Hid (wr.ownsRow w3.heap.size 5 1 (.slice A1 q1 c1) q1 (cells (recK u ep t i)) ∧ Below w3.heap.size w3 wr)) (fun _ x _ => N - (intOf x).toNat)
 case atStart => exact ⟨0, 0, 0, none, by omega, by omega, rfl, rfl, rfl, World.ownsRow_nil _ _ _ _, Below.refl _ _⟩
 case round =>
  obtain ⟨i, q1, c1, A1, hi, hq1, rfl, rfl, HQ, HI⟩ := hrel
  by_cases hlt : i < N
  ·obtain ⟨b, off, hAs, k1, k2, k3, k4, dA, nd, dc, hcs, HPu⟩ := app_secP hS.out HMay.out i hlt
   obtain ⟨v0, v1, v2, v3, v4⟩ := hcs wr HI.out.2
   obtain ⟨t0, t1, t2, t3, t4⟩ := HCell.out wr k1 k2 k3 k4 dA nd dc
   have HT := Lib.hid (recK_succ (at_ := u) (e := ep) (t := t) i)
   have HP64 := Lib.hid (part_bytes (at_ := u) (e := ep) (t := t) i)
   obtain ⟨PB, hPB⟩ : ∃ x, x = (partW u ep t i).bytes := ⟨_, rfl⟩
   rw [← hPB] at HPu HT HP64
   have d6 : decide ((i : Int) < (N : Int)) = true := decide_eq_true (by omega)
   have d7 : decide (i < N) = true := decide_eq_true hlt
   subst hAs
   have hbA := HI.out.2.alloc HI.out.2.size (.cells #[.int .i64 k1, .int .i64 k2, .int .i64 k3, .int .i64 k4, .slice dA nd dc] 49)
   have HPw := Lib.hid (HPu.out _ hbA)
   have HoA := Lib.hid (HI.out.1.alloc (.cells #[.int .i64 k1, .int .i64 k2, .int .i64 k3, .int .i64 k4, .slice dA nd dc] 49))
   have HbA := Lib.hid hbA
   clear hcs hPB HPu hbA
   have hq64 : q1 + 64 ≤ 64000 := by have := HQ.out; omega
   go_wp2_with (first
    | (go_at_call 71; (with_reducible refine HPw.out.mono ?_); rintro e w4 ⟨A4, c4, rfl, h4, b4⟩; have o4 := own_kept HoA.out b4; have bb4 := HbA.out.trans (b4.mono HbA.out.size))
    | (at_builtin; refine append_rb (B := w3.heap.size) (w0 := w3) (k := q1 + 64) rfl (.tmp 37) (.tmp 38) rfl rfl o4 bb4 (Nat.le_refl _) rfl h4.out HP64.out.symm (by omega) rfl ?_; intro A5 c5 w5 ho5 hb5))
   go_roundw
   case rel =>
    refine ⟨i + 1, q1 + 64, c5, A5, by omega, by omega, rfl, by go_num, by show _ = _; have := HQ.out; omega, ?_, hb5⟩
    rw [HT.out]
    exact ho5
   case measure => simp [intOf]; omega
  ·obtain rfl : i = N := by omega
   have d6 : decide ((i : Int) < (i : Int)) = false := decide_eq_false (by omega)
   have d7 : decide (i < i) = false := decide_eq_false hlt
   go_wp2
   go_ret
   exact ⟨A1, q1, c1, rfl, HQ.out, by rw [HFin.out]; exact own_lessP13 HI.out.1 HB3.out.size, chain7 HB3.out HI.out.2⟩
end
section
open Go.RowKit
theorem addr_zero13 (A : Option Addr) (c : Nat) : (if c = 0 then A else A.map (·.add (0 * 1))) = A := by
 split
 ·rfl
 ·cases A with
  | none => rfl
  | some a => simp [Addr.add]
theorem bsl_to (A : Option Addr) (n c h : Nat) (j : Int) (hj : j = (h : Int)) (h1 : h ≤ c) (W : World) :
  (Instr.sliceAt 39 (.slice A n c) none (some (.int .i64 j)) none).run Tryz.prog W = .ok (.slice A h c) W := by
 subst hj
 have hu : Tryz.prog.underlying 39 = some (.slice (Tryz.prog.elem 39)) := by kernel_rfl
 have he : Tryz.prog.elem 39 = 5 := by kernel_rfl
 have hsz : (sizeOf 5).run Tryz.prog W = .ok 1 W := by kernel_rfl
 have e : (h : Int).toNat = h := by omega
 rw [run_sliceAt_slice _ _ _ _ _ _ hu, run_slice_h _ _ _ _ _ hu .i64 (h : Int) (by omega) (by omega), he, hsz]
 simp only [Result.andThen_ok, e, sliced, Nat.sub_zero, addr_zero13]
theorem bown_empty {w : World} {base n c : Nat} {A : Option Addr} {xs : List Value} (h : w.ownsRow base 5 1 (.slice A n c) n xs) : w.ownsRow base 5 1 (.slice A 0 c) 0 [] := by
 refine ⟨rfl, ?_⟩
 rcases h.2 with ⟨h1, h0⟩ | ⟨g, cap, cur, he, h2, h3, h4, h5, h6, h7⟩
 ·simp only [Value.slice.injEq] at h1
  obtain ⟨rfl, rfl, rfl⟩ := h1
  exact .inl ⟨rfl, rfl⟩
 ·simp only [Value.slice.injEq] at he
  obtain ⟨rfl, -, rfl⟩ := he
  exact .inr ⟨g, c, cur, rfl, h2, h3, Nat.zero_le _, h5, h6, by simp⟩
theorem bzero_bytes (k : Nat) : Builtin.zeroCells (Value.int IntKind.u8 0).cells k = (cells (List.replicate k 0)).toArray := by
 apply Array.toList_inj.1
 apply List.ext_getElem
 ·simp [Builtin.zeroCells, cells, Value.cells]
 ·intro j h1 h2
  simp [Builtin.zeroCells, cells, Value.cells]
  have : j % 1 = 0 := by omega
  simp [this]
theorem bgrow_any (n : Nat) (w : World) (hn : n ≤ 3000000) :
  Calls Tryz.prog 69 #[.slice none 0 0, .int .i64 (n : Int)] w fun e w' => ∃ A c, e = .returned (.slice A 0 c) ∧ w'.ownsRow w.heap.size 5 1 (.slice A 0 c) 0 [] ∧ Below w.heap.size w w' := by
 obtain ⟨i0, hi0, hz0, hz1, hz2⟩ := info_parts Tryz.info5
 by_cases h : n = 0
 ·subst h
  go_enter Tryz.func69, Tryz.ntmps69
  go_wp2
  go_ret
  exact ⟨none, 0, rfl, World.ownsRow_nil _ _ _ _, Below.refl _ _⟩
 ·have d0 : decide (0 < (n : Int)) = true := decide_eq_true (by omega)
  have d1 : decide ((n : Int) > 0) = true := decide_eq_true (by omega)
  have d2 : decide (0 < n) = true := decide_eq_true (by omega)
  have d3 : decide ((n : Int) < 0) = false := decide_eq_false (by omega)
  have s0 : ∀ W, (Instr.sliceAt 39 (.slice none 0 0) none (some (.int .i64 0)) none).run Tryz.prog W = .ok (.slice none 0 0) W := fun W => by
   have := bsl_to none 0 0 0 0 rfl (Nat.le_refl _) W
   simpa using this
  have HN : Hid (n ≠ 0) := h
  clear h
  go_enter Tryz.func69, Tryz.ntmps69
  go_wp2_with (at_builtin; refine wpList_append_make _ rfl (.tmp 20) (.tmp 21) 39 3 rfl w.heap.size 5 i0 _ 1 1 .i64 Tryz.underlying39 Tryz.underlying3 hi0 hz0 hz1 hz2 rfl (by omega) (.slice none 0 0) 0 [] rfl (World.ownsRow_nil _ _ _ _) n rfl (cells (List.replicate n 0)) (bzero_bytes n) (cells_one _) (by simp only [maxLen]; omega) (by omega) (Nat.le_refl _) ?_; intro v2 w2 ho2 hg2 hat2; obtain ⟨A2, c2, rfl⟩ := own_slice7 ho2; have s1 := bsl_to A2 (0 + n) c2 0 0 rfl (Nat.zero_le _); have ho3 := bown_empty ho2)
  go_ret
  exact ⟨_, _, rfl, ho3, (Below.refl _ _).grown hg2 (Nat.le_refl _) (by simp [Value.ownBlock])⟩
def twoN13 (a b k : Nat) : Nat := if k = 0 then 0 else if k = 1 then a else a + b
def twoB13 (X Y : List UInt8) (k : Nat) : List UInt8 := if k = 0 then [] else if k = 1 then X else X ++ Y
theorem bconcat_any (X Y : List UInt8) (a b : Nat) (A B : Option Addr) (cA cB g c : Nat) (w : World) (ha : a = X.length) (hb : b = Y.length) (hla : a ≤ 1000000) (hlb : b ≤ 1000000) (hg : g < w.heap.size)
  (h0 : w.cell? ⟨g, 0, none⟩ = some (.slice A a cA)) (h1 : w.cell? ⟨g, 1, none⟩ = some (.slice B b cB)) (hA : RB w w.heap.size A X) (hB : RB w w.heap.size B Y) :
  Calls Tryz.prog 47 #[.slice (some ⟨g, 0, none⟩) 2 2] w fun e w' => ∃ A c n, e = .returned (.slice A n c) ∧ n = a + b ∧ w'.ownsRow w.heap.size 5 1 (.slice A n c) n (cells (X ++ Y)) ∧ Below w.heap.size w w' := by
 obtain ⟨i0, hi0, hz0, hz1, hz2⟩ := info_parts Tryz.info5
 have HL := Lib.hid (And.intro ha hb)
 have HX := Lib.hid hA
 have HY := Lib.hid hB
 have H0 := Lib.hid h0
 have H1 := Lib.hid h1
 have HG := Lib.hid hg
 have z0 := h0
 have z1 := h1
 clear ha hb hA hB h0 h1 hg
 go_enter Tryz.func47, Tryz.ntmps47
 go_wp2
 go_loop [3, 11] (fun s i => ∃ k : Nat, k ≤ 2 ∧ i = .int .i64 (k : Int) ∧ s = .int .i64 (twoN13 a b k : Int)) (fun _ i => 2 - (intOf i).toNat)
 case atStart => exact ⟨0, by omega, rfl, rfl⟩
 case round =>
  obtain ⟨k, hk, rfl, rfl⟩ := hrel
  by_cases hlt : k < 2
  ·by_cases hk0 : k = 0
   ·subst hk0
    have e0 : twoN13 a b 0 = 0 := rfl
    rw [e0]
    clear e0
    go_wp2
    go_round
    case rel => exact ⟨1, by omega, rfl, by simp [twoN13]⟩
    case measure => simp [intOf]
   ·obtain rfl : k = 1 := by omega
    have e0 : twoN13 a b 1 = a := rfl
    rw [e0]
    clear e0
    go_wp2
    go_round
    case rel => exact ⟨2, by omega, rfl, by simp [twoN13]⟩
    case measure => simp [intOf]
  ·obtain rfl : k = 2 := by omega
   have e0 : twoN13 a b 2 = a + b := rfl
   obtain ⟨t, ht⟩ : ∃ t, t = a + b := ⟨_, rfl⟩
   rw [e0, ← ht]
   have HGr : Hid (Calls Tryz.prog 69 #[.slice none 0 0, .int .i64 (t : Int)] w fun e w' => ∃ A c, e = .returned (.slice A 0 c) ∧ w'.ownsRow w.heap.size 5 1 (.slice A 0 c) 0 [] ∧ Below w.heap.size w w') := bgrow_any t w (by omega)
   have HT := Lib.hid ht
   clear e0 ht
   go_wp2_with (go_at_call 69; (with_reducible refine HGr.out.mono ?_); rintro e w1 ⟨A1, c1, rfl, ho1, hb1⟩)
   have HO1 := Lib.hid ho1
   have HB1 := Lib.hid hb1
   clear ho1 hb1
   go_loopw [6, 27] (fun v i wr => ∃ k : Nat, k ≤ 2 ∧ i = .int .i64 (k : Int) ∧ ∃ (A : Option Addr) (q cc : Nat), v = .slice A q cc ∧ q ≤ 2000000 ∧ Hid (q = twoN13 a b k ∧ wr.ownsRow w.heap.size 5 1 (.slice A q cc) q (cells (twoB13 X Y k))) ∧ Hid (Below w.heap.size w wr)) (fun _ i _ => 2 - (intOf i).toNat)
   case atStart => exact ⟨0, by omega, rfl, A1, 0, c1, rfl, by omega, ⟨rfl, HO1.out⟩, HB1.out⟩
   case round =>
    obtain ⟨k, hk, rfl, A2, q, c2, rfl, hq, HO, HB⟩ := hrel
    by_cases hlt : k < 2
    ·by_cases hk0 : k = 0
     ·subst hk0
      obtain ⟨hq0, ho⟩ := HO.out
      obtain rfl : q = 0 := hq0
      have k0 := (HB.out.cell (p := ⟨g, 0, none⟩) HG.out).trans H0.out
      have hrd : Reads wr w.heap.size 1 A a (cells X) := by
       have h2 := HX.out.below HB.out
       unfold RB at h2
       rwa [← HL.out.1] at h2
      clear z0 z1
      go_wp2_with (at_builtin; refine wpList_append_any _ rfl (.tmp 31) (.tmp 32) 39 rfl w.heap.size 5 i0 _ 1 1 Tryz.underlying39 hi0 hz0 hz1 hz2 rfl (by omega) (.slice A2 0 c2) 0 _ rfl ho w.heap.size A a cA (cells X) rfl hrd (cells_one _) (by simp only [maxLen]; omega) (by omega) HB.out.size ?_; intro v3 w3 ho3 hg3 hat3; obtain ⟨A3, c3, rfl⟩ := own_slice7 ho3)
      have hb3 : Below w.heap.size w w3 := HB.out.grown hg3 HB.out.size (fun j hj => (ho.lt j hj).1)
      go_roundw
      case rel =>
       refine ⟨1, by omega, rfl, A3, a, c3, rfl, by omega, ⟨by simp [twoN13], ?_⟩, hb3⟩
       simpa [twoB13, cells] using ho3
      case measure => simp [intOf]
     ·obtain rfl : k = 1 := by omega
      obtain ⟨hq0, ho⟩ := HO.out
      have hq1 : q = a := hq0
      have k0 := (HB.out.cell (p := ⟨g, 1, none⟩) HG.out).trans H1.out
      have hrd : Reads wr w.heap.size 1 B b (cells Y) := by
       have h2 := HY.out.below HB.out
       unfold RB at h2
       rwa [← HL.out.2] at h2
      have HQ := Lib.hid hq1
      clear z0 z1 hq0 hq1
      go_wp2_with (at_builtin; refine wpList_append_any _ rfl (.tmp 31) (.tmp 32) 39 rfl w.heap.size 5 i0 _ 1 1 Tryz.underlying39 hi0 hz0 hz1 hz2 rfl (by omega) (.slice A2 q c2) q _ rfl ho w.heap.size B b cB (cells Y) rfl hrd (cells_one _) (by simp only [maxLen]; omega) (by omega) HB.out.size ?_; intro v3 w3 ho3 hg3 hat3; obtain ⟨A3, c3, rfl⟩ := own_slice7 ho3)
      have hb3 : Below w.heap.size w w3 := HB.out.grown hg3 HB.out.size (fun j hj => (ho.lt j hj).1)
      go_roundw
      case rel =>
       refine ⟨2, by omega, rfl, A3, q + b, c3, rfl, by have := HQ.out; omega, ⟨by rw [HQ.out]; rfl, ?_⟩, hb3⟩
       have e1 : twoB13 X Y 2 = X ++ Y := rfl
       have e2 : twoB13 X Y 1 = X := rfl
       rw [e2] at ho3
       rw [e1, cells_append]
       exact ho3
      case measure => simp [intOf]
    ·obtain rfl : k = 2 := by omega
     clear z0 z1
     go_wp2
     go_ret
     exact ⟨A2, c2, q, rfl, HO.out.1, HO.out.2, HB.out⟩
end
section
open Go.RowKit
open Wal
theorem Tryz.textsInfo : (Tryz.prog.info? 39).map (fun i => (i.zero, i.size, i.bytes)) = some (some (.slice none 0 0), 1, 24) := by kernel_rfl
theorem rec_room {sec : Sec} {N at_ : Nat} {least most : Int} {t : List UInt8} {n : Nat} (h : recordW sec N at_ least most = some (t, n)) : 0 < n ∧ at_ + n ≤ N := by
 obtain ⟨e, _, _, h3, h4⟩ := rec_only h
 exact ⟨by rw [h4]; exact h3.1, by rw [h4]; exact h3.2.2.1⟩
def RecsTo (sec : Sec) (N : Nat) (least most : Int) (a : Nat) (l : List (List UInt8)) : Prop :=
 ∃ f, N - a < f ∧ recordsW sec N least most (N + 1) 0 = (l ++ (recordsW sec N least most f a).1, (recordsW sec N least most f a).2)
section
variable {sec : Sec} {N a : Nat} {least most : Int} {l : List (List UInt8)} {t : List UInt8} {n : Nat}
theorem RecsTo.start : RecsTo sec N least most 0 [] := ⟨N + 1, by omega, rfl⟩
theorem RecsTo.next (h : RecsTo sec N least most a l) (hr : recordW sec N a least most = some (t, n)) : RecsTo sec N least most (a + n) (l ++ [t]) := by
 obtain ⟨f, hf, he⟩ := h
 obtain ⟨g, rfl⟩ : ∃ g, f = g + 1 := ⟨f - 1, by omega⟩
 obtain ⟨h1, h2⟩ := rec_room hr
 refine ⟨g, by omega, ?_⟩
 rw [he, recordsW, hr]
 simp
theorem RecsTo.end (h : RecsTo sec N least most a l) (hr : recordW sec N a least most = none) : recordsW sec N least most (N + 1) 0 = (l, a) := by
 obtain ⟨f, hf, he⟩ := h
 obtain ⟨g, rfl⟩ : ∃ g, f = g + 1 := ⟨f - 1, by omega⟩
 rw [he, recordsW, hr]
 simp
end
def GivesRs (r : List (List UInt8) × Nat) (w : World) (e : Ending) (w' : World) : Prop :=
 ∃ A c, e = .returned (.tuple #[.slice A r.1.length c, .int .i64 (r.2 : Int)]) ∧ BL w' (fun k => w.heap.size ≤ k) A r.1 ∧ Below w.heap.size w w'
theorem rrecords_any (area : List UInt8) (n : Nat) (A : Option Addr) (c : Nat) (least most : Int) (w : World) (hn : n = area.length) (hr : RB w w.heap.size A area) (hc : n ≤ c) (hcm : c ≤ 9223372036854775807) (hl : n ≤ 64000) :
  Calls Tryz.prog 53 #[.slice A n c, .int .i64 least, .int .i64 most] w (GivesRs (recordsA area least most) w) := by
 have HV : Hid (recordsA area least most = recordsW (secA area) (n / 64) least most (n / 64 + 1) 0) := by show _ = _; rw [hn]; rfl
 obtain ⟨N, hN⟩ : ∃ N, N = n / 64 := ⟨_, rfl⟩
 rw [← hN] at HV
 have hN1 : N ≤ 1000 := by omega
 obtain ⟨i0, hi0, hz0, hz1, hz2⟩ := info_parts Tryz.textsInfo
 have HRec : Hid (∀ (a : Nat) W, a ≤ 1000 → Below w.heap.size w W → Calls Tryz.prog 78 #[.slice A n c, .int .i64 (a : Int), .int .i64 least, .int .i64 most] W (GivesRec (recordW (secA area) N a least most) W)) := fun a W ha hW => by
  rw [hN]
  exact rrecord_any area n A c a least most W hn ((hr.below hW).more hW.size) hc hcm hl ha
 clear hn hr hc hcm hN hl
 go_enter Tryz.func53, Tryz.ntmps53
 go_wp2
 go_loopw [8, 9, 10, 11] (fun v x _ _ wr => ∃ (k a : Nat) (A' : Option Addr) (c' : Nat) (rows : List (List UInt8 × Option Addr × Nat)), k ≤ a ∧ a ≤ N ∧ v = .slice A' k c' ∧ x = .int .i64 (a : Int) ∧ Hid (rows.length = k ∧ RecsTo (secA area) N least most a (rows.map (·.1)) ∧ ∀ x ∈ rows, Own wr w.heap.size x.2.1 x.1 x.2.2) ∧ Hid (wr.ownsRow w.heap.size 39 1 (.slice A' k c') k (rowT rows)) ∧ Hid (Below w.heap.size w wr)) (fun _ x _ _ _ => N - (intOf x).toNat)
 case atStart => exact ⟨0, 0, none, 0, [], by omega, by omega, rfl, rfl, ⟨rfl, RecsTo.start, fun x hx => absurd hx (by simp)⟩, World.ownsRow_nil _ _ _ _, Below.refl _ _⟩
 case round =>
  obtain ⟨k, a, A', c', rows, hka, haN, rfl, rfl, HS, HW, HB⟩ := hrel
  obtain ⟨R, hR⟩ : ∃ R, recordW (secA area) N a least most = R := ⟨_, rfl⟩
  have HC := HRec.out a wr (by omega) HB.out
  rw [hR] at HC
  cases R with
  | none =>
   have HE : Hid (recordsA area least most = (rows.map (·.1), a)) := by show _ = _; rw [HV.out]; exact HS.out.2.1.end hR
   have HC1 : Hid (Calls Tryz.prog 78 #[.slice A n c, .int .i64 (a : Int), .int .i64 least, .int .i64 most] wr fun e w' => ∃ B d, e = .returned (.tuple #[.slice B 0 d, .int .i64 0]) ∧ Below wr.heap.size wr w') := HC.mono fun e w' ⟨B, d, he, _, hb⟩ => ⟨B, d, he, hb⟩
   clear hR HC
   go_wp2_with (first
    | (go_at_call 78; (with_reducible refine HC1.out.mono ?_); rintro e w1 ⟨B1, e1, rfl, b1⟩))
   go_ret2
   rw [HE.out]
   refine ⟨A', c', by rw [List.length_map, HS.out.1]; rfl, ?_, chain7 HB.out b1⟩
   have h3 := BL.of_own HW.out HS.out.1.symm HS.out.2.2
   exact h3.up b1
  | some x =>
   obtain ⟨t, q⟩ := x
   obtain ⟨hq0, hqN⟩ := rec_room hR
   obtain ⟨tl, htl⟩ : ∃ tl, tl = t.length := ⟨_, rfl⟩
   have HTl := Lib.hid htl
   have HN2 := Lib.hid (HS.out.2.1.next hR)
   have HC1 : Hid (Calls Tryz.prog 78 #[.slice A n c, .int .i64 (a : Int), .int .i64 least, .int .i64 most] wr fun e w' => ∃ B d, e = .returned (.tuple #[.slice B tl d, .int .i64 (q : Int)]) ∧ Hid (Own w' wr.heap.size B t d) ∧ Below wr.heap.size wr w') := HC.mono fun e w' ⟨B, d, he, ho, hb⟩ => ⟨B, d, by rw [htl]; exact he, ho, hb⟩
   have d0 : ((q : Int) == 0) = false := by rw [beq_eq_false_iff_ne]; omega
   have d1 : decide ((q : Int) = 0) = false := decide_eq_false (by omega)
   have d2 : decide (q = 0) = false := decide_eq_false (by omega)
   have y0 : IntKind.i64.wrap ((a : Int) + (q : Int)) = (a : Int) + (q : Int) := IntWalk.i64_in _ (by omega)
   clear hR HC htl
   go_wp2_with (first
    | (go_at_call 78; (with_reducible refine HC1.out.mono ?_); rintro e w1 ⟨B1, e1, rfl, o1, b1⟩; have bb1 := Lib.hid (chain7 HB.out b1); have ow1 : w1.ownsRow w.heap.size 39 1 (.slice A' k c') k (rowT rows) := own_turns HW.out (Turns.of_below b1 (fun _ => False)) (fun _ _ h => h))
    | (at_builtin; refine wpList_append_any _ rfl (.tmp 24) (.tmp 26) _ rfl w.heap.size 39 i0 _ 1 24 Tryz.underlying53 hi0 hz0 hz1 hz2 rfl (by omega) (.slice A' k c') k (rowT rows) rfl (ow1.alloc _) (w1.heap.size + 1) (some ⟨w1.heap.size, 0, none⟩) 1 1 [.slice B1 tl e1] rfl (text_src w1 _ _) (rowT_one _ _ _) (by simp only [maxLen]; omega) (by omega) (by have := bb1.out.size; simp; omega) ?_; intro v9 w9 ho9 hg9 hat9; obtain ⟨A9, c9, rfl⟩ := own_slice7 ho9))
   have hb9 : Below w.heap.size w w9 := (bb1.out.alloc bb1.out.size _).grown hg9 (by have := bb1.out.size; simp at this ⊢; omega) (fun j hj => (ow1.lt j hj).1)
   have hk : ∀ x : List UInt8 × Option Addr × Nat, Own w1 w.heap.size x.2.1 x.1 x.2.2 → Own w9 w.heap.size x.2.1 x.1 x.2.2 := fun x hx => World.ownsRow.kept (hx.alloc _) hg9 (own_apart13 hx ow1 (by decide))
   have hrow : rowT rows ++ [.slice B1 tl e1] = rowT (rows ++ [(t, B1, e1)]) := by rw [rowT_snoc, HTl.out]
   rw [hrow] at ho9
   refine ⟨⟨k + 1, a + q, A9, c9, rows ++ [(t, B1, e1)], by omega, by omega, rfl, by go_num, ⟨by rw [List.length_append, HS.out.1]; rfl, by rw [List.map_append]; exact HN2.out, fun x hx => ?_⟩, Lib.hid ho9, hb9⟩, ?_⟩
   ·rcases List.mem_append.1 hx with h1 | h1
    ·exact hk x (own_kept (HS.out.2.2 x h1) b1)
    ·rw [List.mem_singleton.1 h1]
     exact hk (t, B1, e1) (own_less o1.out HB.out.size)
   ·simp [intOf]; omega
end
section
open Go.RowKit
theorem mayL_zero (m : Nat) (h1 : 16 ≤ m) (h2 : m ≤ 1024) : Dk.mayL (List.replicate (256 * m) 0) := by
 unfold Dk.mayL
 rw [List.length_replicate]
 omega
theorem rblank_any (m : Nat) (w : World) (h1 : 16 ≤ m) (h2 : m ≤ 1024) :
  Calls Tryz.prog 8 #[.int .i64 (m : Int)] w fun e w' => ∃ g G B, e = .returned (.tuple #[.pointer (some ⟨g, 0, none⟩), .int .i64 0]) ∧ GivesRef (Dk.blank m) w w' g G B := by
 obtain ⟨i0, hi0, hz0, hz1, hz2⟩ := info_parts Tryz.info5
 have hby : i0.bytes = 1 := hz2
 have HF : Hid (∀ W, Calls Tryz.prog 26 #[.int .i64 (m : Int)] W fun e w' => e = .returned (.bool true) ∧ W = w') := fun W => by
  have := may_any (m : Int) W
  rwa [decide_eq_true (by omega)] at this
 obtain ⟨n, hn⟩ : ∃ n, n = 256 * m := ⟨_, rfl⟩
 have n0 := fun w' => Tryz.notTrue w'
 have e1 : (256 : Int) * (m : Int) = (n : Int) := by omega
 have u0 : (0 : Int) ≤ (n : Int) := by omega
 have u1 : n ≤ 1000000 := by omega
 have u4 : IntKind.i64.wrap (n : Int) = (n : Int) := IntWalk.i64_in _ (by omega)
 have HO : Hid (∀ W A, RB W W.heap.size A (List.replicate n 0) → Calls Tryz.prog 14 #[.slice A n n] W fun e w' => ∃ g G B, e = .returned (.tuple #[.pointer (some ⟨g, 0, none⟩), .int .i64 0]) ∧ GivesRef (Dk.blank m) W w' g G B) := fun W A hr => by
  have h := rload_any (List.replicate n 0) A n n W hr (by simp) (Nat.le_refl _) (by omega) (by rw [hn]; exact mayL_zero m h1 h2)
  rw [hn] at h ⊢
  rwa [Dk.ofImage_zero] at h
 clear hn h1 h2
 go_enter Tryz.func8, Tryz.ntmps8
 go_wp2_with (first
  | (go_at_call 26; (with_reducible refine (HF.out _).mono ?_); rintro e w1 ⟨rfl, rfl⟩)
  | (at_make; refine wpList_make_full _ rfl _ _ 39 rfl w.heap.size 5 i0 _ 1 Tryz.underlying39 hi0 hz0 hz1 .i64 .i64 _ _ n rfl rfl rfl rfl (by rw [hby]; omega) (by unfold maxLen; omega) (Nat.le_refl _) ?_; intro w2 ho2 hg2)
  | (go_at_call 14; (with_reducible refine (HO.out _ _ (made_rb ho2)).mono ?_); rintro e w3 ⟨g, G, B, rfl, hG⟩))
 go_ret2
 have b2 : Below w.heap.size w w2 := (Below.refl _ _).grown hg2 (Nat.le_refl _) (by simp)
 exact ⟨g, G, B, rfl, hG.1, b2.trans (hG.2.1.mono b2.size), fun k hk => Nat.le_trans b2.size (hG.2.2.1 k hk), fun k hk => Nat.le_trans b2.size (hG.2.2.2 k hk)⟩
end
end Go.Proofs.YtghenhacndaelaaGreat
