/- Lemmas under the proofs of this place: WalPNext, WalPRead, WalPTurn, WalPWrite, WalRRecord, DiskGives. No statement is proved here. -/
import Derived.Test.YtghenhacndaelaaGreatBu21
import Derived.Test.YtghenhacndaelaaGreatBu12
import Derived.Test.YtghenhacndaelaaGreatBu14
import Derived.Test.YtghenhacndaelaaGreatBu17
import Derived.Test.YtghenhacndaelaaGreatBu01
import Derived.Test.YtghenhacndaelaaGreatBu07
import Derived.Test.YtghenhacndaelaaGreatBu20
import Derived.Test.YtghenhacndaelaaGreatBu22
import Derived.Deep.RegionHeld3
set_option linter.unusedSimpArgs false
set_option linter.unusedVariables false
set_option maxRecDepth 100000
set_option maxHeartbeats 16000000
namespace Go.Proofs.YtghenhacndaelaaGreat
section
open Go.RowKit
open Wal
theorem bsl_from (A : Option Addr) (n c s : Nat) (i : Int) (hi : i = (s : Int)) (h1 : s ≤ n) (h2 : n ≤ c) (W : World) :
  (Instr.sliceAt 39 (.slice A n c) (some (.int .i64 i)) none none).run Tryz.prog W = .ok (.slice (if c = s then A else A.map (·.add (s * 1))) (n - s) (c - s)) W := by
 subst hi
 have hu : Tryz.prog.underlying 39 = some (.slice (Tryz.prog.elem 39)) := by kernel_rfl
 have he : Tryz.prog.elem 39 = 5 := by kernel_rfl
 have hsz : (sizeOf 5).run Tryz.prog W = .ok 1 W := by kernel_rfl
 have e : (s : Int).toNat = s := by omega
 rw [run_sliceAt_slice _ _ _ _ _ _ hu, run_slice_l _ _ _ _ _ hu .i64 (s : Int) (by omega) (by omega), he, hsz]
 simp only [Result.andThen_ok, e, sliced]
theorem rb_cut13 {w : World} {B : Nat} {A : Option Addr} {L : List UInt8} (h : RB w B A L) {s c : Nat} (hs : s ≤ L.length) (hc : L.length ≤ c) : RB w B (if c = s then A else A.map (·.add (s * 1))) (L.drop s) := by
 have h2 := Reads.cut h (k := s) (cap := c) hs hc
 rw [Nat.mul_one, cells_drop] at h2
 unfold RB
 rw [List.length_drop, Nat.mul_one]
 exact h2
theorem if_block {A : Option Addr} {c s : Nat} {P : Nat → Prop} (h : ∀ ad, A = some ad → P ad.block) : ∀ ad, (if c = s then A else A.map (fun a => a.add (s * 1))) = some ad → P ad.block := fun ad e => by
 split at e
 ·exact h ad e
 ·cases A with
  | none => cases e
  | some a =>
   simp only [Option.map_some, Option.some.injEq] at e
   rw [← e, block_of_add]
   exact h a rfl
structure AreaAt (w : World) (ga : Nat) (img : List UInt8) (j : Nat) (least most : Int) (bb n : Nat) (A : Option Addr) (c : Nat) : Prop where
 blk : Blk w ga 80 #[.slice A n c, .int .i64 (j : Int), .int .i64 least, .int .i64 most]
 left : RB w bb A (img.drop (64 * j))
 le : bb ≤ w.heap.size
 len : n = img.length - 64 * j
 cap : n ≤ c ∧ c ≤ 9223372036854775807
 ne : ∀ ad, A = some ad → ad.block ≠ ga
def Area13 (w : World) (ga : Nat) (img : List UInt8) (j : Nat) (least most : Int) (bb : Nat) : Prop := ∃ n A c, AreaAt w ga img j least most bb n A c
theorem AreaAt.below {w w' : World} {ga : Nat} {img : List UInt8} {j : Nat} {least most : Int} {bb n : Nat} {A : Option Addr} {c : Nat} (h : AreaAt w ga img j least most bb n A c) (hb : Below w.heap.size w w') : AreaAt w' ga img j least most bb n A c :=
 ⟨Blk.below h.blk hb h.blk.lt, h.left.below (hb.mono h.le), Nat.le_trans h.le hb.size, h.len, h.cap, h.ne⟩
theorem Area13.below {w w' : World} {ga : Nat} {img : List UInt8} {j : Nat} {least most : Int} {bb : Nat} (h : Area13 w ga img j least most bb) (hb : Below w.heap.size w w') : Area13 w' ga img j least most bb := by
 obtain ⟨n, A, c, h⟩ := h; exact ⟨n, A, c, h.below hb⟩
theorem Area13.grown {w w' : World} {ga : Nat} {img : List UInt8} {j : Nat} {least most : Int} {bb : Nat} {row : Option Nat} (h : Area13 w ga img j least most bb) (hg : w.grownBy w' row) (hn : ∀ k, row = some k → bb ≤ k ∧ k ≠ ga) : Area13 w' ga img j least most bb := by
 obtain ⟨n, A, c, h⟩ := h
 refine ⟨n, A, c, h.blk.grown hg (fun e => (hn ga e.symm).2 rfl), Reads.grown h.left hg h.le (fun k e => (hn k e).1), Nat.le_trans h.le hg.size, h.len, h.cap, h.ne⟩
theorem Area13.lt {w : World} {ga : Nat} {img : List UInt8} {j : Nat} {least most : Int} {bb : Nat} (h : Area13 w ga img j least most bb) : ga < w.heap.size ∧ bb ≤ w.heap.size := by
 obtain ⟨n, A, c, h⟩ := h; exact ⟨h.blk.lt, h.le⟩
theorem no8_area {A : Option Addr} {n c : Nat} {a b d : Int} : No8 #[.slice A n c, .int .i64 a, .int .i64 b, .int .i64 d] := by
 intro j z
 match j with
 | 0 => simp
 | 1 => simp
 | 2 => simp
 | 3 => simp
 | j + 4 => simp
theorem Area13.rb {w w' : World} {ga : Nat} {img : List UInt8} {j : Nat} {least most : Int} {bb : Nat} (h : Area13 w ga img j least most bb) (ho : Only w w' ga) {A : Option Addr} {L : List UInt8} (hr : RB w w.heap.size A L) : RB w' w'.heap.size A L := by
 obtain ⟨n, B, c, h⟩ := h
 exact rb_only8 hr h.blk no8_area ho
def NextNo (ga : Nat) (img : List UInt8) (j : Nat) (least most : Int) (bb : Nat) (w : World) (e : Ending) (w' : World) : Prop :=
 e = .returned (.tuple #[.agg #[.int .i64 0, .int .i64 0, .int .i64 0, .int .i64 0, .slice none 0 0], .bool false]) ∧ Below w.heap.size w w'
def NextYes (ga : Nat) (img : List UInt8) (j : Nat) (least most : Int) (bb : Nat) (s : Sd) (w : World) (e : Ending) (w' : World) : Prop :=
 ∃ B d, e = .returned (.tuple #[secV s B d, .bool true]) ∧ RB w' w'.heap.size B s.data ∧ (∀ ad, B = some ad → w.heap.size ≤ ad.block) ∧ Area13 w' ga img (j + 1) least most bb ∧ Only w w' ga
theorem wnext_end {w : World} {ga : Nat} {img : List UInt8} {j N : Nat} {least most : Int} {bb : Nat} (h : Area13 w ga img j least most bb) (hN : img.length = 64 * N) (hj : N ≤ j) :
  Calls Tryz.prog 44 #[.pointer (some ⟨ga, 0, none⟩)] w (NextNo ga img j least most bb w) := by
 obtain ⟨n, A, c, h⟩ := h
 have r0 : w.cell? ⟨ga, 0, none⟩ = some (.slice A n c) := by rw [h.blk.cell]; rfl
 have hn : n = 0 := by have := h.len; omega
 subst hn
 have nb := fun w' => Tryz.secBuild0 w'
 have a24 := fun w' => Tryz.aggSec w'
 have s24 := fun w' => Tryz.sizeSec w'
 have hlt := h.blk.lt
 clear h hN hj
 go_enter Tryz.func44, Tryz.ntmps44
 go_wp2
 refine bodyPost_ret (v := .tuple #[.agg #[.int .i64 0, .int .i64 0, .int .i64 0, .int .i64 0, .slice none 0 0], .bool false]) (by simp [results, Tryz.results44, go_sem]) rfl ⟨rfl, ?_⟩
 have h0 : Below w.heap.size w (w.alloc (.cells #[.int .i64 0, .int .i64 0, .int .i64 0, .int .i64 0, .slice none 0 0] 49)) := (Below.refl _ _).alloc (Nat.le_refl _) _
 first
  | (with_reducible exact h0)
  | exact below_five h0 (Nat.le_refl _) _ _ _ _ _
theorem wnext_bad {w : World} {ga : Nat} {img : List UInt8} {j N : Nat} {least most : Int} {bb : Nat} (h : Area13 w ga img j least most bb) (hN : img.length = 64 * N) (hN1 : N ≤ 1000) (hj : j < N) (hb : (secA img j).2 ≠ 0) :
  Calls Tryz.prog 44 #[.pointer (some ⟨ga, 0, none⟩)] w (NextNo ga img j least most bb w) := by
 obtain ⟨n, A, c, h⟩ := h
 have hn := h.len
 have hcp := h.cap
 have hlt := h.blk.lt
 obtain ⟨b0, o, rfl, hb0, _⟩ := h.left.at_ (by rw [List.length_drop]; omega)
 have r0 : w.cell? ⟨ga, 0, none⟩ = some (.slice (some ⟨b0, o, none⟩) n c) := by rw [h.blk.cell]; rfl
 have nb := fun w' => Tryz.secBuild0 w'
 have a24 := fun w' => Tryz.aggSec w'
 have s24 := fun w' => Tryz.sizeSec w'
 have n0 := fun w' => Tryz.notFalse w'
 have n1 := fun w' => Tryz.notTrue w'
 have hn0 : ((n : Int) == 0) = false := by rw [beq_eq_false_iff_ne]; omega
 have hn2 : decide ((n : Int) = 0) = false := decide_eq_false (by omega)
 have ks := fun W => sl_to b0 o n c 64 64 rfl (by omega) (by omega) W
 obtain ⟨⟨kd, ep, nu, lf, D⟩, z, hsz⟩ : ∃ s z, secA img j = (s, z) := ⟨_, _, rfl⟩
 obtain ⟨m, hm⟩ : ∃ m, m = D.length := ⟨_, rfl⟩
 have HM := Lib.hid hm
 have HSZ := Lib.hid hsz
 have HAt := Lib.hid h
 have hln : (secL img j).length = 64 := by unfold secL; rw [List.length_take, List.length_drop]; omega
 have HGet : Hid (∀ W, Below w.heap.size w W → Calls Tryz.prog 68 #[.slice (some ⟨b0, o, none⟩) 64 c] W fun e w' => ∃ B d, e = .returned (.tuple #[.agg #[.int .i64 kd, .int .i64 ep, .int .i64 nu, .int .i64 lf, .slice B m d], .int .i64 z]) ∧ Hid (RB w' w'.heap.size B D) ∧ Hid (Below W.heap.size W w') ∧ Hid (∀ ad, B = some ad → w.heap.size ≤ ad.block)) := fun W hW => by
  have hr := rb_take ((h.left.below (hW.mono h.le)).more (Nat.le_trans h.le hW.size)) 64 (by rw [List.length_drop]; omega)
  have h3 := sget_new (secL img j) (some ⟨b0, o, none⟩) c W hr (by rw [hln]; omega) hcp.2 (by rw [hln]; omega)
  rw [hln] at h3
  refine h3.mono ?_
  rintro e w' ⟨B, d, he, hrb, hnw, hb⟩
  have h6 : getS (secL img j) = (⟨kd, ep, nu, lf, D⟩, z) := hsz
  rw [h6] at he hrb
  unfold secV at he
  simp only [] at he
  rw [← hm] at he
  exact ⟨B, d, he, hrb, hb, fun ad e => Nat.le_trans hW.size (hnw ad e)⟩
 have HC : Hid (∀ W, Below w.heap.size w W → (W.cell? ⟨ga, 0, none⟩ = some (.slice (some ⟨b0, o, none⟩) n c) ∧ W.cell? ⟨ga, 1, none⟩ = some (.int .i64 (j : Int)) ∧ W.cell? ⟨ga, 2, none⟩ = some (.int .i64 least) ∧ W.cell? ⟨ga, 3, none⟩ = some (.int .i64 most)) ∧ (W.frozen? ⟨ga, 0, none⟩ = false ∧ W.frozen? ⟨ga, 1, none⟩ = false)) := fun W hW => by
  have h0 := Blk.below h.blk hW hlt
  exact ⟨⟨by rw [h0.cell]; rfl, by rw [h0.cell]; rfl, by rw [h0.cell]; rfl, by rw [h0.cell]; rfl⟩, h0.frozen 0, h0.frozen 1⟩
 have HS : Hid (∀ (w1 : World) B d W, Below (w1.alloc (.cells #[.int .i64 kd, .int .i64 ep, .int .i64 nu, .int .i64 lf, .slice B m d] 49)).heap.size (w1.alloc (.cells #[.int .i64 kd, .int .i64 ep, .int .i64 nu, .int .i64 lf, .slice B m d] 49)) W → W.cell? ⟨w1.heap.size, 0, none⟩ = some (.int .i64 kd) ∧ W.cell? ⟨w1.heap.size, 1, none⟩ = some (.int .i64 ep) ∧ W.cell? ⟨w1.heap.size, 2, none⟩ = some (.int .i64 nu) ∧ W.cell? ⟨w1.heap.size, 3, none⟩ = some (.int .i64 lf) ∧ W.cell? ⟨w1.heap.size, 4, none⟩ = some (.slice B m d)) := fun w1 B d W hb => by
  have h0 : Blk W w1.heap.size 49 #[.int .i64 kd, .int .i64 ep, .int .i64 nu, .int .i64 lf, .slice B m d] := Blk.below (Blk.new w1 _ _) hb (by simp)
  exact ⟨by rw [h0.cell]; rfl, by rw [h0.cell]; rfl, by rw [h0.cell]; rfl, by rw [h0.cell]; rfl, by rw [h0.cell]; rfl⟩
 have HR : Hid (∀ W, Below (w.alloc (.cells #[.int .i64 0, .int .i64 0, .int .i64 0, .int .i64 0, .slice none 0 0] 49)).heap.size (w.alloc (.cells #[.int .i64 0, .int .i64 0, .int .i64 0, .int .i64 0, .slice none 0 0] 49)) W → (W.cell? ⟨w.heap.size, 0, none⟩ = some (.int .i64 0) ∧ W.cell? ⟨w.heap.size, 1, none⟩ = some (.int .i64 0) ∧ W.cell? ⟨w.heap.size, 2, none⟩ = some (.int .i64 0) ∧ W.cell? ⟨w.heap.size, 3, none⟩ = some (.int .i64 0) ∧ W.cell? ⟨w.heap.size, 4, none⟩ = some (.slice none 0 0)) ∧ W.frozen? ⟨w.heap.size, 0, none⟩ = false ∧ W.frozen? ⟨w.heap.size, 1, none⟩ = false ∧ W.frozen? ⟨w.heap.size, 2, none⟩ = false ∧ W.frozen? ⟨w.heap.size, 3, none⟩ = false ∧ W.frozen? ⟨w.heap.size, 4, none⟩ = false) := fun W hb => by
  have h0 : Blk W w.heap.size 49 #[.int .i64 0, .int .i64 0, .int .i64 0, .int .i64 0, .slice none 0 0] := Blk.below (Blk.new w _ _) hb (by simp)
  exact ⟨⟨by rw [h0.cell]; rfl, by rw [h0.cell]; rfl, by rw [h0.cell]; rfl, by rw [h0.cell]; rfl, by rw [h0.cell]; rfl⟩, h0.frozen 0, h0.frozen 1, h0.frozen 2, h0.frozen 3, h0.frozen 4⟩
 have HRB : Hid (∀ W, Below (w.alloc (.cells #[.int .i64 0, .int .i64 0, .int .i64 0, .int .i64 0, .slice none 0 0] 49)).heap.size (w.alloc (.cells #[.int .i64 0, .int .i64 0, .int .i64 0, .int .i64 0, .slice none 0 0] 49)) W → Blk W w.heap.size 49 #[.int .i64 0, .int .i64 0, .int .i64 0, .int .i64 0, .slice none 0 0]) := fun W hb => Blk.below (Blk.new w _ _) hb (by simp)
 have hb1 : Below w.heap.size w (w.alloc (.cells #[.int .i64 0, .int .i64 0, .int .i64 0, .int .i64 0, .slice none 0 0] 49)) := (Below.refl _ _).alloc (Nat.le_refl _) _
 have HB1 := Lib.hid hb1
 have p0 : z ≠ 0 := by rw [hsz] at hb; exact hb
 have p1 : (z != 0) = true := by rw [bne_iff_ne]; exact p0
 have p2 : (z == 0) = false := by rw [beq_eq_false_iff_ne]; exact p0
 clear hb p0
 clear h hN hj hm hsz hn hcp hln hb0
 go_enter Tryz.func44, Tryz.ntmps44
 go_wp2_with (first
  | (go_at_call 68; (with_reducible refine (HGet.out _ HB1.out).mono ?_); rintro e w1 ⟨B1, e1, rfl, g1, q1, nw1⟩; have HQ1 := Lib.hid (q1.out.alloc q1.out.size (.cells #[.int .i64 kd, .int .i64 ep, .int .i64 nu, .int .i64 lf, .slice B1 m e1] 49)); obtain ⟨t0, t1, t2, t3, t4⟩ := HS.out w1 B1 e1 _ (Below.refl _ _); have HBB := Lib.hid (chain7 HB1.out HQ1.out); obtain ⟨⟨v0, v1, v2, v3⟩, f0, f1⟩ := HC.out _ HBB.out; obtain ⟨⟨y0, y1, y2, y3, y4⟩, x0, x1, x2, x3, x4⟩ := HR.out _ HQ1.out))
 go_quiet (fail)
 go_wp2
 refine bodyPost_ret (v := .tuple #[.agg #[.int .i64 0, .int .i64 0, .int .i64 0, .int .i64 0, .slice none 0 0], .bool false]) (by simp [results, Tryz.results44, go_sem, y0, y1, y2, y3, y4]) rfl ⟨rfl, ?_⟩
 have h9 := chain7 HBB.out (drewN_room _ nq)
 first
  | (with_reducible exact h9)
  | exact below_five h9 (Nat.le_refl _) _ _ _ _ _
theorem wnext_num {w : World} {ga : Nat} {img : List UInt8} {j N : Nat} {least most : Int} {bb : Nat} (h : Area13 w ga img j least most bb) (hN : img.length = 64 * N) (hN1 : N ≤ 1000) (hj : j < N) (hz : (secA img j).2 = 0) (hb : (secA img j).1.number ≠ (j : Int)) :
  Calls Tryz.prog 44 #[.pointer (some ⟨ga, 0, none⟩)] w (NextNo ga img j least most bb w) := by
 obtain ⟨n, A, c, h⟩ := h
 have hn := h.len
 have hcp := h.cap
 have hlt := h.blk.lt
 obtain ⟨b0, o, rfl, hb0, _⟩ := h.left.at_ (by rw [List.length_drop]; omega)
 have r0 : w.cell? ⟨ga, 0, none⟩ = some (.slice (some ⟨b0, o, none⟩) n c) := by rw [h.blk.cell]; rfl
 have nb := fun w' => Tryz.secBuild0 w'
 have a24 := fun w' => Tryz.aggSec w'
 have s24 := fun w' => Tryz.sizeSec w'
 have n0 := fun w' => Tryz.notFalse w'
 have n1 := fun w' => Tryz.notTrue w'
 have hn0 : ((n : Int) == 0) = false := by rw [beq_eq_false_iff_ne]; omega
 have hn2 : decide ((n : Int) = 0) = false := decide_eq_false (by omega)
 have ks := fun W => sl_to b0 o n c 64 64 rfl (by omega) (by omega) W
 obtain ⟨⟨kd, ep, nu, lf, D⟩, z, hsz⟩ : ∃ s z, secA img j = (s, z) := ⟨_, _, rfl⟩
 obtain ⟨m, hm⟩ : ∃ m, m = D.length := ⟨_, rfl⟩
 have HM := Lib.hid hm
 have HSZ := Lib.hid hsz
 have HAt := Lib.hid h
 have hln : (secL img j).length = 64 := by unfold secL; rw [List.length_take, List.length_drop]; omega
 have HGet : Hid (∀ W, Below w.heap.size w W → Calls Tryz.prog 68 #[.slice (some ⟨b0, o, none⟩) 64 c] W fun e w' => ∃ B d, e = .returned (.tuple #[.agg #[.int .i64 kd, .int .i64 ep, .int .i64 nu, .int .i64 lf, .slice B m d], .int .i64 z]) ∧ Hid (RB w' w'.heap.size B D) ∧ Hid (Below W.heap.size W w') ∧ Hid (∀ ad, B = some ad → w.heap.size ≤ ad.block)) := fun W hW => by
  have hr := rb_take ((h.left.below (hW.mono h.le)).more (Nat.le_trans h.le hW.size)) 64 (by rw [List.length_drop]; omega)
  have h3 := sget_new (secL img j) (some ⟨b0, o, none⟩) c W hr (by rw [hln]; omega) hcp.2 (by rw [hln]; omega)
  rw [hln] at h3
  refine h3.mono ?_
  rintro e w' ⟨B, d, he, hrb, hnw, hb⟩
  have h6 : getS (secL img j) = (⟨kd, ep, nu, lf, D⟩, z) := hsz
  rw [h6] at he hrb
  unfold secV at he
  simp only [] at he
  rw [← hm] at he
  exact ⟨B, d, he, hrb, hb, fun ad e => Nat.le_trans hW.size (hnw ad e)⟩
 have HC : Hid (∀ W, Below w.heap.size w W → (W.cell? ⟨ga, 0, none⟩ = some (.slice (some ⟨b0, o, none⟩) n c) ∧ W.cell? ⟨ga, 1, none⟩ = some (.int .i64 (j : Int)) ∧ W.cell? ⟨ga, 2, none⟩ = some (.int .i64 least) ∧ W.cell? ⟨ga, 3, none⟩ = some (.int .i64 most)) ∧ (W.frozen? ⟨ga, 0, none⟩ = false ∧ W.frozen? ⟨ga, 1, none⟩ = false)) := fun W hW => by
  have h0 := Blk.below h.blk hW hlt
  exact ⟨⟨by rw [h0.cell]; rfl, by rw [h0.cell]; rfl, by rw [h0.cell]; rfl, by rw [h0.cell]; rfl⟩, h0.frozen 0, h0.frozen 1⟩
 have HS : Hid (∀ (w1 : World) B d W, Below (w1.alloc (.cells #[.int .i64 kd, .int .i64 ep, .int .i64 nu, .int .i64 lf, .slice B m d] 49)).heap.size (w1.alloc (.cells #[.int .i64 kd, .int .i64 ep, .int .i64 nu, .int .i64 lf, .slice B m d] 49)) W → W.cell? ⟨w1.heap.size, 0, none⟩ = some (.int .i64 kd) ∧ W.cell? ⟨w1.heap.size, 1, none⟩ = some (.int .i64 ep) ∧ W.cell? ⟨w1.heap.size, 2, none⟩ = some (.int .i64 nu) ∧ W.cell? ⟨w1.heap.size, 3, none⟩ = some (.int .i64 lf) ∧ W.cell? ⟨w1.heap.size, 4, none⟩ = some (.slice B m d)) := fun w1 B d W hb => by
  have h0 : Blk W w1.heap.size 49 #[.int .i64 kd, .int .i64 ep, .int .i64 nu, .int .i64 lf, .slice B m d] := Blk.below (Blk.new w1 _ _) hb (by simp)
  exact ⟨by rw [h0.cell]; rfl, by rw [h0.cell]; rfl, by rw [h0.cell]; rfl, by rw [h0.cell]; rfl, by rw [h0.cell]; rfl⟩
 have HR : Hid (∀ W, Below (w.alloc (.cells #[.int .i64 0, .int .i64 0, .int .i64 0, .int .i64 0, .slice none 0 0] 49)).heap.size (w.alloc (.cells #[.int .i64 0, .int .i64 0, .int .i64 0, .int .i64 0, .slice none 0 0] 49)) W → (W.cell? ⟨w.heap.size, 0, none⟩ = some (.int .i64 0) ∧ W.cell? ⟨w.heap.size, 1, none⟩ = some (.int .i64 0) ∧ W.cell? ⟨w.heap.size, 2, none⟩ = some (.int .i64 0) ∧ W.cell? ⟨w.heap.size, 3, none⟩ = some (.int .i64 0) ∧ W.cell? ⟨w.heap.size, 4, none⟩ = some (.slice none 0 0)) ∧ W.frozen? ⟨w.heap.size, 0, none⟩ = false ∧ W.frozen? ⟨w.heap.size, 1, none⟩ = false ∧ W.frozen? ⟨w.heap.size, 2, none⟩ = false ∧ W.frozen? ⟨w.heap.size, 3, none⟩ = false ∧ W.frozen? ⟨w.heap.size, 4, none⟩ = false) := fun W hb => by
  have h0 : Blk W w.heap.size 49 #[.int .i64 0, .int .i64 0, .int .i64 0, .int .i64 0, .slice none 0 0] := Blk.below (Blk.new w _ _) hb (by simp)
  exact ⟨⟨by rw [h0.cell]; rfl, by rw [h0.cell]; rfl, by rw [h0.cell]; rfl, by rw [h0.cell]; rfl, by rw [h0.cell]; rfl⟩, h0.frozen 0, h0.frozen 1, h0.frozen 2, h0.frozen 3, h0.frozen 4⟩
 have HRB : Hid (∀ W, Below (w.alloc (.cells #[.int .i64 0, .int .i64 0, .int .i64 0, .int .i64 0, .slice none 0 0] 49)).heap.size (w.alloc (.cells #[.int .i64 0, .int .i64 0, .int .i64 0, .int .i64 0, .slice none 0 0] 49)) W → Blk W w.heap.size 49 #[.int .i64 0, .int .i64 0, .int .i64 0, .int .i64 0, .slice none 0 0]) := fun W hb => Blk.below (Blk.new w _ _) hb (by simp)
 have hb1 : Below w.heap.size w (w.alloc (.cells #[.int .i64 0, .int .i64 0, .int .i64 0, .int .i64 0, .slice none 0 0] 49)) := (Below.refl _ _).alloc (Nat.le_refl _) _
 have HB1 := Lib.hid hb1
 obtain rfl : z = 0 := by rw [hsz] at hz; exact hz
 have p0 : nu ≠ (j : Int) := by rw [hsz] at hb; exact hb
 have p1 : (nu != (j : Int)) = true := by rw [bne_iff_ne]; exact p0
 have p2 : (nu == (j : Int)) = false := by rw [beq_eq_false_iff_ne]; exact p0
 clear hb p0 hz
 clear h hN hj hm hsz hn hcp hln hb0
 go_enter Tryz.func44, Tryz.ntmps44
 go_wp2_with (first
  | (go_at_call 68; (with_reducible refine (HGet.out _ HB1.out).mono ?_); rintro e w1 ⟨B1, e1, rfl, g1, q1, nw1⟩; have HQ1 := Lib.hid (q1.out.alloc q1.out.size (.cells #[.int .i64 kd, .int .i64 ep, .int .i64 nu, .int .i64 lf, .slice B1 m e1] 49)); obtain ⟨t0, t1, t2, t3, t4⟩ := HS.out w1 B1 e1 _ (Below.refl _ _); have HBB := Lib.hid (chain7 HB1.out HQ1.out); obtain ⟨⟨v0, v1, v2, v3⟩, f0, f1⟩ := HC.out _ HBB.out; obtain ⟨⟨y0, y1, y2, y3, y4⟩, x0, x1, x2, x3, x4⟩ := HR.out _ HQ1.out))
 go_quiet (fail)
 go_wp2
 refine bodyPost_ret (v := .tuple #[.agg #[.int .i64 0, .int .i64 0, .int .i64 0, .int .i64 0, .slice none 0 0], .bool false]) (by simp [results, Tryz.results44, go_sem, y0, y1, y2, y3, y4]) rfl ⟨rfl, ?_⟩
 have h9 := chain7 HBB.out (drewN_room _ nq)
 first
  | (with_reducible exact h9)
  | exact below_five h9 (Nat.le_refl _) _ _ _ _ _
theorem wnext_epo {w : World} {ga : Nat} {img : List UInt8} {j N : Nat} {least most : Int} {bb : Nat} (h : Area13 w ga img j least most bb) (hN : img.length = 64 * N) (hN1 : N ≤ 1000) (hj : j < N) (hz : (secA img j).2 = 0) (hb : (secA img j).1.number = (j : Int)) (he : ¬ (least ≤ (secA img j).1.epoch ∧ (secA img j).1.epoch ≤ most)) :
  Calls Tryz.prog 44 #[.pointer (some ⟨ga, 0, none⟩)] w (NextNo ga img j least most bb w) := by
 obtain ⟨n, A, c, h⟩ := h
 have hn := h.len
 have hcp := h.cap
 have hlt := h.blk.lt
 obtain ⟨b0, o, rfl, hb0, _⟩ := h.left.at_ (by rw [List.length_drop]; omega)
 have r0 : w.cell? ⟨ga, 0, none⟩ = some (.slice (some ⟨b0, o, none⟩) n c) := by rw [h.blk.cell]; rfl
 have nb := fun w' => Tryz.secBuild0 w'
 have a24 := fun w' => Tryz.aggSec w'
 have s24 := fun w' => Tryz.sizeSec w'
 have n0 := fun w' => Tryz.notFalse w'
 have n1 := fun w' => Tryz.notTrue w'
 have hn0 : ((n : Int) == 0) = false := by rw [beq_eq_false_iff_ne]; omega
 have hn2 : decide ((n : Int) = 0) = false := decide_eq_false (by omega)
 have ks := fun W => sl_to b0 o n c 64 64 rfl (by omega) (by omega) W
 obtain ⟨⟨kd, ep, nu, lf, D⟩, z, hsz⟩ : ∃ s z, secA img j = (s, z) := ⟨_, _, rfl⟩
 obtain ⟨m, hm⟩ : ∃ m, m = D.length := ⟨_, rfl⟩
 have HM := Lib.hid hm
 have HSZ := Lib.hid hsz
 have HAt := Lib.hid h
 have hln : (secL img j).length = 64 := by unfold secL; rw [List.length_take, List.length_drop]; omega
 have HGet : Hid (∀ W, Below w.heap.size w W → Calls Tryz.prog 68 #[.slice (some ⟨b0, o, none⟩) 64 c] W fun e w' => ∃ B d, e = .returned (.tuple #[.agg #[.int .i64 kd, .int .i64 ep, .int .i64 nu, .int .i64 lf, .slice B m d], .int .i64 z]) ∧ Hid (RB w' w'.heap.size B D) ∧ Hid (Below W.heap.size W w') ∧ Hid (∀ ad, B = some ad → w.heap.size ≤ ad.block)) := fun W hW => by
  have hr := rb_take ((h.left.below (hW.mono h.le)).more (Nat.le_trans h.le hW.size)) 64 (by rw [List.length_drop]; omega)
  have h3 := sget_new (secL img j) (some ⟨b0, o, none⟩) c W hr (by rw [hln]; omega) hcp.2 (by rw [hln]; omega)
  rw [hln] at h3
  refine h3.mono ?_
  rintro e w' ⟨B, d, he, hrb, hnw, hb⟩
  have h6 : getS (secL img j) = (⟨kd, ep, nu, lf, D⟩, z) := hsz
  rw [h6] at he hrb
  unfold secV at he
  simp only [] at he
  rw [← hm] at he
  exact ⟨B, d, he, hrb, hb, fun ad e => Nat.le_trans hW.size (hnw ad e)⟩
 have HC : Hid (∀ W, Below w.heap.size w W → (W.cell? ⟨ga, 0, none⟩ = some (.slice (some ⟨b0, o, none⟩) n c) ∧ W.cell? ⟨ga, 1, none⟩ = some (.int .i64 (j : Int)) ∧ W.cell? ⟨ga, 2, none⟩ = some (.int .i64 least) ∧ W.cell? ⟨ga, 3, none⟩ = some (.int .i64 most)) ∧ (W.frozen? ⟨ga, 0, none⟩ = false ∧ W.frozen? ⟨ga, 1, none⟩ = false)) := fun W hW => by
  have h0 := Blk.below h.blk hW hlt
  exact ⟨⟨by rw [h0.cell]; rfl, by rw [h0.cell]; rfl, by rw [h0.cell]; rfl, by rw [h0.cell]; rfl⟩, h0.frozen 0, h0.frozen 1⟩
 have HS : Hid (∀ (w1 : World) B d W, Below (w1.alloc (.cells #[.int .i64 kd, .int .i64 ep, .int .i64 nu, .int .i64 lf, .slice B m d] 49)).heap.size (w1.alloc (.cells #[.int .i64 kd, .int .i64 ep, .int .i64 nu, .int .i64 lf, .slice B m d] 49)) W → W.cell? ⟨w1.heap.size, 0, none⟩ = some (.int .i64 kd) ∧ W.cell? ⟨w1.heap.size, 1, none⟩ = some (.int .i64 ep) ∧ W.cell? ⟨w1.heap.size, 2, none⟩ = some (.int .i64 nu) ∧ W.cell? ⟨w1.heap.size, 3, none⟩ = some (.int .i64 lf) ∧ W.cell? ⟨w1.heap.size, 4, none⟩ = some (.slice B m d)) := fun w1 B d W hb => by
  have h0 : Blk W w1.heap.size 49 #[.int .i64 kd, .int .i64 ep, .int .i64 nu, .int .i64 lf, .slice B m d] := Blk.below (Blk.new w1 _ _) hb (by simp)
  exact ⟨by rw [h0.cell]; rfl, by rw [h0.cell]; rfl, by rw [h0.cell]; rfl, by rw [h0.cell]; rfl, by rw [h0.cell]; rfl⟩
 have HR : Hid (∀ W, Below (w.alloc (.cells #[.int .i64 0, .int .i64 0, .int .i64 0, .int .i64 0, .slice none 0 0] 49)).heap.size (w.alloc (.cells #[.int .i64 0, .int .i64 0, .int .i64 0, .int .i64 0, .slice none 0 0] 49)) W → (W.cell? ⟨w.heap.size, 0, none⟩ = some (.int .i64 0) ∧ W.cell? ⟨w.heap.size, 1, none⟩ = some (.int .i64 0) ∧ W.cell? ⟨w.heap.size, 2, none⟩ = some (.int .i64 0) ∧ W.cell? ⟨w.heap.size, 3, none⟩ = some (.int .i64 0) ∧ W.cell? ⟨w.heap.size, 4, none⟩ = some (.slice none 0 0)) ∧ W.frozen? ⟨w.heap.size, 0, none⟩ = false ∧ W.frozen? ⟨w.heap.size, 1, none⟩ = false ∧ W.frozen? ⟨w.heap.size, 2, none⟩ = false ∧ W.frozen? ⟨w.heap.size, 3, none⟩ = false ∧ W.frozen? ⟨w.heap.size, 4, none⟩ = false) := fun W hb => by
  have h0 : Blk W w.heap.size 49 #[.int .i64 0, .int .i64 0, .int .i64 0, .int .i64 0, .slice none 0 0] := Blk.below (Blk.new w _ _) hb (by simp)
  exact ⟨⟨by rw [h0.cell]; rfl, by rw [h0.cell]; rfl, by rw [h0.cell]; rfl, by rw [h0.cell]; rfl, by rw [h0.cell]; rfl⟩, h0.frozen 0, h0.frozen 1, h0.frozen 2, h0.frozen 3, h0.frozen 4⟩
 have HRB : Hid (∀ W, Below (w.alloc (.cells #[.int .i64 0, .int .i64 0, .int .i64 0, .int .i64 0, .slice none 0 0] 49)).heap.size (w.alloc (.cells #[.int .i64 0, .int .i64 0, .int .i64 0, .int .i64 0, .slice none 0 0] 49)) W → Blk W w.heap.size 49 #[.int .i64 0, .int .i64 0, .int .i64 0, .int .i64 0, .slice none 0 0]) := fun W hb => Blk.below (Blk.new w _ _) hb (by simp)
 have hb1 : Below w.heap.size w (w.alloc (.cells #[.int .i64 0, .int .i64 0, .int .i64 0, .int .i64 0, .slice none 0 0] 49)) := (Below.refl _ _).alloc (Nat.le_refl _) _
 have HB1 := Lib.hid hb1
 obtain rfl : z = 0 := by rw [hsz] at hz; exact hz
 obtain rfl : nu = (j : Int) := by rw [hsz] at hb; exact hb
 have p1 : ((j : Int) != (j : Int)) = false := by rw [bne_eq_false_iff_eq]
 have p2 : ((j : Int) == (j : Int)) = true := beq_self_eq_true _
 have HW : Hid (∀ W, Calls Tryz.prog 41 #[.int .i64 ep, .int .i64 least, .int .i64 most] W fun e w' => e = .returned (.bool false) ∧ W = w') := fun W => wwithin_no (by rw [hsz] at he; exact he) W
 clear hb he hz
 clear h hN hj hm hsz hn hcp hln hb0
 go_enter Tryz.func44, Tryz.ntmps44
 go_wp2_with (first
  | (go_at_call 68; (with_reducible refine (HGet.out _ HB1.out).mono ?_); rintro e w1 ⟨B1, e1, rfl, g1, q1, nw1⟩; have HQ1 := Lib.hid (q1.out.alloc q1.out.size (.cells #[.int .i64 kd, .int .i64 ep, .int .i64 (j : Int), .int .i64 lf, .slice B1 m e1] 49)); obtain ⟨t0, t1, t2, t3, t4⟩ := HS.out w1 B1 e1 _ (Below.refl _ _); have HBB := Lib.hid (chain7 HB1.out HQ1.out); obtain ⟨⟨v0, v1, v2, v3⟩, f0, f1⟩ := HC.out _ HBB.out; obtain ⟨⟨y0, y1, y2, y3, y4⟩, x0, x1, x2, x3, x4⟩ := HR.out _ HQ1.out))
 go_quiet (with_reducible exact quiet_same HW)
 go_wp2
 refine bodyPost_ret (v := .tuple #[.agg #[.int .i64 0, .int .i64 0, .int .i64 0, .int .i64 0, .slice none 0 0], .bool false]) (by simp [results, Tryz.results44, go_sem, y0, y1, y2, y3, y4]) rfl ⟨rfl, ?_⟩
 have h9 := chain7 HBB.out (drewN_room _ nq)
 first
  | (with_reducible exact h9)
  | exact below_five h9 (Nat.le_refl _) _ _ _ _ _
end
section
open Go.RowKit
open Wal
theorem area_step {d : Dk} (hf : d.fit) (f m : Nat) (hm : f + m ≤ d.safe.length) : ∀ i, i ≤ m → (areaW d f i).length = 256 * i ∧ (i < m → areaW d f (i + 1) = areaW d f i ++ d.now (f + i) ∧ (d.now (f + i)).length = 256) := fun i hi => by
 have hnl : ∀ j, j < m → (d.now (f + j)).length = 256 := fun j hj => Dk.fit_now hf (by omega)
 refine ⟨(flat_block (fun j => d.now (f + j)) i fun j hj => hnl j (by omega)).1, fun h1 => ⟨?_, hnl i h1⟩⟩
 unfold areaW
 rw [List.range_succ, List.flatMap_append]
 simp
theorem turns_then13 {w w1 w' : World} {G : Nat → Prop} (h : Turns w w1 G G) (hb : Below w.heap.size w1 w') : Turns w w' G G := ⟨hb.os.trans h.os, hb.tape.trans h.tape, hb.output.trans h.output, Nat.le_trans h.size hb.size, fun k hk hn => (hb.block k hk).trans (h.block k hk hn), fun _ h => .inl h⟩
theorem turns_over {B : Nat} {w w' : World} {E' : Nat → Prop} (h : Below B w w') (hB : B ≤ w.heap.size) (hE : ∀ k, E' k → B ≤ k ∨ w.heap.size ≤ k) : Turns w w' (fun k => B ≤ k) E' := ⟨h.os, h.tape, h.output, h.size, fun k _ hn => h.block k (by omega), hE⟩
theorem wread_off {w : World} {g : Nat} {F : Nat → Prop} {d : Dk} (h : PDisk w g F d) (f m : Nat) (hm : 1 ≤ m) (hl : d.load ≤ 90000) (hs : d.safe.length ≤ 200) (hfm : f + m ≤ d.safe.length) (hoff : d.off = true) :
  Calls Tryz.prog 42 #[.pointer (some ⟨g, 0, none⟩), .int .i64 (f : Int), .int .i64 (m : Int)] w fun e w' => e = .returned (.tuple #[.slice none 0 0, .int .i64 9]) ∧ Deeds d F w w' g := by
 have HR : Hid (∀ i : Int, Calls Tryz.prog 66 #[.pointer (some ⟨g, 0, none⟩), .int .i64 i] w fun e w' => (∃ A c, e = .returned (.tuple #[.slice A 0 c, .int .i64 9])) ∧ Deeds d F w w' g) := fun i => by
  refine (read_any h i (by omega)).mono ?_
  rintro e w' ⟨A, c, he, _, hr⟩
  have hv : d.read i = (d, [], 9) := by unfold Dk.read; rw [if_pos hoff]
  rw [hv] at he hr
  exact ⟨⟨A, c, he⟩, hr⟩
 have d0 : decide ((0 : Int) < (m : Int)) = true := decide_eq_true (by omega)
 have d1 : decide (0 < m) = true := decide_eq_true (by omega)
 have y1 : IntKind.i64.wrap ((f : Int) + 0) = (f : Int) := by rw [Int.add_zero]; exact IntWalk.i64_in _ (by omega)
 have hf2 : f ≤ 200 := by omega
 clear h hl hoff hs hfm
 go_enter Tryz.func42, Tryz.ntmps42
 go_wp2
 go_loopw [8, 13] (fun _ x wr => x = .int .i64 0 ∧ wr = w) (fun _ _ _ => 0)
 case atStart => exact ⟨rfl, rfl⟩
 case round =>
  obtain ⟨rfl, rfl⟩ := hrel
  go_wp2_with (first
   | (go_at_call 66; (with_reducible refine (HR.out _).mono ?_); rintro e w1 ⟨⟨A1, c1, rfl⟩, hp1⟩))
  go_ret2
  exact ⟨rfl, hp1⟩
theorem wread_on {w : World} {g : Nat} {F : Nat → Prop} {d : Dk} (h : PDisk w g F d) (f m : Nat) (hm : 1 ≤ m) (hl : d.load ≤ 90000) (hs : d.safe.length ≤ 200) (hfm : f + m ≤ d.safe.length) (hoff : d.off = false) :
  Calls Tryz.prog 42 #[.pointer (some ⟨g, 0, none⟩), .int .i64 (f : Int), .int .i64 (m : Int)] w fun e w' => ∃ A k c, e = .returned (.tuple #[.slice A k c, .int .i64 0]) ∧ k = 256 * m ∧ w'.ownsRow w.heap.size 5 1 (.slice A k c) k (cells (areaW d f m)) ∧ Deeds { d with reads := d.reads + m } F w w' g := by
 have HG := Lib.hid (show ∀ k, F k → k < w.heap.size from h.flt)
 have hgood := h.good
 have HL : Hid (∀ i, i ≤ m → (areaW d f i).length = 256 * i ∧ (i < m → areaW d f (i + 1) = areaW d f i ++ d.now (f + i) ∧ (d.now (f + i)).length = 256)) := area_step hgood.fit f m hfm
 have HR : Hid (∀ (i : Nat) W, i < m → Deeds { d with reads := d.reads + i } F w W g → Calls Tryz.prog 66 #[.pointer (some ⟨g, 0, none⟩), .int .i64 ((f + i : Nat) : Int)] W fun e w' => ∃ A c, e = .returned (.tuple #[.slice A 256 c, .int .i64 0]) ∧ Hid (Own w' W.heap.size A (d.now (f + i)) c) ∧ Hid (Deeds { d with reads := d.reads + (i + 1) } F w w' g) ∧ Hid (Turns W w' F F)) := fun i W hi hS => by
  refine (read_any hS.1 _ (by unfold Dk.load at hl ⊢; simp only; omega)).mono ?_
  rintro e w' ⟨A, c, he, hw, hr⟩
  have hv : ({ d with reads := d.reads + i } : Dk).read ((f + i : Nat) : Int) = ({ d with reads := d.reads + (i + 1) }, d.now (f + i), 0) := by
   unfold Dk.read
   rw [if_neg (by simp [hoff]), if_neg (by simp [Dk.there]; omega)]
   simp only [Int.toNat_natCast, Nat.add_assoc]
   rfl
  rw [hv] at he hw hr
  have hln := ((HL.out i (by omega)).2 hi).2
  simp only [hln] at he
  exact ⟨A, c, he, hw, ⟨hr.1, hS.2.trans hr.2⟩, hr.2⟩
 have hm2 : m ≤ 200 := by omega
 have hf2 : f ≤ 200 := by omega
 have HP0 : Hid (Deeds { d with reads := d.reads + 0 } F w w g) := ⟨h, Turns.refl _ _⟩
 clear h hl hoff hs hfm hgood
 go_enter Tryz.func42, Tryz.ntmps42
 go_wp2
 go_loopw [8, 13] (fun v x wr => ∃ (i k : Nat) (A' : Option Addr) (c' : Nat), i ≤ m ∧ k ≤ 60000 ∧ v = .slice A' k c' ∧ x = .int .i64 (i : Int) ∧ Hid (Deeds { d with reads := d.reads + i } F w wr g) ∧ Hid (wr.ownsRow w.heap.size 5 1 (.slice A' k c') k (cells (areaW d f i))) ∧ Hid (k = 256 * i)) (fun _ x _ => m - (intOf x).toNat)
 case atStart => exact ⟨0, 0, none, 0, by omega, by omega, rfl, rfl, HP0.out, World.ownsRow_nil _ _ _ _, rfl⟩
 case round =>
  obtain ⟨i, k, A', c', hi, hk6, rfl, rfl, HS, HW, HK⟩ := hrel
  by_cases hlt : i < m
  ·have d0 : decide ((i : Int) < (m : Int)) = true := decide_eq_true (by omega)
   have d1 : decide (i < m) = true := decide_eq_true hlt
   obtain ⟨z, hz⟩ : ∃ z, z = f + i := ⟨_, rfl⟩
   have z0 : (f : Int) + (i : Int) = (z : Int) := by omega
   have z1 : IntKind.i64.wrap (z : Int) = (z : Int) := IntWalk.i64_in _ (by omega)
   have HC := Lib.hid (HR.out i wr hlt HS.out)
   rw [← hz] at HC
   have HL2 := Lib.hid ((HL.out i hi).2 hlt)
   rw [← hz] at HL2
   clear hz
   go_wp2_with (first
    | (go_at_call 66; (with_reducible refine HC.out.mono ?_); rintro e w1 ⟨A1, c1, rfl, o1, s1, t1⟩; have ow1 : w1.ownsRow w.heap.size 5 1 (.slice A' k c') k (cells (areaW d f i)) := own_turns HW.out t1.out (fun j hj hg => by have := (HW.out.lt j hj).1; have := HG.out j hg; omega))
    | (at_builtin; refine append_rb rfl (.tmp 27) (.tmp 28) rfl rfl ow1 (Below.refl _ w1) (Nat.le_trans HS.out.2.size t1.out.size) rfl (own_rb o1.out) HL2.out.2.symm (by omega) rfl ?_; intro A4 c4 w4 o4 b4))
   have h1 := HG.out
   have hsz : w.heap.size ≤ w1.heap.size := Nat.le_trans HS.out.2.size t1.out.size
   refine ⟨⟨i + 1, k + 256, A4, c4, by omega, by have := HK.out; omega, rfl, by go_num, ⟨s1.out.1.turns (turns_over b4 hsz (E' := fun k => w.heap.size ≤ k) (fun _ h => .inl h)) (fun k hk hh => by have := h1 k hk; omega), turns_then13 s1.out.2 b4⟩, by show World.ownsRow _ _ _ _ _ _ _; rw [HL2.out.1]; exact o4, by have := HK.out; show _ = _; omega⟩, ?_⟩
   simp [intOf]; omega
  ·obtain rfl : i = m := by omega
   have d0 : decide ((i : Int) < (i : Int)) = false := decide_eq_false (by omega)
   have d1 : decide (i < i) = false := decide_eq_false (by omega)
   go_wp2
   go_ret2
   exact ⟨A', k, c', rfl, HK.out, HW.out, HS.out⟩
end
section
open Go.RowKit
open Wal
section
variable {w : World} {g lg : Nat} {E : Nat → Prop} {l : Lg} {A : Option Addr} {c : Nat}
theorem plog_turns (hL : PLogA w lg g E l A c) (i : Nat) (u : Value) : Turns w (w.setCell ⟨lg, i, none⟩ u) E E := Turns.set_ hL.el i u
theorem wturnA (hL : PLogA w lg g E l A c) (ep : Int) : Calls Tryz.prog 18 #[.pointer (some ⟨lg, 0, none⟩), .int .i64 ep] w fun e w' => e = .returned (.int .i64 (turnW l ep).2) ∧ PLogA w' lg g E (turnW l ep).1 A c ∧ Turns w w' E E ∧ ((turnW l ep).2 ≠ 0 → w = w') := by
 have n0 := fun w' => Tryz.notFalse w'
 have n1 := fun w' => Tryz.notTrue w'
 have r5 := hL.r5
 have z5 := hL.fz 5
 cases hg : l.gone with
 | true =>
  have HV : Hid (turnW l ep = (l, 8)) := by show _ = _; unfold turnW; rw [if_pos hg]
  have HD : Hid (Calls Tryz.prog 22 #[.pointer (some ⟨lg, 0, none⟩)] w fun e w' => e = .returned (.bool true) ∧ w = w') := by
   have := wdead_any ⟨A, c, hL⟩
   rwa [hg] at this
  clear hg
  go_enter Tryz.func18, Tryz.ntmps18
  go_wp2_with (first
   | (go_at_call 22; (with_reducible refine HD.out.mono ?_); rintro e w1 ⟨rfl, rfl⟩))
  go_ret
  rw [HV.out]
  exact ⟨rfl, hL, Turns.refl _ _, fun _ => rfl⟩
 | false =>
  have HD : Hid (Calls Tryz.prog 22 #[.pointer (some ⟨lg, 0, none⟩)] w fun e w' => e = .returned (.bool false) ∧ w = w') := by
   have := wdead_any ⟨A, c, hL⟩
   rwa [hg] at this
  by_cases hin : l.epoch ≤ ep ∧ ep ≤ 2147483647
  ·have HV : Hid (turnW l ep = ({ l with epoch := ep }, 0)) := by
    show _ = _; unfold turnW; rw [if_neg (by rw [hg]; simp), if_neg (by omega)]
   have HW : Hid (Calls Tryz.prog 41 #[.int .i64 ep, .int .i64 l.epoch, .int .i64 2147483647] w fun e w' => e = .returned (.bool true) ∧ w = w') := wwithin_yes hin w
   have HP := Lib.hid (hL.turned ep)
   have HT := Lib.hid (plog_turns hL 5 (.int .i64 ep))
   generalize l.epoch = le at r5 HW
   clear hin hL hg
   go_enter Tryz.func18, Tryz.ntmps18
   go_wp2_with (first
    | (go_at_call 22; (with_reducible refine HD.out.mono ?_); rintro e w1 ⟨rfl, rfl⟩)
    | (go_at_call 41; (with_reducible refine HW.out.mono ?_); rintro e w1 ⟨rfl, rfl⟩))
   go_ret
   rw [HV.out]
   exact ⟨rfl, HP.out, HT.out, fun h => absurd rfl h⟩
  ·have HV : Hid (turnW l ep = (l, 1)) := by
    show _ = _; unfold turnW; rw [if_neg (by rw [hg]; simp), if_pos (by omega)]
   have HW : Hid (Calls Tryz.prog 41 #[.int .i64 ep, .int .i64 l.epoch, .int .i64 2147483647] w fun e w' => e = .returned (.bool false) ∧ w = w') := wwithin_no hin w
   generalize l.epoch = le at r5 HW
   clear hin hg
   go_enter Tryz.func18, Tryz.ntmps18
   go_wp2_with (first
    | (go_at_call 22; (with_reducible refine HD.out.mono ?_); rintro e w1 ⟨rfl, rfl⟩)
    | (go_at_call 41; (with_reducible refine HW.out.mono ?_); rintro e w1 ⟨rfl, rfl⟩))
   go_ret
   rw [HV.out]
   exact ⟨rfl, hL, Turns.refl _ _, fun _ => rfl⟩
theorem wturn_any (hL : PLog w lg g E l) (ep : Int) (hi : InI ep) {len : Nat} (hf : l.fit len) : Calls Tryz.prog 18 #[.pointer (some ⟨lg, 0, none⟩), .int .i64 ep] w fun e w' => e = .returned (.int .i64 (turnW l ep).2) ∧ ∃ E', PLog w' lg g E' (turnW l ep).1 ∧ Turns w w' E E' := by
 obtain ⟨A, c, hL⟩ := hL
 exact (wturnA hL ep).mono fun e w' ⟨h1, h2, h3, _⟩ => ⟨h1, E, ⟨A, c, h2⟩, h3⟩
theorem wreset_any (hL : PLog w lg g E l) (ep : Int) (hi : InI ep) {len : Nat} (hf : l.fit len) : Calls Tryz.prog 21 #[.pointer (some ⟨lg, 0, none⟩), .int .i64 ep] w fun e w' => e = .returned (.int .i64 (resetW l ep).2) ∧ ∃ E', PLog w' lg g E' (resetW l ep).1 ∧ Turns w w' E E' := by
 obtain ⟨A, c, hL⟩ := hL
 have HT := Lib.hid (wturnA hL ep)
 obtain ⟨l1, z, hz⟩ : ∃ l1 z, turnW l ep = (l1, z) := ⟨_, _, rfl⟩
 rw [hz] at HT
 simp only at HT
 by_cases h0 : z = 0
 ·subst h0
  have HV : Hid (resetW l ep = ({ l1 with b := [] }, 0)) := by
   show _ = _; unfold resetW; rw [hz]; rfl
  clear hz hL
  go_enter Tryz.func21, Tryz.ntmps21
  go_wp2_with (first
   | (go_at_call 18; (with_reducible refine HT.out.mono ?_); rintro e w1 ⟨rfl, p1, t1, _⟩; have z3 := p1.fz 3; have z4 := p1.fz 4; have r3 := p1.r3; have r4 := p1.r4; have HP := Lib.hid p1; have HT1 := Lib.hid t1; clear p1 t1))
  go_ret
  rw [HV.out]
  exact ⟨rfl, E, ⟨none, 0, HP.out.reset⟩, (HT1.out.trans (plog_turns HP.out 3 _)).trans (Turns.set_ HP.out.el 4 _)⟩
 ·have HV : Hid (resetW l ep = (l1, z)) := by
   show _ = _; unfold resetW; rw [hz]; simp only; rw [if_neg h0]
  have p00 : (z == 0) = false := by rw [beq_eq_false_iff_ne]; exact h0
  have p01 : (z != 0) = true := by rw [bne_iff_ne]; exact h0
  have p02 : decide (z = 0) = false := decide_eq_false h0
  clear hz hL h0
  go_enter Tryz.func21, Tryz.ntmps21
  go_wp2_with (first
   | (go_at_call 18; (with_reducible refine HT.out.mono ?_); rintro e w1 ⟨rfl, p1, t1, _⟩; have HP := Lib.hid p1; have HT1 := Lib.hid t1; clear p1 t1))
  go_ret
  rw [HV.out]
  exact ⟨rfl, E, ⟨A, c, HP.out⟩, HT1.out⟩
end
end
section
open Go.RowKit Go.Shelf
open Wal
attribute [local go_sem] Oper.semAt_some
def wroteW (frm : Nat) (all : List UInt8) (N k0 : Nat) (d : Dk) : Dk × Int := if (writesW frm all N k0 d).2 ≠ 0 then writesW frm all N k0 d else (writesW frm all N k0 d).1.flush
theorem wwrite_any {w : World} {g lg : Nat} {F E : Nat → Prop} {d : Dk} {l : Lg} {A : Option Addr} {c : Nat} (h : PDisk w g F d) (hL : PLogA w lg g E l A c) (hd : ∀ k, E k → ¬ F k) (b : List UInt8) (n : Nat) (B : Option Addr) (cB : Nat) (hn : n = b.length) (h1 : 1 ≤ n) (hl : n ≤ 70000) (hr : RB w w.heap.size B b) (hB : ∀ ad, B = some ad → ¬ F ad.block) (hc : n ≤ cB) (hcm : cB ≤ 9223372036854775807) (all : List UInt8) (k0 : Nat) (hk0 : k0 = used l / 4) (hblk : ∀ i, i < chunkN n → blkW all (k0 + i) = padC b i) (hfr : l.frm ≤ 1000) (hus : used l ≤ 1000) (hld : d.load ≤ 80000) :
  Calls Tryz.prog 49 #[.pointer (some ⟨lg, 0, none⟩), .slice B n cB] w fun e w' => e = .returned (.int .i64 (wroteW l.frm all (chunkN n) k0 d).2) ∧ ∃ F', PDisk w' g F' (wroteW l.frm all (chunkN n) k0 d).1 ∧ Turns w w' F F' := by
 obtain ⟨u, hu⟩ : ∃ u, u = used l := ⟨_, rfl⟩
 obtain ⟨f, hf⟩ : ∃ f, f = l.frm := ⟨_, rfl⟩
 have r0 := hL.r0
 have r1 := hL.r1
 have r3 := hL.r3
 rw [← hu] at r3 hk0 hus
 rw [← hf] at r1 hfr ⊢
 have y0 : (u : Int).tdiv 4 = (k0 : Int) := by rw [Int.tdiv_eq_ediv_of_nonneg (by omega)]; omega
 have y1 : (u : Int) / 4 = (k0 : Int) := by omega
 have y2 : IntKind.i64.wrap (k0 : Int) = (k0 : Int) := IntWalk.i64_in _ (by omega)
 have y3 : (f : Int) + (k0 : Int) = ((f + k0 : Nat) : Int) := by omega
 have y4 : IntKind.i64.wrap ((f + k0 : Nat) : Int) = ((f + k0 : Nat) : Int) := IntWalk.i64_in _ (by omega)
 obtain ⟨fk, hfk⟩ : ∃ x, x = f + k0 := ⟨_, rfl⟩
 rw [← hfk] at y3 y4
 obtain ⟨tb, tf, hBe, htb, -⟩ := RB.at_ hr (by omega)
 subst hBe
 have hlgl := hL.blk.lt
 have HLg : Hid (lg < w.heap.size) := hlgl
 have HD := Lib.hid h
 have HL := Lib.hid hL
 have HEF := Lib.hid hd
 have HR := Lib.hid hr
 have HTb := Lib.hid (And.intro htb (hB _ rfl))
 have HN := Lib.hid (And.intro hn (And.intro h1 (And.intro hl (And.intro hc hcm))))
 have HBk := Lib.hid hblk
 have HLd := Lib.hid hld
 have HFk := Lib.hid hfk
 have Hf := Lib.hid hf
 have Hk0 := Lib.hid hk0
 have Hu := Lib.hid hu
 have HFr := Lib.hid (And.intro hfr hus)
 refine (callsIn_wide (n := 9)).1 ?_
 refine callsIn_of_wp_marks Tryz.func49 rfl trivial ?_ rfl
 refine wpIn_wide.2 ?_
 simp only [Tryz.ntmps49, List.size_toArray, List.length_cons, List.length_nil, Nat.reduceAdd, Nat.reduceSub, Array.replicate_succ, Array.replicate_zero, List.push_toArray, List.append_toArray, List.nil_append, List.cons_append]
 clear h hL hd hn hr hB hc hcm hblk hu hf hk0 hld hfk htb h1 hl hus hfr
 go_wp2
 obtain ⟨w2, hw2⟩ : ∃ w2, w2 = (w.alloc (.cells #[.pointer (some ⟨lg, 0, none⟩)] 33)).alloc (.cells #[.int .i64 0] 26) := ⟨_, rfl⟩
 have hb2 : Below w.heap.size w w2 := by rw [hw2]; exact ((Below.refl _ _).alloc (Nat.le_refl _) _).alloc (by simp) _
 have hs2 : w2.heap.size = w.heap.size + 2 := by rw [hw2]; simp
 have hq0 : Blk w2 w.heap.size 33 #[.pointer (some ⟨lg, 0, none⟩)] := by rw [hw2]; exact (Blk.new w _ _).alloc _
 have hq1 : Blk w2 (w.heap.size + 1) 26 #[.int .i64 0] := by
  rw [hw2]
  have := Blk.new (w.alloc (.cells #[.pointer (some ⟨lg, 0, none⟩)] 33)) 26 #[.int .i64 0]
  rwa [World.size_alloc] at this
 rw [← hw2]
 have HB2 := Lib.hid hb2
 have HS2 := Lib.hid hs2
 have HQ0 := Lib.hid hq0
 have HQ1 := Lib.hid hq1
 have HS : Hid (∀ W, Below w2.heap.size w2 W → W.cell? ⟨w.heap.size, 0, none⟩ = some (.pointer (some ⟨lg, 0, none⟩)) ∧ W.cell? ⟨lg, 1, none⟩ = some (.int .i64 (f : Int)) ∧ W.cell? ⟨lg, 3, none⟩ = some (.int .i64 (u : Int))) := fun W hW => by
  have h1 := Blk.below HQ0.out hW HQ0.out.lt
  have h2 := HL.out.below (chain7 HB2.out hW)
  exact ⟨by rw [h1.cell]; rfl, by rw [Hf.out]; exact h2.r1, by rw [Hu.out]; exact h2.r3⟩
 clear hb2 hs2 hq0 hq1 hw2 r0 r1 r3
 have s0 := HS.out w2.drew ((Below.refl _ _).drew)
 go_region_held3 (fun W => W.cell? ⟨w.heap.size, 0, none⟩ = some (.pointer (some ⟨lg, 0, none⟩)) ∧ W.cell? ⟨lg, 1, none⟩ = some (.int .i64 (f : Int)) ∧ W.cell? ⟨lg, 3, none⟩ = some (.int .i64 (u : Int)))
  (first | exact s0 | exact HS.out _ (((Below.refl w2.heap.size w2).drew).alloc (Nat.le_refl _) _))
  (fail)
 go_wp2_with (first
  | (go_at_call 72; (with_reducible refine (chunk_any _ _ _ _).mono ?_); rintro e w4 ⟨rfl, rfl⟩))
 obtain ⟨W8, hW8⟩ : ∃ W8, W8 = (((w2.alloc (.cells #[.int .i64 (fk : Int)] 3)).alloc (.cells #[.slice (some ⟨tb, tf, none⟩) n cB] 39)).alloc (.cells #[.int .i64 256] 3)).drew := ⟨_, rfl⟩
 rw [← hW8]
 obtain ⟨q2, hq2⟩ : ∃ q, q = w2.heap.size := ⟨_, rfl⟩
 rw [← hq2]
 have hb8 : Below w2.heap.size w2 W8 := by rw [hW8]; exact (((((Below.refl w2.heap.size w2).alloc (Nat.le_refl _) _)).alloc (by simp) _).alloc (by simp; omega) _).drew
 have hs8 : W8.heap.size = q2 + 3 := by rw [hW8, hq2]; simp
 have hk2 : Blk W8 q2 3 #[.int .i64 (fk : Int)] := by
  rw [hW8, hq2]
  exact (((Blk.new w2 _ _).alloc _).alloc _).drew
 have hk3 : Blk W8 (q2 + 1) 39 #[.slice (some ⟨tb, tf, none⟩) n cB] := by
  rw [hW8, hq2]
  have h9 := Blk.new (w2.alloc (.cells #[.int .i64 (fk : Int)] 3)) 39 #[.slice (some ⟨tb, tf, none⟩) n cB]
  rw [show (w2.alloc (.cells #[.int .i64 (fk : Int)] 3)).heap.size = w2.heap.size + 1 by simp] at h9
  exact (h9.alloc _).drew
 have hk4 : Blk W8 (q2 + 1 + 1) 3 #[.int .i64 256] := by
  rw [hW8, hq2]
  have h9 := Blk.new ((w2.alloc (.cells #[.int .i64 (fk : Int)] 3)).alloc (.cells #[.slice (some ⟨tb, tf, none⟩) n cB] 39)) 3 #[.int .i64 256]
  rw [show ((w2.alloc (.cells #[.int .i64 (fk : Int)] 3)).alloc (.cells #[.slice (some ⟨tb, tf, none⟩) n cB] 39)).heap.size = w2.heap.size + 1 + 1 by simp] at h9
  exact h9.drew
 have hq2s : q2 = w.heap.size + 2 := by rw [hq2]; exact HS2.out
 have hb08 : Below w.heap.size w W8 := chain7 HB2.out hb8
 have hK0 : Blk W8 w.heap.size 33 #[.pointer (some ⟨lg, 0, none⟩)] := Blk.below HQ0.out hb8 HQ0.out.lt
 have hK1 : Blk W8 (w.heap.size + 1) 26 #[.int .i64 0] := Blk.below HQ1.out hb8 HQ1.out.lt
 have hL8 := HL.out.below hb08
 have hR8 : RB W8 W8.heap.size (some ⟨tb, tf, none⟩) b := rb_up7 HR.out hb08
 have hD8 : PDisk W8 g (fun k => F k ∧ ∃ t cs, Blk W8 k t cs) d := (HD.out.below hb08).cellsF
 have hF8 : CellsOnly W8 (fun k => F k ∧ ∃ t cs, Blk W8 k t cs) := cellsF_only _ _
 obtain ⟨F8, hF8e⟩ : ∃ F8 : Nat → Prop, F8 = (fun k => F k ∧ ∃ t cs, Blk W8 k t cs) := ⟨_, rfl⟩
 rw [← hF8e] at hD8 hF8
 have hFF : ∀ k, F8 k → F k := fun k hk => by rw [hF8e] at hk; exact hk.1
 have hFlt : ∀ k, F8 k → k < w.heap.size := fun k hk => HD.out.flt k (hFF k hk)
 obtain ⟨N, hN⟩ : ∃ N, N = chunkN n := ⟨_, rfl⟩
 have HW := Lib.hid (And.intro hb08 (And.intro hs8 (And.intro hk2 (And.intro hk3 (And.intro hk4 (And.intro hK0 (And.intro hK1 (And.intro hL8 hR8))))))))
 have HF8 := Lib.hid (And.intro hD8 (And.intro hF8 (And.intro hFF hFlt)))
 have HN2 := Lib.hid hN
 have HQ2s := Lib.hid hq2s
 skip
 have hc3 : W8.cell? ⟨q2 + 1, 0, none⟩ = some (.slice (some ⟨tb, tf, none⟩) n cB) := by rw [hk3.cell]; rfl
 have hc4 : W8.cell? ⟨q2 + 1 + 1, 0, none⟩ = some (.int .i64 256) := by rw [hk4.cell]; rfl
 have hl3 : q2 + 1 < W8.heap.size := by omega
 have hl4 : q2 + 1 + 1 < W8.heap.size := by omega
 have hst : WrI W8 g q2 F8 f k0 b d [] W8 := ⟨F8, d, hD8, hF8, fun k hk => .inl hk, Turns.refl _ _, by rw [show f + (k0 + ([] : List Nat).length) = fk by rw [HFk.out]; simp]; exact hk2, by simp, rfl⟩
 clear hW8 hq2 hb8 hs8 hk2 hk3 hk4 hq2s hb08 hK0 hK1 hL8 hR8 hD8 hF8 hF8e hFF hFlt hN s0 HS HQ0 HQ1 HS2 HB2
 refine (wpIn_wide (n := 9)).1 ?_
 refine wpIn_rangeFunc_ownG (F := Fence.wide) (n := 9) rfl (by omega) (gf := 94) (lb := #[.pointer (some ⟨q2 + 1, 0, none⟩), .pointer (some ⟨q2 + 1 + 1, 0, none⟩)]) rfl trivial (enters_of Tryz.func94 (by kernel_rfl) rfl)
  (chunk_stops 8 (by omega) (q2 + 1) (q2 + 1 + 1) tb tf n N cB HN2.out (by have := HN.out; omega) (by have := HN.out; omega) W8 hl3 hl4 hc3 hc4) (fun h k => KeepsTwo.trans h k) (keepsTwo_b hl3 hl4) (Below.refl _ _) (fun _ => rfl)
  (fun pre V => WrI W8 g q2 F8 f k0 b d (pre.map (·.1)) V) (fun c pre V => WrX W8 g (w.heap.size + 1) q2 F8 f k0 b d c (pre.map (·.1)) V)
  (wrI_own (fun pre : List (Upto N) => pre.map (·.1)) W8 g q2 F8 f k0 b d) (fun c => wrX_own (fun pre : List (Upto N) => pre.map (·.1)) W8 g (w.heap.size + 1) q2 F8 f k0 b d c) hst
  (fun x => { tmps := #[(Value.pointer (some ⟨lg, 0, none⟩)), .slice (some ⟨tb, tf, none⟩) n cB, .pointer (some ⟨w.heap.size, 0, none⟩), undef, .pointer (some ⟨w.heap.size + 1, 0, none⟩), .pointer (some ⟨q2, 0, none⟩), chunkV tb tf n x.1, undef, undef, .pointer (some ⟨lg, 0, none⟩), .pointer (some ⟨lg, 0, none⟩), .pointer (some ⟨lg, 1, none⟩), .int .i64 (f : Int), .pointer (some ⟨lg, 0, none⟩), .pointer (some ⟨lg, 0, none⟩), .pointer (some ⟨lg, 3, none⟩), .int .i64 (u : Int), .int .i64 (k0 : Int), .int .i64 (fk : Int), .slice (some ⟨tb, tf, none⟩) n cB, .func (.func 94) #[] #[.pointer (some ⟨q2 + 1, 0, none⟩), .pointer (some ⟨q2 + 1 + 1, 0, none⟩)], chunkV tb tf n x.1, undef, undef, undef, undef, undef, undef, undef, undef, undef, undef, undef, undef, undef, undef, undef, undef, undef, undef, undef, undef, undef], defers := [] }) ?assign ?body ?done ?stop
 case assign =>
  intro l x V K hK
  gi_wp2
  exact hK
 case body =>
  rintro l pre x V hI hlen
  obtain ⟨i, hin⟩ : ∃ i, i = x.1 := ⟨_, rfl⟩
  have hiN : i < N := by rw [hin]; exact x.2
  obtain ⟨js, hjs⟩ : ∃ js, js = pre.map (fun x : Upto N => x.1) := ⟨_, rfl⟩
  have hjl : js.length = pre.length := by rw [hjs, List.length_map]
  have hpm : List.map (fun x : Upto N => x.1) (pre ++ [x] : List (Upto N)) = js ++ [i] := by rw [List.map_append, ← hjs, hin]; rfl
  obtain ⟨pr, hpr⟩ : ∃ pr : List (Upto N), pr = pre ++ [x] := ⟨_, rfl⟩
  rw [← hpr] at hpm ⊢
  have HPM := Lib.hid hpm
  simp only at hI ⊢
  rw [← hjs] at hI
  have HI := Lib.hid hI
  obtain ⟨PV, hPV⟩ : ∃ PV, PV = chunkV tb tf n i := ⟨_, rfl⟩
  rw [← hin, ← hPV]
  obtain ⟨q, hq⟩ : ∃ q, q = chunkL n i := ⟨_, rfl⟩
  have hPV2 : PV = .slice (some ⟨tb, tf + i * 256, none⟩) q q := by rw [hPV, hq]; rfl
  have hiC : i < chunkN b.length := by rw [← HN.out.1, ← HN2.out]; exact hiN
  have HQ : Hid (((b.drop (256 * i)).take 256).length = q ∧ q ≤ 256 ∧ (padC b i).length = 256 ∧ 1 ≤ q) := ⟨by rw [chunk_take b i hiC, hq, HN.out.1], by rw [hq]; unfold chunkL; split <;> omega, padC_length b i hiC, by rw [hq]; unfold chunkL; unfold chunkN at hiC; have := HN.out.1; split <;> omega⟩
  have HJl : Hid (js.length < N) := by show _ < _; omega
  obtain ⟨F', D, d1, d2, dft, d3, d4, d5, d6⟩ := HI.out
  have HDk := Lib.hid (And.intro d1 (And.intro d2 (And.intro d3 (And.intro d4 (And.intro d5 d6)))))
  obtain ⟨p, hp⟩ : ∃ p, p = f + (k0 + js.length) := ⟨_, rfl⟩
  have Hp := Lib.hid hp
  have hsV : W8.heap.size ≤ V.heap.size := d3.size
  have HsV := Lib.hid hsV
  have HQn : Hid (¬ F' q2) := fun hf => by
   rcases dft q2 hf with h9 | h9
   ·have := HF8.out.2.2.2 _ h9; have := HQ2s.out; omega
   ·have := HW.out.2.1; omega
  have HFt := Lib.hid dft
  have HDload : Hid (D.load ≤ 100000) := by
   have h7 := HLd.out
   have h8 := HN2.out
   have h9 := HN.out
   unfold chunkN at h8
   show _ ≤ _
   omega
  have HBV : Hid (∀ X, Below V.heap.size V X → RB X X.heap.size (some ⟨tb, tf, none⟩) b) := fun X hX => by
   have h7 : RB V V.heap.size (some ⟨tb, tf, none⟩) b := (Reads.turns HW.out.2.2.2.2.2.2.2.2 (Nat.le_refl _) d3 (fun ad e => by injection e with e; subst e; rintro (h8 | h8); exact HTb.out.2 (HF8.out.2.2.1 _ h8); have h9 : tb = q2 := h8; have := HTb.out.1; have := HQ2s.out; omega)).more d3.size
   exact rb_up7 h7 hX
  have HCell : Hid (∀ X, Below V.heap.size V X → X.cell? ⟨w.heap.size, 0, none⟩ = some (.pointer (some ⟨lg, 0, none⟩)) ∧ X.cell? ⟨lg, 0, none⟩ = some (.pointer (some ⟨g, 0, none⟩)) ∧ X.cell? ⟨q2, 0, none⟩ = some (.int .i64 (p : Int))) := fun X hX => by
   have h7 : Blk V w.heap.size 33 #[.pointer (some ⟨lg, 0, none⟩)] := HW.out.2.2.2.2.2.1.turns d3 (by rintro (h8 | h8); have := HF8.out.2.2.2 _ h8; omega; have := HQ2s.out; omega)
   have h8 := HW.out.2.2.2.2.2.2.2.1.turns d3 (fun k hk => by rintro (h9 | h9); exact HEF.out k hk (HF8.out.2.2.1 _ h9); have := HL.out.lt k hk; have := HQ2s.out; omega)
   have h9 := h8.below hX
   refine ⟨by rw [(Blk.below h7 hX h7.lt).cell]; rfl, h9.r0, ?_⟩
   rw [(Blk.below d4 hX d4.lt).cell, Hp.out]; rfl
  have HSZ : Hid (∀ Z, Hid (∃ F'', PDisk Z g F'' (D.write (p : Int) (padC b i)).1 ∧ Turns V Z F' F'') → Z.cell? ⟨w.heap.size, 0, none⟩ = some (.pointer (some ⟨lg, 0, none⟩)) ∧ Z.cell? ⟨lg, 0, none⟩ = some (.pointer (some ⟨g, 0, none⟩)) ∧ Z.cell? ⟨q2, 0, none⟩ = some (.int .i64 (p : Int))) := fun Z hZ => by
   obtain ⟨F'', _, ht⟩ := hZ.out
   obtain ⟨c1, c2, c3⟩ := HCell.out V (Below.refl _ _)
   have hV0 : w.heap.size < V.heap.size := by have := HW.out.2.1; have := HQ2s.out; omega
   refine ⟨(ht.cell (p := ⟨w.heap.size, 0, none⟩) hV0 ?_).trans c1, (ht.cell (p := ⟨lg, 0, none⟩) (by have := HLg.out; show lg < _; omega) ?_).trans c2, (ht.cell (p := ⟨q2, 0, none⟩) (by have := HW.out.2.1; show q2 < _; omega) HQn.out).trans c3⟩
   ·intro hf
    rcases dft _ hf with h9 | h9
    ·exact absurd (HF8.out.2.2.2 _ h9) (Nat.lt_irrefl _)
    ·have h9 : W8.heap.size ≤ w.heap.size := h9; have := HW.out.2.1; have := HQ2s.out; omega
   ·intro hf
    rcases dft _ hf with h9 | h9
    ·exact HEF.out lg HL.out.el (HF8.out.2.2.1 _ h9)
    ·have h9 : W8.heap.size ≤ lg := h9; have := HW.out.2.1; have := HQ2s.out; have := HLg.out; omega
  clear hPV hq hin hjs hjl hpm hpr hI hlen hiC hp d1 d2 d3 d4 d5 d6 dft hsV
  have hin2 := hiN
  obtain ⟨bk, hbk⟩ : ∃ bk, bk = V.heap.size := ⟨_, rfl⟩
  have Hbk := Lib.hid hbk
  clear hbk
  obtain ⟨ZR, hZR⟩ : ∃ ZR, ZR = cells (List.replicate 256 0) := ⟨_, rfl⟩
  have HZ := Lib.hid hZR
  have HZl : Hid (ZR.length = 256) := by show _ = _; rw [hZR, cells_length, List.length_replicate]
  clear hZR
  obtain ⟨i0, hi0, hz0, hz1, hz2⟩ := info_parts Tryz.info5
  refine wpIn_block ?_
  refine wpIn_seq ?_
  refine region_round_lit (fun a X => a = ⟨#[(Value.pointer (some ⟨lg, 0, none⟩)), .slice (some ⟨tb, tf, none⟩) n cB, .pointer (some ⟨w.heap.size, 0, none⟩), undef, .pointer (some ⟨w.heap.size + 1, 0, none⟩), .pointer (some ⟨q2, 0, none⟩), PV, .slice (some ⟨bk, 0, none⟩) 256 256, undef, .pointer (some ⟨lg, 0, none⟩), .pointer (some ⟨lg, 0, none⟩), .pointer (some ⟨lg, 1, none⟩), .int .i64 (f : Int), .pointer (some ⟨lg, 0, none⟩), .pointer (some ⟨lg, 0, none⟩), .pointer (some ⟨lg, 3, none⟩), .int .i64 (u : Int), .int .i64 (k0 : Int), .int .i64 (fk : Int), .slice (some ⟨tb, tf, none⟩) n cB, .func (.func 94) #[] #[.pointer (some ⟨q2 + 1, 0, none⟩), .pointer (some ⟨q2 + 1 + 1, 0, none⟩)], PV, .slice (some ⟨bk, 0, none⟩) 256 256, undef, undef, undef, undef, undef, undef, undef, undef, undef, undef, undef, undef, undef, undef, undef, undef, undef, undef, undef, undef], []⟩ ∧ Hid (Blk X bk 5 ZR.toArray) ∧ Hid (Below V.heap.size V X)) (by kernel_rfl) ?_ ?_
  ·go_wp2_with (at_make; refine wpList_make_full _ rfl _ _ 39 rfl V.heap.size 5 i0 _ 1 Tryz.underlying39 hi0 hz0 hz1 .i64 .i64 _ _ 256 rfl rfl rfl rfl (by rw [hz2]; omega) (by unfold maxLen; omega) (Nat.le_refl _) ?_; intro w7 ho7 hg7)
   refine ⟨by rw [Hbk.out], ?_, (Below.refl _ _).grown hg7 (Nat.le_refl _) (by simp)⟩
   have h7 := row_full ho7 (by omega)
   simp only [Nat.mul_one, show (Value.int IntKind.u8 0).cells = #[Value.int IntKind.u8 0] from rfl, toList_madeCells_one] at h7
   rw [Hbk.out, HZ.out, show cells (List.replicate 256 0) = List.replicate 256 (Value.int .u8 0) by simp [cells]]
   exact h7
  ·rintro a X ⟨rfl, HB4, HX4⟩
   have hX4 := HX4.out
   have hsrc : RB X X.heap.size (some ⟨tb, tf + i * 256, none⟩) ((b.drop (256 * i)).take 256) := by
    have h8 := sub_rb13 (HBV.out X hX4) (i * 256) 256
    rw [show i * 256 = 256 * i by omega] at h8 ⊢
    exact h8
   have Hsrc := Lib.hid hsrc
   have Hcp : Hid ((cells ((b.drop (256 * i)).take 256)).length = Nat.min q 256) := by
    show _ = Nat.min q 256
    rw [cells_length, HQ.out.1]
    have := HQ.out.2.1
    exact (Nat.min_eq_left this).symm
   have Hft : Hid (0 + (cells ((b.drop (256 * i)).take 256)).length ≤ ZR.length) := by
    show _ ≤ _
    rw [cells_length, HQ.out.1, HZl.out]
    have := HQ.out.2.1
    omega
   have Hqq : Hid ((cells ((b.drop (256 * i)).take 256)).length = q) := by show _ = _; rw [cells_length, HQ.out.1]
   subst hPV2
   clear hX4 hsrc
   refine wpIn_seq ?_
   refine region_round_lit (fun a Y => a = ⟨#[(Value.pointer (some ⟨lg, 0, none⟩)), .slice (some ⟨tb, tf, none⟩) n cB, .pointer (some ⟨w.heap.size, 0, none⟩), undef, .pointer (some ⟨w.heap.size + 1, 0, none⟩), .pointer (some ⟨q2, 0, none⟩), .slice (some ⟨tb, tf + i * 256, none⟩) q q, .slice (some ⟨bk, 0, none⟩) 256 256, undef, .pointer (some ⟨lg, 0, none⟩), .pointer (some ⟨lg, 0, none⟩), .pointer (some ⟨lg, 1, none⟩), .int .i64 (f : Int), .pointer (some ⟨lg, 0, none⟩), .pointer (some ⟨lg, 0, none⟩), .pointer (some ⟨lg, 3, none⟩), .int .i64 (u : Int), .int .i64 (k0 : Int), .int .i64 (fk : Int), .slice (some ⟨tb, tf, none⟩) n cB, .func (.func 94) #[] #[.pointer (some ⟨q2 + 1, 0, none⟩), .pointer (some ⟨q2 + 1 + 1, 0, none⟩)], .slice (some ⟨tb, tf + i * 256, none⟩) q q, .slice (some ⟨bk, 0, none⟩) 256 256, .slice (some ⟨bk, 0, none⟩) 256 256, .slice (some ⟨tb, tf + i * 256, none⟩) q q, .int .i64 (q : Int), undef, undef, undef, undef, undef, undef, undef, undef, undef, undef, undef, undef, undef, undef, undef, undef, undef], []⟩ ∧ Hid (Blk Y bk 5 (cells (padC b i)).toArray) ∧ Hid (Below V.heap.size V Y)) (by kernel_rfl) ?_ ?_
   ·go_wp2_with (refine wpList_copy_foot rfl (.tmp 23) (.tmp 24) _ _ rfl 5 Tryz.underlying39 Tryz.size5 (some ⟨bk, 0, none⟩) (some ⟨tb, tf + i * 256, none⟩) 256 256 q q rfl rfl bk 0 ZR 5 HB4.out (cells ((b.drop (256 * i)).take 256)) Hcp.out (rb_src Hsrc.out _) Hft.out (cells_one _) ?_; intro w8 h8 ht8)
    refine ⟨by rw [Hqq.out], ?_, ?_⟩
    ·have h9 := h8.out
     have e9 : splice ZR 0 (cells ((b.drop (256 * i)).take 256)) = cells (padC b i) := by rw [HZ.out]; exact splice_pad b i (by rw [← HN.out.1, ← HN2.out]; exact hin2)
     rw [e9] at h9
     exact h9
    ·have h9 := ht8.out
     refine HX4.out.trans (h9.below (fun k hk => by rw [hk, Hbk.out]; exact Nat.le_refl _) HX4.out.size)
   ·rintro a Y ⟨rfl, HB5, HX5⟩
    obtain ⟨D1, z, hwz⟩ : ∃ D1 z, D.write (p : Int) (padC b i) = (D1, z) := ⟨_, _, rfl⟩
    have hY5 := HX5.out
    have hY0 : Below V.heap.size V { Y with drawn := Y.drawn + 1 } := ⟨hY5.os, hY5.tape, hY5.output, hY5.size, hY5.block⟩
    have hS0 := HCell.out _ hY0
    have hbkF : ¬ F' bk := fun hf => by have := HDk.out.1.flt bk hf; have := Hbk.out; omega
    have hrbk : RB { Y with drawn := Y.drawn + 1 } ({ Y with drawn := Y.drawn + 1 } : World).heap.size (some ⟨bk, 0, none⟩) (padC b i) := by
     have h9 : Arr Y bk (padC b i) := ⟨[], by rw [List.append_nil]; exact HB5.out⟩
     exact h9.all.drewN 1
    have HWr : Hid (Calls Tryz.prog 73 #[.pointer (some ⟨g, 0, none⟩), .int .i64 (p : Int), .slice (some ⟨bk, 0, none⟩) 256 256] { Y with drawn := Y.drawn + 1 } fun e w' => e = .returned (.int .i64 z) ∧ Hid (∃ F'', PDisk w' g F'' D1 ∧ Turns V w' F' F'')) := by
     have h9 := write_any (HDk.out.1.below hY0) (p : Int) HDload.out (padC b i) (some ⟨bk, 0, none⟩) 256 256 HQ.out.2.2.1.symm hrbk (fun ad e => by injection e with e; subst e; exact hbkF) (Nat.le_refl _) (by omega)
     refine h9.mono ?_
     rintro e w' ⟨F'', he, hp', ht'⟩
     rw [hwz] at he hp'
     exact ⟨he, F'', hp', (Turns.of_below hY0 F').trans ht'⟩
    have Hwz := Lib.hid hwz
    clear hwz hY5 hbkF hrbk
    refine wpIn_seq ?_
    refine wpIn_seq ?_
    refine region_round (fun a Z => a = ⟨#[(Value.pointer (some ⟨lg, 0, none⟩)), .slice (some ⟨tb, tf, none⟩) n cB, .pointer (some ⟨w.heap.size, 0, none⟩), undef, .pointer (some ⟨w.heap.size + 1, 0, none⟩), .pointer (some ⟨q2, 0, none⟩), .slice (some ⟨tb, tf + i * 256, none⟩) q q, .slice (some ⟨bk, 0, none⟩) 256 256, .int .i64 z, .pointer (some ⟨lg, 0, none⟩), .pointer (some ⟨lg, 0, none⟩), .pointer (some ⟨lg, 1, none⟩), .int .i64 (f : Int), .pointer (some ⟨lg, 0, none⟩), .pointer (some ⟨lg, 0, none⟩), .pointer (some ⟨lg, 3, none⟩), .int .i64 (u : Int), .int .i64 (k0 : Int), .int .i64 (fk : Int), .slice (some ⟨tb, tf, none⟩) n cB, .func (.func 94) #[] #[.pointer (some ⟨q2 + 1, 0, none⟩), .pointer (some ⟨q2 + 1 + 1, 0, none⟩)], .slice (some ⟨tb, tf + i * 256, none⟩) q q, .slice (some ⟨bk, 0, none⟩) 256 256, .slice (some ⟨bk, 0, none⟩) 256 256, .slice (some ⟨tb, tf + i * 256, none⟩) q q, .int .i64 (q : Int), .pointer (some ⟨lg, 0, none⟩), .pointer (some ⟨lg, 0, none⟩), .pointer (some ⟨lg, 0, none⟩), .pointer (some ⟨g, 0, none⟩), .int .i64 (p : Int), .slice (some ⟨bk, 0, none⟩) 256 256, .int .i64 z, undef, undef, undef, undef, undef, undef, undef, undef, undef, undef], []⟩ ∧ Hid (∃ F'', PDisk Z g F'' D1 ∧ Turns V Z F' F'')) (by kernel_rfl) (by kernel_rfl) ?_ ?_
    ·refine wpAny_of_T (S := (fun V => V.cell? ⟨w.heap.size, 0, none⟩ = some (.pointer (some ⟨lg, 0, none⟩)) ∧ V.cell? ⟨lg, 0, none⟩ = some (.pointer (some ⟨g, 0, none⟩)) ∧ V.cell? ⟨q2, 0, none⟩ = some (.int .i64 (p : Int)))) (T := fun k => decide (7 ≤ k)) _ _ _ _ ?_
     refine any_asT rfl (listed' := #[false, false, false, false, false, false, false, false]) (by kernel_rfl) ?_
     refine take_d (i := 0) (.pointer (some ⟨lg, 0, none⟩)) 26 rfl (by kernel_rfl) (by kernel_rfl) (by kernel_rfl) (by kernel_rfl) rfl (by kernel_rfl) (by kernel_rfl) (fun V hV => cell_run 33 (.tmp 2) ⟨w.heap.size, 0, none⟩ (.pointer (some ⟨lg, 0, none⟩)) _ (by kernel_rfl) (by kernel_rfl) hV.1 Tryz.underlying33 rfl (by kernel_rfl)) hS0 (fun _ _ _ h => h) ?_
     simp only [Act.put, List.setIfInBounds_toArray, List.set_cons_zero, List.set_cons_succ]
     refine take_d (i := 1) (.pointer (some ⟨lg, 0, none⟩)) 27 rfl (by kernel_rfl) (by kernel_rfl) (by kernel_rfl) (by kernel_rfl) rfl (by kernel_rfl) (by kernel_rfl) (fun V hV => by kernel_rfl) hS0 (fun _ _ _ h => h) ?_
     simp only [Act.put, List.setIfInBounds_toArray, List.set_cons_zero, List.set_cons_succ]
     refine take_d (i := 2) (.pointer (some ⟨lg, 0, none⟩)) 28 rfl (by kernel_rfl) (by kernel_rfl) (by kernel_rfl) (by kernel_rfl) rfl (by kernel_rfl) (by kernel_rfl) (fun V hV => by kernel_rfl) hS0 (fun _ _ _ h => h) ?_
     simp only [Act.put, List.setIfInBounds_toArray, List.set_cons_zero, List.set_cons_succ]
     refine take_d (i := 3) (.pointer (some ⟨g, 0, none⟩)) 29 rfl (by kernel_rfl) (by kernel_rfl) (by kernel_rfl) (by kernel_rfl) rfl (by kernel_rfl) (by kernel_rfl) (fun V hV => cell_run 25 (.tmp 28) ⟨lg, 0, none⟩ (.pointer (some ⟨g, 0, none⟩)) _ (by kernel_rfl) (by kernel_rfl) hV.2.1 Tryz.underlying25 rfl (by kernel_rfl)) hS0 (fun _ _ _ h => h) ?_
     simp only [Act.put, List.setIfInBounds_toArray, List.set_cons_zero, List.set_cons_succ]
     refine take_d (i := 4) (.int .i64 (p : Int)) 30 rfl (by kernel_rfl) (by kernel_rfl) (by kernel_rfl) (by kernel_rfl) rfl (by kernel_rfl) (by kernel_rfl) (fun V hV => cell_run 3 (.tmp 5) ⟨q2, 0, none⟩ (.int .i64 (p : Int)) _ (by kernel_rfl) (by kernel_rfl) hV.2.2 Tryz.underlying3 rfl (by kernel_rfl)) hS0 (fun _ _ _ h => h) ?_
     simp only [Act.put, List.setIfInBounds_toArray, List.set_cons_zero, List.set_cons_succ]
     refine take_d (i := 5) (.slice (some ⟨bk, 0, none⟩) 256 256) 31 rfl (by kernel_rfl) (by kernel_rfl) (by kernel_rfl) (by kernel_rfl) rfl (by kernel_rfl) (by kernel_rfl) (fun V hV => by kernel_rfl) hS0 (fun _ _ _ h => h) ?_
     simp only [Act.put, List.setIfInBounds_toArray, List.set_cons_zero, List.set_cons_succ]
     refine any_comes (i := 6) (by kernel_rfl) ?_
     refine op_enter 73 #[.pointer (some ⟨g, 0, none⟩), .int .i64 (p : Int), .slice (some ⟨bk, 0, none⟩) 256 256] (some 32) rfl (by kernel_rfl) (by kernel_rfl) (by kernel_rfl) (HWr.out.mono ?_)
     rintro e Z ⟨rfl, HZ6⟩
     refine ⟨_, rfl, HSZ.out Z (by rw [Hwz.out]; exact HZ6), ?_⟩
     simp only [Act.put, List.setIfInBounds_toArray, List.set_cons_zero, List.set_cons_succ]
     refine any_left (by kernel_rfl) ?_
     refine wpAny_tail 7 (by kernel_rfl) (by kernel_rfl) ?_
     go_wp2
     exact ⟨rfl, HZ6⟩
    ·rintro a Z ⟨rfl, HZ6⟩
     obtain ⟨F'', hp6, ht6⟩ := HZ6.out
     obtain ⟨d1, d2, d3, d4, d5, d6⟩ := HDk.out
     have hq2V : q2 < V.heap.size := d4.lt
     have hwV : w.heap.size + 2 ≤ V.heap.size := by have := HQ2s.out; omega
     have hnq2 : ¬ F'' q2 := fun hf => by
      rcases ht6.foot q2 hf with h9 | h9
      ·exact HQn.out h9
      ·omega
     have hnF : ∀ k, w.heap.size ≤ k → k < W8.heap.size → ¬ F' k := fun k h7 h8 hf => by
      rcases HFt.out k hf with h9 | h9
      ·have := HF8.out.2.2.2 _ h9; omega
      ·omega
     have hW8q := HW.out.2.1
     have hQ2q := HQ2s.out
     have hnq1 : ¬ F'' (w.heap.size + 1) := fun hf => by
      rcases ht6.foot _ hf with h9 | h9
      ·exact hnF _ (by omega) (by omega) h9
      ·omega
     have HN6 := Lib.hid (And.intro hnq2 (And.intro hnq1 (And.intro hnF (And.intro hq2V (And.intro hwV (And.intro hW8q hQ2q))))))
     have HT6 := Lib.hid (And.intro hp6 ht6)
     by_cases hz0 : z = 0
     ·subst hz0
      have bq : Blk Z q2 3 #[.int .i64 (p : Int)] := by
       have h9 := d4.turns ht6 HQn.out
       rw [← Hp.out] at h9
       exact h9
      have c0 : Z.cell? ⟨q2, 0, none⟩ = some (.int .i64 (p : Int)) := by rw [bq.cell]; rfl
      have g0 := bq.frozen 0
      have y7 : IntKind.i64.wrap ((p : Int) + 1) = (p : Int) + 1 := by
       have h7 := Hp.out; have h8 := HFr.out; have h9 := HJl.out; have h10 := HN2.out; have h11 := HN.out
       unfold chunkN at h10
       have : k0 ≤ 1000 := by have := Hk0.out; omega
       exact IntWalk.i64_in _ (by omega)
      have HBq := Lib.hid bq
      clear d1 d2 d3 d4 d5 d6 hp6 ht6 hnq2 hnq1 hnF hq2V hwV hW8q hQ2q bq
      gi_wp2
      obtain ⟨d1, d2, d3, d4, d5, d6⟩ := HDk.out
      obtain ⟨hp6, ht6⟩ := HT6.out
      obtain ⟨hnq2, hnq1, hnF, hq2V, hwV, hW8q, hQ2q⟩ := HN6.out
      have ht7 : Turns V (Z.setCell ⟨q2, 0, none⟩ (.int .i64 ((p : Int) + 1))) (fun k => F' k ∨ k = q2) (fun k => F'' k ∨ k = q2) := (ht6.wide (fun k hk => .inl hk) (fun k hk => by
       rcases hk with h9 | h9
       ·exact .inr (.inl h9)
       ·exact .inl (.inr h9))).trans (Turns.set_ (F := fun k => F'' k ∨ k = q2) (.inr rfl) 0 _)
      have hp7 : PDisk (Z.setCell ⟨q2, 0, none⟩ (.int .i64 ((p : Int) + 1))) g F'' D1 := hp6.turns (Turns.set_ (F := fun k => k = q2) rfl 0 _) (fun k hk e => hnq2 (e ▸ hk))
      refine ⟨keeps_turns2 ht7 (fun k hk => ?_), ⟨ht7.cell (p := ⟨q2 + 1, 0, none⟩) (show q2 + 1 < _ by have := d3.size; omega) ?_, ht7.cell (p := ⟨q2 + 1 + 1, 0, none⟩) (show q2 + 1 + 1 < _ by have := d3.size; omega) ?_⟩, ?_⟩
      ·rcases hk with h9 | rfl
       ·exact d2 k h9
       ·exact ⟨_, _, d4⟩
      ·rintro (h9 | h9)
       ·exact hnF (q2 + 1) (by omega) (by omega) h9
       ·have h9 : q2 + 1 = q2 := h9; omega
      ·rintro (h9 | h9)
       ·exact hnF (q2 + 1 + 1) (by omega) (by omega) h9
       ·have h9 : q2 + 1 + 1 = q2 := h9; omega
      ·show WrI W8 g q2 F8 f k0 b d (List.map (fun x : Upto N => x.1) pr) _
       rw [HPM.out]
       have hlen2 : (js ++ [i]).length = js.length + 1 := by simp
       refine ⟨_, D1, hp7.cellsF, cellsF_only _ _, fun k hk => ?_, ?_, ?_, ?_, ?_⟩
       ·rcases ht6.foot k hk.1 with h9 | h9
        ·exact HFt.out k h9
        ·exact .inr (by have := d3.size; omega)
       ·exact (d3.trans ht7).foot_ (fun k hk => .inl (hk.imp (fun h => h.1) id))
       ·have h9 := HBq.out.set_ 0 (.int .i64 ((p : Int) + 1))
        rw [hlen2, show f + (k0 + (js.length + 1)) = p + 1 by rw [Hp.out]; omega]
        exact h9
       ·have h9 := (keep_write D (p : Int) (padC b i)).2
        rw [Hwz.out] at h9
        rw [hlen2]
        simp only at h9
        omega
       ·have h9 := steps_snoc f b i js k0 d D d6 (by rw [← Hp.out, Hwz.out])
        rw [h9, ← Hp.out, Hwz.out]
     ·have p00 : (z == 0) = false := by rw [beq_eq_false_iff_ne]; exact hz0
      have p01 : (z != 0) = true := by rw [bne_iff_ne]; exact hz0
      have p02 : decide (z = 0) = false := decide_eq_false hz0
      have bq : Blk Z (w.heap.size + 1) 26 #[.int .i64 0] := (HW.out.2.2.2.2.2.2.1.turns d3 (by rintro (h9 | h9); exact absurd (HF8.out.2.2.2 _ h9) (by omega); omega)).turns ht6 (hnF _ (by omega) (by omega))
      have c0 : Z.cell? ⟨w.heap.size + 1, 0, none⟩ = some (.int .i64 0) := by rw [bq.cell]; rfl
      have g0 := bq.frozen 0
      have HBq := Lib.hid bq
      have HZ0 := Lib.hid hz0
      have HK1V : Hid (Blk V (w.heap.size + 1) 26 #[.int .i64 0]) := HW.out.2.2.2.2.2.2.1.turns d3 (by rintro (h9 | h9); exact absurd (HF8.out.2.2.2 _ h9) (by omega); omega)
      clear d1 d2 d3 d4 d5 d6 hp6 ht6 hnq2 hnq1 hnF hq2V hwV hW8q hQ2q bq hz0
      gi_wp2
      obtain ⟨d1, d2, d3, d4, d5, d6⟩ := HDk.out
      obtain ⟨hp6, ht6⟩ := HT6.out
      obtain ⟨hnq2, hnq1, hnF, hq2V, hwV, hW8q, hQ2q⟩ := HN6.out
      have ht7 : Turns V (Z.setCell ⟨w.heap.size + 1, 0, none⟩ (.int .i64 z)) (fun k => F' k ∨ k = w.heap.size + 1 ∨ k = q2) (fun k => F'' k ∨ k = w.heap.size + 1 ∨ k = q2) := (ht6.wide (fun k hk => .inl hk) (fun k hk => by
       rcases hk with h9 | h9
       ·exact .inr (.inl h9)
       ·exact .inl (.inr h9))).trans (Turns.set_ (F := fun k => F'' k ∨ k = w.heap.size + 1 ∨ k = q2) (.inr (.inl rfl)) 0 _)
      have hp7 : PDisk (Z.setCell ⟨w.heap.size + 1, 0, none⟩ (.int .i64 z)) g F'' D1 := hp6.turns (Turns.set_ (F := fun k => k = w.heap.size + 1) rfl 0 _) (fun k hk e => hnq1 (e ▸ hk))
      refine ⟨keeps_turns2 ht7 (fun k hk => ?_), ?_⟩
      ·rcases hk with h9 | rfl | rfl
       ·exact d2 k h9
       ·exact ⟨_, _, HK1V.out⟩
       ·exact ⟨_, _, d4⟩
      ·show WrX W8 g (w.heap.size + 1) q2 F8 f k0 b d .ret (List.map (fun x : Upto N => x.1) pr) _
       rw [HPM.out]
       refine ⟨rfl, js, i, rfl, _, D, D1, z, hp7.cellsF, cellsF_only _ _, fun k hk => ?_, ?_, ?_, HZ0.out, d6, by rw [← Hp.out]; exact Hwz.out⟩
       ·rcases ht6.foot k hk.1 with h9 | h9
        ·exact HFt.out k h9
        ·exact .inr (by have := d3.size; omega)
       ·have h8 : Turns W8 V (fun k => F8 k ∨ k = w.heap.size + 1 ∨ k = q2) (fun k => F' k ∨ k = w.heap.size + 1 ∨ k = q2) := d3.wide (fun k hk => hk.imp id .inr) (fun k hk => by
         rcases hk with h9 | h9 | h9
         ·exact .inr (.inl (.inl h9))
         ·exact .inl (.inr (.inl h9))
         ·exact .inl (.inr (.inr h9)))
        exact (h8.trans ht7).foot_ (fun k hk => .inl (hk.imp (fun h => h.1) id))
       ·exact HBq.out.set_ 0 (.int .i64 z)
 case done =>
  rintro Dd ys Z hDd hys hI hK
  have hI : WrI W8 g q2 F8 f k0 b d (List.map (fun x : Upto N => x.1) ys) Z := hI
  have hys : List.map (fun x : Upto N => x.1) ys = List.range N := hys
  rw [hys] at hI
  obtain ⟨F', D, d1, d2, dft, d3, d4, d5, d6⟩ := hI
  have hw : writesW f all N k0 d = (D, 0) := by
   have h9 := steps_all (frm := f) (k0 := k0) (N := N) (b := b) (all := all) (fun i hi => HBk.out i (by rw [← HN2.out]; exact hi)) N 0 d D (by omega) (by rw [Nat.add_zero, ← List.range_eq_range']; exact d6)
   rw [Nat.add_zero] at h9
   exact h9
  have HV : Hid (wroteW f all (chunkN n) k0 d = D.flush) := by
   show _ = _
   rw [← HN2.out]
   unfold wroteW
   rw [hw]
   simp
  have hW8q := HW.out.2.1
  have hQ2q := HQ2s.out
  have hFw : ∀ k, F' k → F k ∨ w.heap.size ≤ k := fun k hk => by
   rcases dft k hk with h9 | h9
   ·exact .inl (HF8.out.2.2.1 k h9)
   ·exact .inr (by omega)
  have hnF : ∀ k, w.heap.size ≤ k → k < W8.heap.size → ¬ F' k := fun k h7 h8 hf => by
   rcases dft k hf with h9 | h9
   ·have := HF8.out.2.2.2 _ h9; omega
   ·omega
  have hq0 : Blk Z w.heap.size 33 #[.pointer (some ⟨lg, 0, none⟩)] := HW.out.2.2.2.2.2.1.turns d3 (by rintro (h8 | h8); exact absurd (HF8.out.2.2.2 _ h8) (Nat.lt_irrefl _); omega)
  have hq1 : Blk Z (w.heap.size + 1) 26 #[.int .i64 0] := HW.out.2.2.2.2.2.2.1.turns d3 (by rintro (h8 | h8); exact absurd (HF8.out.2.2.2 _ h8) (by omega); omega)
  have hlg := HW.out.2.2.2.2.2.2.2.1.turns d3 (fun k hk => by rintro (h9 | h9); exact HEF.out k hk (HF8.out.2.2.1 _ h9); have := HL.out.lt k hk; omega)
  have c0 : Z.cell? ⟨w.heap.size, 0, none⟩ = some (.pointer (some ⟨lg, 0, none⟩)) := by rw [hq0.cell]; rfl
  have c1 := hlg.r0
  have HFl := Lib.hid (flush_any d1 (by have h7 := HLd.out; have h8 := HN2.out; have h9 := HN.out; unfold chunkN at h8; rw [List.length_range] at d5; omega))
  have HD3 := Lib.hid (And.intro d1 (And.intro d2 (And.intro dft (And.intro d3 (And.intro hFw hnF)))))
  have HQ1 := Lib.hid hq1
  have HK := Lib.hid hK
  have HDd := Lib.hid hDd
  obtain ⟨E1, z, hz⟩ : ∃ E1 z, D.flush = (E1, z) := ⟨_, _, rfl⟩
  rw [hz] at HFl HV
  simp only at HFl
  clear d1 d2 dft d3 d4 d5 d6 hys hw hFw hnF hq0 hq1 hlg hK hz hDd
  go_wp2_with (first
   | (go_at_call 74; (with_reducible refine HFl.out.mono ?_); rintro e w5 ⟨rfl, hp5⟩; have b15 := HQ1.out.turns hp5.2 (HD3.out.2.2.2.2.2 _ (by omega) (by omega)); have y0 : w5.cell? ⟨w.heap.size + 1, 0, none⟩ = some (.int .i64 0) := (by rw [b15.cell]; rfl); have z5 := b15.frozen 0; have HB15 := Lib.hid b15; have HP5 := Lib.hid hp5; clear b15 hp5))
  obtain ⟨d1, d2, dft, d3, hFw, hnF⟩ := HD3.out
  obtain ⟨p5, t5⟩ := HP5.out
  have hsz : W8.heap.size ≤ Z.heap.size := d3.size
  have hDl : Dd < Z.heap.size := (Array.getElem?_eq_some_iff.1 HK.out).1
  have hDF : ¬ F' Dd := fun hf => by
   obtain ⟨ty, cs, hb⟩ := d2 Dd hf
   have h9 := HK.out
   rw [show Z.heap[Dd]? = _ from hb] at h9
   cases h9
  have hd8 := HDd.out
  have hT6 : Turns Z (w5.setCell ⟨w.heap.size + 1, 0, none⟩ (.int .i64 z)) (fun k => F' k ∨ k = w.heap.size + 1) (fun k => F' k ∨ k = w.heap.size + 1) := (t5.wide (fun k hk => .inl hk) (fun k hk => .inl hk)).trans (Turns.set_ (F := fun k => F' k ∨ k = w.heap.size + 1) (.inr rfl) 0 _)
  have hK2 : (w5.setCell ⟨w.heap.size + 1, 0, none⟩ (.int .i64 z)).heap[Dd]? = some (.deferred (some [])) := (hT6.block Dd hDl (by rintro (h9 | h9); exact hDF h9; omega)).trans HK.out
  have hp6 : PDisk (w5.setCell ⟨w.heap.size + 1, 0, none⟩ (.int .i64 z)) g F' E1 := p5.turns (Turns.set_ (F := fun k => k = w.heap.size + 1) rfl 0 _) (fun k hk e => hnF _ (by omega) (by omega) (e ▸ hk))
  have bq := HB15.out.set_ 0 (.int .i64 z)
  generalize w5.setCell ⟨w.heap.size + 1, 0, none⟩ (.int .i64 z) = Z2 at hT6 hK2 hp6 bq ⊢
  have kp : ∀ r, some Dd = some r → ∃ o : Obj, Z2.heap[r]? = some o ∧ o.isCells = false := fun r e => by cases e; exact ⟨_, hK2, rfl⟩
  have c9 : (Z2.putObj Dd (.deferred none)).cell? ⟨w.heap.size + 1, 0, none⟩ = some (.int .i64 z) := by
   have h9 := (blk_kept bq (grownBy_putObj' Z2 Dd (.deferred none)) kp).cell 0
   rw [h9]; rfl
  refine ⟨by simp, .inl ⟨_, _, rfl, run_takeDeferred hK2, ?_⟩⟩
  refine ⟨.int .i64 z, by simp [results, Tryz.results49, go_sem, c9], ?_, ?_⟩
  ·rw [HV.out]
  ·rw [HV.out]
   have h8 := pdisk_kept hp6.cellsF (cellsF_only _ _) (grownBy_putObj' Z2 Dd (.deferred none)) kp
   refine ⟨_, h8.1, ?_⟩
   have h7 : Turns W8 Z2 (fun k => F8 k ∨ k = w.heap.size + 1 ∨ k = q2) (fun k => F' k ∨ k = w.heap.size + 1 ∨ k = q2) := (d3.wide (E := fun k => F8 k ∨ k = w.heap.size + 1 ∨ k = q2) (E' := fun k => F' k ∨ k = w.heap.size + 1 ∨ k = q2) (fun k hk => hk.imp id .inr) (fun k hk => by
    rcases hk with h9 | h9 | h9
    ·exact .inr (.inl (.inl h9))
    ·exact .inl (.inr (.inl h9))
    ·exact .inl (.inr (.inr h9)))).trans (hT6.wide (fun k hk => hk.imp id .inl) (fun k hk => .inl hk))
   have h6 := turns_kept2 h7 (grownBy_putObj' Z2 Dd (.deferred none)) (fun r e => by cases e; exact hd8)
   exact turns_narrow HW.out.1 h6 (fun k hk => by
    rcases hk with h9 | h9 | h9
    ·exact .inl (HF8.out.2.2.1 k h9)
    ·exact .inr (by omega)
    ·exact .inr (by omega)) (fun k hk => hFw k hk.1)
 case stop =>
  rintro Dd c1 pre Z hDd hpre hX hK
  have hX : WrX W8 g (w.heap.size + 1) q2 F8 f k0 b d c1 (List.map (fun x : Upto N => x.1) pre) Z := hX
  have hpre : List.map (fun x : Upto N => x.1) pre = List.range pre.length := hpre
  rw [hpre] at hX
  obtain ⟨rfl, js0, j, hj, F', D0, D, z, d1, d2, dft, d3, d4, d5, d6, d7⟩ := hX
  have hpl : pre.length = js0.length + 1 := by
   have := congrArg List.length hj
   simpa using this
  rw [hpl, List.range_succ] at hj
  obtain ⟨hj1, hj2⟩ := List.append_inj' hj rfl
  simp only [List.cons.injEq, and_true] at hj2
  subst hj2
  have hjN : js0.length < N := by
   have h9 : js0.length ∈ List.map (fun x : Upto N => x.1) pre := by rw [hpre, hpl]; exact List.mem_range.2 (Nat.lt_succ_self _)
   obtain ⟨x, _, hx⟩ := List.mem_map.1 h9
   rw [← hx]
   exact x.2
  have hw : writesW f all N k0 d = (D, z) := by
   have h9 := steps_bad (frm := f) (k0 := k0) (N := N) (b := b) (all := all) (fun i hi => HBk.out i (by rw [← HN2.out]; exact hi)) js0.length 0 N d D0 hjN (by omega) (by rw [Nat.add_zero, ← List.range_eq_range', hj1]; exact d6) (by rw [Nat.add_zero, Nat.zero_add, d7]; exact d5)
   rw [Nat.add_zero, Nat.zero_add, d7] at h9
   exact h9
  have HV : wroteW f all (chunkN n) k0 d = (D, z) := by
   rw [← HN2.out]
   unfold wroteW
   rw [hw, if_pos d5]
  have hW8q := HW.out.2.1
  have hQ2q := HQ2s.out
  have kp : ∀ r, some Dd = some r → ∃ o : Obj, Z.heap[r]? = some o ∧ o.isCells = false := fun r e => by cases e; exact ⟨_, hK, rfl⟩
  have c9 : (Z.putObj Dd (.deferred none)).cell? ⟨w.heap.size + 1, 0, none⟩ = some (.int .i64 z) := by
   have h9 := (blk_kept d4 (grownBy_putObj' Z Dd (.deferred none)) kp).cell 0
   rw [h9]; rfl
  refine wpIn_ret ?_
  refine ⟨by simp, .inl ⟨_, _, rfl, run_takeDeferred hK, ?_⟩⟩
  refine ⟨.int .i64 z, by simp [results, Tryz.results49, go_sem, c9], ?_, ?_⟩
  ·rw [HV]
  ·rw [HV]
   have h8 := pdisk_kept d1 d2 (grownBy_putObj' Z Dd (.deferred none)) kp
   refine ⟨_, h8.1, ?_⟩
   have h6 := turns_kept2 d3 (grownBy_putObj' Z Dd (.deferred none)) (fun r e => by cases e; exact hDd)
   exact turns_narrow HW.out.1 h6 (fun k hk => by
    rcases hk with h9 | h9 | h9
    ·exact .inl (HF8.out.2.2.1 k h9)
    ·exact .inr (by omega)
    ·exact .inr (by omega)) (fun k hk => by
    rcases dft k hk with h9 | h9
    ·exact .inl (HF8.out.2.2.1 k h9)
    ·exact .inr (by omega))
end
section
open Go.RowKit
open Wal
def recT : Option (List UInt8 × Nat) → List UInt8 × Nat
 | none => ([], 0)
 | some x => x
def GivesRec (r : Option (List UInt8 × Nat)) (w : World) (e : Ending) (w' : World) : Prop :=
 ∃ A c, e = .returned (.tuple #[.slice A (recT r).1.length c, .int .i64 ((recT r).2 : Int)]) ∧ Own w' w.heap.size A (recT r).1 c ∧ Below w.heap.size w w'
def ScanTo (sec : Sec) (at_ N : Nat) (least most : Int) (k : Nat) (l : List Sd) : Prop :=
 l.length = k ∧ (∀ x ∈ l, x.data.length ≤ 48) ∧ scanR sec at_ least most (N - at_) 0 [] = scanR sec at_ least most (N - at_ - k) k l
section
variable {sec : Sec} {at_ N : Nat} {least most : Int} {k : Nat} {l : List Sd} {s : Sd} {z : Int}
theorem ScanTo.none (h : ScanTo sec at_ N least most k l) (hk : at_ + k < N) (hs : sec (at_ + k) = (s, z)) (hb : z ≠ 0 ∨ s.number ≠ ((at_ + k : Nat) : Int) ∨ (k = 0 ∧ ¬ (s.kind = 2 ∧ least ≤ s.epoch ∧ s.epoch ≤ most))) : recordW sec N at_ least most = none := by
 unfold recordW
 rw [h.2.2, show N - at_ - k = (N - at_ - k - 1) + 1 by omega, scanR, hs, if_pos hb]
theorem ScanTo.next (h : ScanTo sec at_ N least most k l) (hk : at_ + k < N) (hs : sec (at_ + k) = (s, z)) (hb : ¬ (z ≠ 0 ∨ s.number ≠ ((at_ + k : Nat) : Int) ∨ (k = 0 ∧ ¬ (s.kind = 2 ∧ least ≤ s.epoch ∧ s.epoch ≤ most)))) (h48 : s.data.length ≤ 48) (hl : s.left ≠ 0) : ScanTo sec at_ N least most (k + 1) (l ++ [s]) := by
 refine ⟨by simp [h.1], fun x hx => ?_, ?_⟩
 ·rcases List.mem_append.1 hx with h1 | h1
  ·exact h.2.1 x h1
  ·rw [List.mem_singleton] at h1; rw [h1]; exact h48
 ·rw [h.2.2, show N - at_ - k = (N - at_ - (k + 1)) + 1 by omega, scanR, hs, if_neg hb, if_neg hl]
theorem ScanTo.last (h : ScanTo sec at_ N least most k l) (hk : at_ + k < N) (hs : sec (at_ + k) = (s, z)) (hb : ¬ (z ≠ 0 ∨ s.number ≠ ((at_ + k : Nat) : Int) ∨ (k = 0 ∧ ¬ (s.kind = 2 ∧ least ≤ s.epoch ∧ s.epoch ≤ most)))) (hl : s.left = 0) : recordW sec N at_ least most = if (joinS (l ++ [s])).2 = true then some ((joinS (l ++ [s])).1, (l ++ [s]).length) else .none := by
 unfold recordW
 rw [h.2.2, show N - at_ - k = (N - at_ - k - 1) + 1 by omega, scanR, hs, if_neg hb, if_pos hl]
theorem ScanTo.end (h : ScanTo sec at_ N least most k l) (hk : ¬ at_ + k < N) : recordW sec N at_ least most = if (joinS l).2 = true then some ((joinS l).1, l.length) else .none := by
 unfold recordW
 rw [h.2.2, show N - at_ - k = 0 by omega, scanR]
end
theorem five_new2 (W : World) (o : Obj) (v0 v1 v2 v3 v4 : Value) (t : TypeId) : Reads ((W.alloc o).alloc (.cells #[v0, v1, v2, v3, v4] t)) (W.heap.size + 1 + 1) 5 (some ⟨W.heap.size + 1, 0, none⟩) 1 [v0, v1, v2, v3, v4] := by
 have h := five_new (W.alloc o) v0 v1 v2 v3 v4 t
 have hsz : (W.alloc o).heap.size = W.heap.size + 1 := by simp
 rw [hsz] at h
 exact h
theorem five_kept {w1 w9 : World} {o : Obj} {v0 v1 v2 v3 v4 : Value} {t : TypeId} {row : Option Nat} (hg : ((w1.alloc (.cells #[v0, v1, v2, v3, v4] t)).alloc o).grownBy w9 row) (hr : ∀ j, row = some j → j < w1.heap.size) :
  w9.cell? ⟨w1.heap.size, 0, none⟩ = some v0 ∧ w9.cell? ⟨w1.heap.size, 1, none⟩ = some v1 ∧ w9.cell? ⟨w1.heap.size, 2, none⟩ = some v2 ∧ w9.cell? ⟨w1.heap.size, 3, none⟩ = some v3 ∧ w9.cell? ⟨w1.heap.size, 4, none⟩ = some v4 := by
 have h0 : Blk ((w1.alloc (.cells #[v0, v1, v2, v3, v4] t)).alloc o) w1.heap.size t #[v0, v1, v2, v3, v4] := Blk.below (Blk.new w1 _ _) ((Below.refl _ _).alloc (Nat.le_refl _) _) (by simp)
 have h1 := h0.grown hg (fun e => by have := hr _ e.symm; omega)
 exact ⟨by rw [h1.cell]; rfl, by rw [h1.cell]; rfl, by rw [h1.cell]; rfl, by rw [h1.cell]; rfl, by rw [h1.cell]; rfl⟩
theorem rb_back {w W : World} {B : Nat} {A : Option Addr} {L : List UInt8} (h : RB W B A L) (hb : Below B w W) : RB w B A L := by
 refine ⟨h.1, fun h0 => ?_⟩
 obtain ⟨ad, e, hlt, hc⟩ := h.2 h0
 refine ⟨ad, e, hlt, fun j u hu => ?_⟩
 have h3 := hc j u hu
 rw [← hb.cell (p := ad.add j) (by unfold Addr.add; split <;> exact hlt)]
 exact h3
theorem own_less {w : World} {base base' n size : Nat} {e : TypeId} {v : Value} {xs : List Value} (h : w.ownsRow base e size v n xs) (hb : base' ≤ base) : w.ownsRow base' e size v n xs :=
 ⟨h.1, h.2.imp id fun ⟨g, cap, cur, h1, h2, h3⟩ => ⟨g, cap, cur, h1, Nat.le_trans hb h2, h3⟩⟩
theorem rrecord_any (area : List UInt8) (n : Nat) (A : Option Addr) (c at_ : Nat) (least most : Int) (w : World) (hn : n = area.length) (hr : RB w w.heap.size A area) (hc : n ≤ c) (hcm : c ≤ 9223372036854775807) (hl : n ≤ 64000) (hat : at_ ≤ 1000) :
  Calls Tryz.prog 78 #[.slice A n c, .int .i64 (at_ : Int), .int .i64 least, .int .i64 most] w (GivesRec (recordW (secA area) (n / 64) at_ least most) w) := by
 obtain ⟨N, hN⟩ : ∃ N, N = n / 64 := ⟨_, rfl⟩
 rw [← hN]
 have HN := Lib.hid hN
 have Hn := Lib.hid hn
 have HR := Lib.hid hr
 have HC := Lib.hid hcm
 have Hc := Lib.hid hc
 have hN1 : N ≤ 1000 := by omega
 have y0 : ((n : Int)).tdiv 64 = (N : Int) := by rw [Int.tdiv_eq_ediv_of_nonneg (by omega), hN]; omega
 have y1 : IntKind.i64.wrap (N : Int) = (N : Int) := IntWalk.i64_in _ (by omega)
 obtain ⟨i0, hi0, hz0, hz1, hz2⟩ := info_parts Tryz.secInfo
 have a24 := fun w' => Tryz.aggSec w'
 have s24 := fun w' => Tryz.sizeSec w'
 have nt := fun w' => Tryz.notTrue w'
 have nf := fun w' => Tryz.notFalse w'
 have HO : Hid (recordW (secA area) N at_ least most = recordW (secA area) N at_ least most) := rfl
 clear hn hr hN hc hcm
 go_enter Tryz.func78, Tryz.ntmps78
 go_wp2
 go_loopw [10, 11, 12, 13, 14] (fun v x _ _ _ wr => ∃ (k : Nat) (A' : Option Addr) (c' : Nat) (rows : List (Sd × Option Addr × Nat)), at_ + k ≤ 1000 ∧ k ≤ N ∧ v = .slice A' k c' ∧ x = .int .i64 (k : Int) ∧ Hid (k ≤ N - at_ ∧ ScanTo (secA area) at_ N least most k (rows.map (·.1)) ∧ ∀ x ∈ rows, RB w w.heap.size x.2.1 x.1.data) ∧ Hid (wr.ownsRow w.heap.size 49 5 (.slice A' k c') k (rowC rows)) ∧ Hid (Below w.heap.size w wr)) (fun _ x _ _ _ _ => N - (intOf x).toNat)
 case atStart => exact ⟨0, none, 0, [], by omega, by omega, rfl, rfl, ⟨by omega, ⟨rfl, (fun x hx => absurd hx (by simp)), rfl⟩, (fun x hx => absurd hx (by simp))⟩, World.ownsRow_nil _ _ _ _, Below.refl _ _⟩
 case round =>
  obtain ⟨k, A', c', rows, hk0, hkN, rfl, rfl, HS, HW, HB⟩ := hrel
  obtain ⟨q, hq⟩ : ∃ q, q = at_ + k := ⟨_, rfl⟩
  have Hq := Lib.hid hq
  have x0 : (at_ : Int) + (k : Int) = (q : Int) := by omega
  have x1 : IntKind.i64.wrap (q : Int) = (q : Int) := IntWalk.i64_in _ (by omega)
  by_cases hlt : q < N
  ·obtain ⟨q0, hq0⟩ : ∃ q0, q0 = 64 * q := ⟨_, rfl⟩
   obtain ⟨q2, hq2⟩ : ∃ q2, q2 = q0 + 64 := ⟨_, rfl⟩
   have x2 : (64 : Int) * (q : Int) = (q0 : Int) := by omega
   have x3 : IntKind.i64.wrap (q0 : Int) = (q0 : Int) := IntWalk.i64_in _ (by omega)
   have x4 : (q0 : Int) + 64 = (q2 : Int) := by omega
   have x5 : IntKind.i64.wrap (q2 : Int) = (q2 : Int) := IntWalk.i64_in _ (by omega)
   have d0 : decide ((q : Int) < (N : Int)) = true := decide_eq_true (by omega)
   have d1 : decide (q < N) = true := decide_eq_true hlt
   have hq2n : q2 ≤ n := by have := HN.out; omega
   obtain ⟨b0, o, rfl, hb0, _⟩ := HR.out.at_ (by have := Hn.out; omega)
   have ks := fun W => sl_both b0 o n c q0 q2 (q0 : Int) (q2 : Int) rfl rfl (by omega) (by have := Hc.out; omega) (by have := Hc.out; omega) W
   rw [show q2 - q0 = 64 by omega] at ks
   obtain ⟨⟨kd, ep, nu, lf, D⟩, z, hsz⟩ : ∃ s z, secA area q = (s, z) := ⟨_, _, rfl⟩
   obtain ⟨m, hm⟩ : ∃ m, m = D.length := ⟨_, rfl⟩
   have h48 : z = 0 → m ≤ 48 := fun hz => by
    have h3 : (secA area q).2 = 0 := by rw [hsz]; exact hz
    have h4 := (getS_bytes h3).1
    have h5 := ((Sd.may_iff _).1 h4).2.2.2.2.2.2.2.2
    have h6 : (getS (secL area q)).1 = ⟨kd, ep, nu, lf, D⟩ := congrArg (·.1) hsz
    rw [h6] at h5
    rw [hm]; exact h5
   have HM := Lib.hid hm
   have HSZ := Lib.hid hsz
   have HGet : Hid (∀ W, Below w.heap.size w W → Calls Tryz.prog 96 #[.slice (some ⟨b0, o + q0, none⟩) 64 (c - q0)] W fun e w' => ∃ B d, e = .returned (.tuple #[.agg #[.int .i64 kd, .int .i64 ep, .int .i64 nu, .int .i64 lf, .slice B m d], .int .i64 z]) ∧ Hid (z = 0 → RB w w.heap.size B D) ∧ Below W.heap.size W w') := fun W hW => by
    have hln : (secL area q).length = 64 := by unfold secL; rw [List.length_take, List.length_drop, ← Hn.out]; omega
    have hsb := sub_rb (c := n + 1) HR.out q0 64 (by rw [← Hn.out]; omega) (by rw [← Hn.out]; omega)
    have h3 := rget_anyv (secL area q) (some ⟨b0, o + q0, none⟩) (c - q0) W (by unfold secL; rw [← hq0]; exact (hsb.below hW).more hW.size) (by rw [hln]; have := Hc.out; omega) (by have := HC.out; omega)
    rw [hln] at h3
    refine h3.mono ?_
    rintro e w' ⟨B, d, he, hrb, had, hb⟩
    have h6 : getS (secL area q) = (⟨kd, ep, nu, lf, D⟩, z) := hsz
    rw [h6] at he hrb had
    unfold secV at he
    simp only [] at he
    rw [← hm] at he
    exact ⟨B, d, he, (fun hz => by
     have hB := had hz
     rw [Option.map_some, add_at] at hB
     rw [hB] at hrb ⊢
     exact rb_back (rb_down hrb.1 hb0) hW), hb⟩
   have HCell : Hid (∀ (w1 : World) B d W, Below (w1.alloc (.cells #[.int .i64 kd, .int .i64 ep, .int .i64 nu, .int .i64 lf, .slice B m d] 49)).heap.size (w1.alloc (.cells #[.int .i64 kd, .int .i64 ep, .int .i64 nu, .int .i64 lf, .slice B m d] 49)) W → W.cell? ⟨w1.heap.size, 0, none⟩ = some (.int .i64 kd) ∧ W.cell? ⟨w1.heap.size, 1, none⟩ = some (.int .i64 ep) ∧ W.cell? ⟨w1.heap.size, 2, none⟩ = some (.int .i64 nu) ∧ W.cell? ⟨w1.heap.size, 3, none⟩ = some (.int .i64 lf) ∧ W.cell? ⟨w1.heap.size, 4, none⟩ = some (.slice B m d)) := fun w1 B d W hb => by
    have h0 : Blk W w1.heap.size 49 #[.int .i64 kd, .int .i64 ep, .int .i64 nu, .int .i64 lf, .slice B m d] := Blk.below (Blk.new w1 _ _) hb (by simp)
    exact ⟨by rw [h0.cell]; rfl, by rw [h0.cell]; rfl, by rw [h0.cell]; rfl, by rw [h0.cell]; rfl, by rw [h0.cell]; rfl⟩
   clear hq hsz hm hq0 hq2
   by_cases p0 : z = 0
   rotate_left
   ·have p00 : (z == 0) = false := by rw [beq_eq_false_iff_ne]; exact p0
    have p01 : (z != 0) = true := by rw [bne_iff_ne]; exact p0
    have p02 : decide (z = 0) = false := decide_eq_false p0
    have HE : Hid (recordW (secA area) N at_ least most = none) := HS.out.2.1.none (s := ⟨kd, ep, nu, lf, D⟩) (by have := Hq.out; omega) (by rw [← Hq.out]; exact HSZ.out) (.inl p0)
    go_wp2_with (first
     | (go_at_call 96; ((with_reducible refine (HGet.out _ HB.out).mono ?_); rintro e w1 ⟨B1, e1, rfl, s1, b1⟩; have bb1 := chain7 HB.out b1; have HC1 := Lib.hid (HCell.out w1 B1 e1); obtain ⟨t0, t1, t2, t3, t4⟩ := HC1.out _ (Below.refl _ _))))
    go_ret2
    exact ⟨none, 0, by rw [HE.out]; rfl, by rw [HE.out]; exact World.ownsRow_nil _ _ _ _, bb1.alloc bb1.size _⟩
   subst p0
   by_cases p1 : nu = (q : Int)
   rotate_left
   ·have p10 : (nu == (q : Int)) = false := by rw [beq_eq_false_iff_ne]; exact p1
    have p11 : (nu != (q : Int)) = true := by rw [bne_iff_ne]; exact p1
    have p12 : decide (nu = (q : Int)) = false := decide_eq_false p1
    have HE : Hid (recordW (secA area) N at_ least most = none) := HS.out.2.1.none (s := ⟨kd, ep, nu, lf, D⟩) (by have := Hq.out; omega) (by rw [← Hq.out]; exact HSZ.out) (.inr (.inl (by rw [← Hq.out]; exact p1)))
    go_wp2_with (first
     | (go_at_call 96; ((with_reducible refine (HGet.out _ HB.out).mono ?_); rintro e w1 ⟨B1, e1, rfl, s1, b1⟩; have bb1 := chain7 HB.out b1; have HC1 := Lib.hid (HCell.out w1 B1 e1); obtain ⟨t0, t1, t2, t3, t4⟩ := HC1.out _ (Below.refl _ _))))
    go_ret2
    exact ⟨none, 0, by rw [HE.out]; rfl, by rw [HE.out]; exact World.ownsRow_nil _ _ _ _, bb1.alloc bb1.size _⟩
   subst p1
   have r0 : ((q : Int) == (q : Int)) = true := beq_self_eq_true _
   have r1 : ((q : Int) != (q : Int)) = false := by rw [bne_eq_false_iff_eq]
   by_cases p2 : k = 0
   rotate_left
   ·have p3 : ((k : Int) == 0) = false := by rw [beq_eq_false_iff_ne]; omega
    have p4 : decide ((k : Int) = 0) = false := decide_eq_false (by omega)
    have p5 : decide (k = 0) = false := decide_eq_false p2
    have HK : Hid (¬ ((0 : Int) ≠ 0 ∨ (q : Int) ≠ ((at_ + k : Nat) : Int) ∨ (k = 0 ∧ ¬ (kd = 2 ∧ least ≤ ep ∧ ep ≤ most)))) := by rintro (h | h | h); exact h rfl; exact h (by rw [← Hq.out]); exact p2 h.1
    by_cases c9 : lf = 0
    rotate_left
    ·have g0 : (lf == 0) = false := by rw [beq_eq_false_iff_ne]; exact c9
     have g1 : decide (lf = 0) = false := decide_eq_false c9
     have HSn : Hid (ScanTo (secA area) at_ N least most (k + 1) (rows.map (·.1) ++ [⟨kd, ep, (q : Int), lf, D⟩])) := HS.out.2.1.next (by have := Hq.out; omega) (by rw [← Hq.out]; exact HSZ.out) HK.out (by rw [← HM.out]; exact h48 rfl) c9
     go_wp2_with (first
      | (go_at_call 96; ((with_reducible refine (HGet.out _ HB.out).mono ?_); rintro e w1 ⟨B1, e1, rfl, s1, b1⟩; have bb1 := chain7 HB.out b1; have HC1 := Lib.hid (HCell.out w1 B1 e1); obtain ⟨t0, t1, t2, t3, t4⟩ := HC1.out _ (Below.refl _ _); have bW := bb1.alloc bb1.size (.cells #[.int .i64 kd, .int .i64 ep, .int .i64 (q : Int), .int .i64 lf, .slice B1 m e1] 49); have ow1 : w1.ownsRow w.heap.size 49 5 (.slice A' k c') k (rowC rows) := own_turns HW.out (Turns.of_below b1 (fun _ => False)) (fun _ _ h => h); have ow := ow1.alloc (.cells #[.int .i64 kd, .int .i64 ep, .int .i64 (q : Int), .int .i64 lf, .slice B1 m e1] 49); have HL1 := Lib.hid ow1; have HS1 := Lib.hid (s1.out rfl); have hn6 := five_new2 w1 (.cells #[.int .i64 kd, .int .i64 ep, .int .i64 (q : Int), .int .i64 lf, .slice B1 m e1] 49) (.int .i64 kd) (.int .i64 ep) (.int .i64 (q : Int)) (.int .i64 lf) (.slice B1 m e1) 49; have HBW := Lib.hid bW; clear bW))
      | (at_builtin; (refine wpList_append_any _ rfl (.tmp 70) (.tmp 72) _ rfl w.heap.size 49 i0 _ 5 56 Tryz.underlying43 hi0 hz0 hz1 hz2 rfl (by omega) (.slice A' k c') k (rowC rows) rfl (ow.alloc _) (w1.heap.size + 1 + 1) (some ⟨w1.heap.size + 1, 0, none⟩) 1 1 [.int .i64 kd, .int .i64 ep, .int .i64 (q : Int), .int .i64 lf, .slice B1 m e1] rfl hn6 (rowC_five _ _ _ _ _ _ _) (by simp only [maxLen]; omega) (by omega) (by have := bb1.size; simp; omega) ?_; intro v9 w9 ho9 hg9 hat9; obtain ⟨A9, c9, rfl⟩ := own_slice7 ho9; have HO9 := Lib.hid ho9; have hb9 : Hid (Below w.heap.size w w9) := (HBW.out.alloc HBW.out.size _).grown hg9 (by have := HBW.out.size; simp at this ⊢; omega) (fun j hj => (ow.lt j hj).1); clear t0 t1 t2 t3 t4; obtain ⟨t0, t1, t2, t3, t4⟩ := five_kept hg9 (fun j hj => (HL1.out.lt j hj).2))))
     have hrow : rowC rows ++ [.int .i64 kd, .int .i64 ep, .int .i64 (q : Int), .int .i64 lf, .slice B1 m e1] = rowC (rows ++ [(⟨kd, ep, (q : Int), lf, D⟩, B1, e1)]) := by rw [rowC_snoc]; unfold secC; simp only [← HM.out]
     have ho := HO9.out
     rw [hrow] at ho
     have hq1 := Hq.out
     refine ⟨⟨k + 1, A9, c9, rows ++ [(⟨kd, ep, (q : Int), lf, D⟩, B1, e1)], by omega, by omega, rfl, by go_num, ⟨by omega, by rw [List.map_append]; exact HSn.out, fun x hx => ?_⟩, Lib.hid ho, hb9⟩, ?_⟩
     ·rcases List.mem_append.1 hx with h1 | h1
      ·exact HS.out.2.2 x h1
      ·rw [List.mem_singleton.1 h1]; exact HS1.out
     ·simp [intOf]; omega
    ·subst c9
     have HSl : Hid (recordW (secA area) N at_ least most = if (joinS (rows.map (fun (x : Sd × Option Addr × Nat) => x.1) ++ [(⟨kd, ep, (q : Int), 0, D⟩ : Sd)])).2 = true then some ((joinS (rows.map (fun (x : Sd × Option Addr × Nat) => x.1) ++ [(⟨kd, ep, (q : Int), 0, D⟩ : Sd)])).1, (rows.map (fun (x : Sd × Option Addr × Nat) => x.1) ++ [(⟨kd, ep, (q : Int), 0, D⟩ : Sd)]).length) else none) := HS.out.2.1.last (s := ⟨kd, ep, (q : Int), 0, D⟩) (z := 0) (by have := Hq.out; omega) (by rw [← Hq.out]; exact HSZ.out) HK.out rfl
     have HLe : Hid ((rows.map (fun (x : Sd × Option Addr × Nat) => x.1) ++ [(⟨kd, ep, (q : Int), 0, D⟩ : Sd)]).length = k + 1 ∧ ∀ x ∈ (rows.map (fun (x : Sd × Option Addr × Nat) => x.1) ++ [(⟨kd, ep, (q : Int), 0, D⟩ : Sd)]), x.data.length ≤ 48) := ⟨by rw [List.length_append, HS.out.2.1.1]; rfl, fun x hx => (List.mem_append.1 hx).elim (HS.out.2.1.2.1 x) fun h => by rw [List.mem_singleton.1 h, ← HM.out]; exact h48 rfl⟩
     have HRow : Hid (∀ (B1 : Option Addr) (e1 : Nat), rowC rows ++ [.int .i64 kd, .int .i64 ep, .int .i64 (q : Int), .int .i64 0, .slice B1 m e1] = rowC (rows ++ [(⟨kd, ep, (q : Int), 0, D⟩, B1, e1)])) := fun B1 e1 => by rw [rowC_snoc]; unfold secC; simp only [← HM.out]
     generalize hX : (rows.map (fun (x : Sd × Option Addr × Nat) => x.1) ++ [(⟨kd, ep, (q : Int), 0, D⟩ : Sd)]) = X at HSl HLe
     obtain ⟨T, jb, hT⟩ : ∃ T jb, joinS X = (T, jb) := ⟨_, _, rfl⟩
     rw [hT] at HSl
     obtain ⟨tl, htl⟩ : ∃ tl, tl = T.length := ⟨_, rfl⟩
     have HT := Lib.hid htl
     have hk1 : k + 1 ≤ 1000 := by have := Hq.out; omega
     have HJ : Hid (∀ W A c, SL W W.heap.size A X → Calls Tryz.prog 97 #[.slice A (k + 1) c] W fun e w' => ∃ B d, e = .returned (.tuple #[.slice B tl d, .bool jb]) ∧ Hid (Own w' W.heap.size B T d) ∧ Below W.heap.size W w') := fun W A c hs => by
      have h3 := rjoin_own X (k + 1) A c W HLe.out.1.symm hk1 HLe.out.2 hs
      rw [hT] at h3
      rw [htl]
      exact h3
     have HX := Lib.hid hX
     clear hX hT htl
     cases jb with
     | true =>
      have HE : Hid (recordW (secA area) N at_ least most = some (T, k + 1)) := by show _ = _; rw [HSl.out]; simp [HLe.out.1]
      go_wp2_with (first
       | (go_at_call 96; ((with_reducible refine (HGet.out _ HB.out).mono ?_); rintro e w1 ⟨B1, e1, rfl, s1, b1⟩; have bb1 := chain7 HB.out b1; have HC1 := Lib.hid (HCell.out w1 B1 e1); obtain ⟨t0, t1, t2, t3, t4⟩ := HC1.out _ (Below.refl _ _); have bW := bb1.alloc bb1.size (.cells #[.int .i64 kd, .int .i64 ep, .int .i64 (q : Int), .int .i64 0, .slice B1 m e1] 49); have ow1 : w1.ownsRow w.heap.size 49 5 (.slice A' k c') k (rowC rows) := own_turns HW.out (Turns.of_below b1 (fun _ => False)) (fun _ _ h => h); have ow := ow1.alloc (.cells #[.int .i64 kd, .int .i64 ep, .int .i64 (q : Int), .int .i64 0, .slice B1 m e1] 49); have HL1 := Lib.hid ow1; have HS1 := Lib.hid (s1.out rfl); have hn6 := five_new2 w1 (.cells #[.int .i64 kd, .int .i64 ep, .int .i64 (q : Int), .int .i64 0, .slice B1 m e1] 49) (.int .i64 kd) (.int .i64 ep) (.int .i64 (q : Int)) (.int .i64 0) (.slice B1 m e1) 49; have HBW := Lib.hid bW; clear bW))
       | (at_builtin; (refine wpList_append_any _ rfl (.tmp 70) (.tmp 72) _ rfl w.heap.size 49 i0 _ 5 56 Tryz.underlying43 hi0 hz0 hz1 hz2 rfl (by omega) (.slice A' k c') k (rowC rows) rfl (ow.alloc _) (w1.heap.size + 1 + 1) (some ⟨w1.heap.size + 1, 0, none⟩) 1 1 [.int .i64 kd, .int .i64 ep, .int .i64 (q : Int), .int .i64 0, .slice B1 m e1] rfl hn6 (rowC_five _ _ _ _ _ _ _) (by simp only [maxLen]; omega) (by omega) (by have := bb1.size; simp; omega) ?_; intro v9 w9 ho9 hg9 hat9; obtain ⟨A9, c9, rfl⟩ := own_slice7 ho9; have HO9 := Lib.hid ho9; have hb9 : Hid (Below w.heap.size w w9) := (HBW.out.alloc HBW.out.size _).grown hg9 (by have := HBW.out.size; simp at this ⊢; omega) (fun j hj => (ow.lt j hj).1); clear t0 t1 t2 t3 t4; obtain ⟨t0, t1, t2, t3, t4⟩ := five_kept hg9 (fun j hj => (HL1.out.lt j hj).2)))
       | (go_at_call 97; (have hs9 : SL w9 w9.heap.size A9 X := (by have ho := HO9.out; rw [HRow.out] at ho; have h3 := SL.of_own ho (by rw [List.length_append, ← HS.out.2.1.1, List.length_map]; rfl) (fun x hx => (List.mem_append.1 hx).elim (fun h => ((HS.out.2.2 x h).below hb9.out).more hb9.out.size) fun h => by rw [List.mem_singleton.1 h]; exact (HS1.out.below hb9.out).more hb9.out.size); rw [List.map_append] at h3; rw [← HX.out]; exact h3); (with_reducible refine (HJ.out _ _ _ hs9).mono ?_); rintro e w6 ⟨B6, e6, rfl, o6, b6⟩)))
      go_ret2
      exact ⟨B6, e6, by rw [HE.out, HT.out]; rfl, by rw [HE.out]; exact own_less o6.out hb9.out.size, chain7 hb9.out b6⟩
     | false =>
      have HE : Hid (recordW (secA area) N at_ least most = none) := by show _ = _; rw [HSl.out]; simp
      go_wp2_with (first
       | (go_at_call 96; ((with_reducible refine (HGet.out _ HB.out).mono ?_); rintro e w1 ⟨B1, e1, rfl, s1, b1⟩; have bb1 := chain7 HB.out b1; have HC1 := Lib.hid (HCell.out w1 B1 e1); obtain ⟨t0, t1, t2, t3, t4⟩ := HC1.out _ (Below.refl _ _); have bW := bb1.alloc bb1.size (.cells #[.int .i64 kd, .int .i64 ep, .int .i64 (q : Int), .int .i64 0, .slice B1 m e1] 49); have ow1 : w1.ownsRow w.heap.size 49 5 (.slice A' k c') k (rowC rows) := own_turns HW.out (Turns.of_below b1 (fun _ => False)) (fun _ _ h => h); have ow := ow1.alloc (.cells #[.int .i64 kd, .int .i64 ep, .int .i64 (q : Int), .int .i64 0, .slice B1 m e1] 49); have HL1 := Lib.hid ow1; have HS1 := Lib.hid (s1.out rfl); have hn6 := five_new2 w1 (.cells #[.int .i64 kd, .int .i64 ep, .int .i64 (q : Int), .int .i64 0, .slice B1 m e1] 49) (.int .i64 kd) (.int .i64 ep) (.int .i64 (q : Int)) (.int .i64 0) (.slice B1 m e1) 49; have HBW := Lib.hid bW; clear bW))
       | (at_builtin; (refine wpList_append_any _ rfl (.tmp 70) (.tmp 72) _ rfl w.heap.size 49 i0 _ 5 56 Tryz.underlying43 hi0 hz0 hz1 hz2 rfl (by omega) (.slice A' k c') k (rowC rows) rfl (ow.alloc _) (w1.heap.size + 1 + 1) (some ⟨w1.heap.size + 1, 0, none⟩) 1 1 [.int .i64 kd, .int .i64 ep, .int .i64 (q : Int), .int .i64 0, .slice B1 m e1] rfl hn6 (rowC_five _ _ _ _ _ _ _) (by simp only [maxLen]; omega) (by omega) (by have := bb1.size; simp; omega) ?_; intro v9 w9 ho9 hg9 hat9; obtain ⟨A9, c9, rfl⟩ := own_slice7 ho9; have HO9 := Lib.hid ho9; have hb9 : Hid (Below w.heap.size w w9) := (HBW.out.alloc HBW.out.size _).grown hg9 (by have := HBW.out.size; simp at this ⊢; omega) (fun j hj => (ow.lt j hj).1); clear t0 t1 t2 t3 t4; obtain ⟨t0, t1, t2, t3, t4⟩ := five_kept hg9 (fun j hj => (HL1.out.lt j hj).2)))
       | (go_at_call 97; (have hs9 : SL w9 w9.heap.size A9 X := (by have ho := HO9.out; rw [HRow.out] at ho; have h3 := SL.of_own ho (by rw [List.length_append, ← HS.out.2.1.1, List.length_map]; rfl) (fun x hx => (List.mem_append.1 hx).elim (fun h => ((HS.out.2.2 x h).below hb9.out).more hb9.out.size) fun h => by rw [List.mem_singleton.1 h]; exact (HS1.out.below hb9.out).more hb9.out.size); rw [List.map_append] at h3; rw [← HX.out]; exact h3); (with_reducible refine (HJ.out _ _ _ hs9).mono ?_); rintro e w6 ⟨B6, e6, rfl, o6, b6⟩)))
      go_ret2
      exact ⟨none, 0, by rw [HE.out]; rfl, by rw [HE.out]; exact World.ownsRow_nil _ _ _ _, chain7 hb9.out b6⟩
   have p3 : ((k : Int) == 0) = true := by rw [beq_iff_eq]; omega
   have p4 : decide ((k : Int) = 0) = true := decide_eq_true (by omega)
   have p5 : decide (k = 0) = true := decide_eq_true p2
   have P2 := Lib.hid p2
   clear p2
   by_cases p6 : kd = 2
   rotate_left
   ·have p60 : (kd == 2) = false := by rw [beq_eq_false_iff_ne]; exact p6
    have p61 : (kd != 2) = true := by rw [bne_iff_ne]; exact p6
    have p62 : decide (kd = 2) = false := decide_eq_false p6
    have HE : Hid (recordW (secA area) N at_ least most = none) := HS.out.2.1.none (s := ⟨kd, ep, (q : Int), lf, D⟩) (by have := Hq.out; omega) (by rw [← Hq.out]; exact HSZ.out) (.inr (.inr ⟨P2.out, fun h => p6 h.1⟩))
    go_wp2_with (first
     | (go_at_call 96; ((with_reducible refine (HGet.out _ HB.out).mono ?_); rintro e w1 ⟨B1, e1, rfl, s1, b1⟩; have bb1 := chain7 HB.out b1; have HC1 := Lib.hid (HCell.out w1 B1 e1); obtain ⟨t0, t1, t2, t3, t4⟩ := HC1.out _ (Below.refl _ _))))
    go_ret2
    exact ⟨none, 0, by rw [HE.out]; rfl, by rw [HE.out]; exact World.ownsRow_nil _ _ _ _, bb1.alloc bb1.size _⟩
   subst p6
   by_cases p7 : ep < least
   ·have f0 : decide (ep < least) = true := decide_eq_true p7
    have HE : Hid (recordW (secA area) N at_ least most = none) := HS.out.2.1.none (s := ⟨2, ep, (q : Int), lf, D⟩) (by have := Hq.out; omega) (by rw [← Hq.out]; exact HSZ.out) (.inr (.inr ⟨P2.out, fun h => by have h2 : least ≤ ep := h.2.1; omega⟩))
    go_wp2_with (first
     | (go_at_call 96; ((with_reducible refine (HGet.out _ HB.out).mono ?_); rintro e w1 ⟨B1, e1, rfl, s1, b1⟩; have bb1 := chain7 HB.out b1; have HC1 := Lib.hid (HCell.out w1 B1 e1); obtain ⟨t0, t1, t2, t3, t4⟩ := HC1.out _ (Below.refl _ _))))
    go_ret2
    exact ⟨none, 0, by rw [HE.out]; rfl, by rw [HE.out]; exact World.ownsRow_nil _ _ _ _, bb1.alloc bb1.size _⟩
   have f0 : decide (ep < least) = false := decide_eq_false p7
   by_cases p8 : most < ep
   ·have f1 : decide (most < ep) = true := decide_eq_true p8
    have f2 : decide (ep > most) = true := decide_eq_true p8
    have HE : Hid (recordW (secA area) N at_ least most = none) := HS.out.2.1.none (s := ⟨2, ep, (q : Int), lf, D⟩) (by have := Hq.out; omega) (by rw [← Hq.out]; exact HSZ.out) (.inr (.inr ⟨P2.out, fun h => by have h2 : ep ≤ most := h.2.2; omega⟩))
    go_wp2_with (first
     | (go_at_call 96; ((with_reducible refine (HGet.out _ HB.out).mono ?_); rintro e w1 ⟨B1, e1, rfl, s1, b1⟩; have bb1 := chain7 HB.out b1; have HC1 := Lib.hid (HCell.out w1 B1 e1); obtain ⟨t0, t1, t2, t3, t4⟩ := HC1.out _ (Below.refl _ _))))
    go_ret2
    exact ⟨none, 0, by rw [HE.out]; rfl, by rw [HE.out]; exact World.ownsRow_nil _ _ _ _, bb1.alloc bb1.size _⟩
   have f1 : decide (most < ep) = false := decide_eq_false p8
   have f2 : decide (ep > most) = false := decide_eq_false p8
   have HK : Hid (¬ ((0 : Int) ≠ 0 ∨ (q : Int) ≠ ((at_ + k : Nat) : Int) ∨ (k = 0 ∧ ¬ ((2 : Int) = 2 ∧ least ≤ ep ∧ ep ≤ most)))) := by rintro (h | h | h); exact h rfl; exact h (by rw [← Hq.out]); exact h.2 ⟨rfl, by omega, by omega⟩
   by_cases c9 : lf = 0
   rotate_left
   ·have g0 : (lf == 0) = false := by rw [beq_eq_false_iff_ne]; exact c9
    have g1 : decide (lf = 0) = false := decide_eq_false c9
    have HSn : Hid (ScanTo (secA area) at_ N least most (k + 1) (rows.map (·.1) ++ [⟨2, ep, (q : Int), lf, D⟩])) := HS.out.2.1.next (by have := Hq.out; omega) (by rw [← Hq.out]; exact HSZ.out) HK.out (by rw [← HM.out]; exact h48 rfl) c9
    go_wp2_with (first
     | (go_at_call 96; ((with_reducible refine (HGet.out _ HB.out).mono ?_); rintro e w1 ⟨B1, e1, rfl, s1, b1⟩; have bb1 := chain7 HB.out b1; have HC1 := Lib.hid (HCell.out w1 B1 e1); obtain ⟨t0, t1, t2, t3, t4⟩ := HC1.out _ (Below.refl _ _); have bW := bb1.alloc bb1.size (.cells #[.int .i64 2, .int .i64 ep, .int .i64 (q : Int), .int .i64 lf, .slice B1 m e1] 49); have ow1 : w1.ownsRow w.heap.size 49 5 (.slice A' k c') k (rowC rows) := own_turns HW.out (Turns.of_below b1 (fun _ => False)) (fun _ _ h => h); have ow := ow1.alloc (.cells #[.int .i64 2, .int .i64 ep, .int .i64 (q : Int), .int .i64 lf, .slice B1 m e1] 49); have HL1 := Lib.hid ow1; have HS1 := Lib.hid (s1.out rfl); have hn6 := five_new2 w1 (.cells #[.int .i64 2, .int .i64 ep, .int .i64 (q : Int), .int .i64 lf, .slice B1 m e1] 49) (.int .i64 2) (.int .i64 ep) (.int .i64 (q : Int)) (.int .i64 lf) (.slice B1 m e1) 49; have HBW := Lib.hid bW; clear bW))
     | (at_builtin; (refine wpList_append_any _ rfl (.tmp 70) (.tmp 72) _ rfl w.heap.size 49 i0 _ 5 56 Tryz.underlying43 hi0 hz0 hz1 hz2 rfl (by omega) (.slice A' k c') k (rowC rows) rfl (ow.alloc _) (w1.heap.size + 1 + 1) (some ⟨w1.heap.size + 1, 0, none⟩) 1 1 [.int .i64 2, .int .i64 ep, .int .i64 (q : Int), .int .i64 lf, .slice B1 m e1] rfl hn6 (rowC_five _ _ _ _ _ _ _) (by simp only [maxLen]; omega) (by omega) (by have := bb1.size; simp; omega) ?_; intro v9 w9 ho9 hg9 hat9; obtain ⟨A9, c9, rfl⟩ := own_slice7 ho9; have HO9 := Lib.hid ho9; have hb9 : Hid (Below w.heap.size w w9) := (HBW.out.alloc HBW.out.size _).grown hg9 (by have := HBW.out.size; simp at this ⊢; omega) (fun j hj => (ow.lt j hj).1); clear t0 t1 t2 t3 t4; obtain ⟨t0, t1, t2, t3, t4⟩ := five_kept hg9 (fun j hj => (HL1.out.lt j hj).2))))
    have hrow : rowC rows ++ [.int .i64 2, .int .i64 ep, .int .i64 (q : Int), .int .i64 lf, .slice B1 m e1] = rowC (rows ++ [(⟨2, ep, (q : Int), lf, D⟩, B1, e1)]) := by rw [rowC_snoc]; unfold secC; simp only [← HM.out]
    have ho := HO9.out
    rw [hrow] at ho
    have hq1 := Hq.out
    refine ⟨⟨k + 1, A9, c9, rows ++ [(⟨2, ep, (q : Int), lf, D⟩, B1, e1)], by omega, by omega, rfl, by go_num, ⟨by omega, by rw [List.map_append]; exact HSn.out, fun x hx => ?_⟩, Lib.hid ho, hb9⟩, ?_⟩
    ·rcases List.mem_append.1 hx with h1 | h1
     ·exact HS.out.2.2 x h1
     ·rw [List.mem_singleton.1 h1]; exact HS1.out
    ·simp [intOf]; omega
   ·subst c9
    have HSl : Hid (recordW (secA area) N at_ least most = if (joinS (rows.map (fun (x : Sd × Option Addr × Nat) => x.1) ++ [(⟨2, ep, (q : Int), 0, D⟩ : Sd)])).2 = true then some ((joinS (rows.map (fun (x : Sd × Option Addr × Nat) => x.1) ++ [(⟨2, ep, (q : Int), 0, D⟩ : Sd)])).1, (rows.map (fun (x : Sd × Option Addr × Nat) => x.1) ++ [(⟨2, ep, (q : Int), 0, D⟩ : Sd)]).length) else none) := HS.out.2.1.last (s := ⟨2, ep, (q : Int), 0, D⟩) (z := 0) (by have := Hq.out; omega) (by rw [← Hq.out]; exact HSZ.out) HK.out rfl
    have HLe : Hid ((rows.map (fun (x : Sd × Option Addr × Nat) => x.1) ++ [(⟨2, ep, (q : Int), 0, D⟩ : Sd)]).length = k + 1 ∧ ∀ x ∈ (rows.map (fun (x : Sd × Option Addr × Nat) => x.1) ++ [(⟨2, ep, (q : Int), 0, D⟩ : Sd)]), x.data.length ≤ 48) := ⟨by rw [List.length_append, HS.out.2.1.1]; rfl, fun x hx => (List.mem_append.1 hx).elim (HS.out.2.1.2.1 x) fun h => by rw [List.mem_singleton.1 h, ← HM.out]; exact h48 rfl⟩
    have HRow : Hid (∀ (B1 : Option Addr) (e1 : Nat), rowC rows ++ [.int .i64 2, .int .i64 ep, .int .i64 (q : Int), .int .i64 0, .slice B1 m e1] = rowC (rows ++ [(⟨2, ep, (q : Int), 0, D⟩, B1, e1)])) := fun B1 e1 => by rw [rowC_snoc]; unfold secC; simp only [← HM.out]
    generalize hX : (rows.map (fun (x : Sd × Option Addr × Nat) => x.1) ++ [(⟨2, ep, (q : Int), 0, D⟩ : Sd)]) = X at HSl HLe
    obtain ⟨T, jb, hT⟩ : ∃ T jb, joinS X = (T, jb) := ⟨_, _, rfl⟩
    rw [hT] at HSl
    obtain ⟨tl, htl⟩ : ∃ tl, tl = T.length := ⟨_, rfl⟩
    have HT := Lib.hid htl
    have hk1 : k + 1 ≤ 1000 := by have := Hq.out; omega
    have HJ : Hid (∀ W A c, SL W W.heap.size A X → Calls Tryz.prog 97 #[.slice A (k + 1) c] W fun e w' => ∃ B d, e = .returned (.tuple #[.slice B tl d, .bool jb]) ∧ Hid (Own w' W.heap.size B T d) ∧ Below W.heap.size W w') := fun W A c hs => by
     have h3 := rjoin_own X (k + 1) A c W HLe.out.1.symm hk1 HLe.out.2 hs
     rw [hT] at h3
     rw [htl]
     exact h3
    have HX := Lib.hid hX
    clear hX hT htl
    cases jb with
    | true =>
     have HE : Hid (recordW (secA area) N at_ least most = some (T, k + 1)) := by show _ = _; rw [HSl.out]; simp [HLe.out.1]
     go_wp2_with (first
      | (go_at_call 96; ((with_reducible refine (HGet.out _ HB.out).mono ?_); rintro e w1 ⟨B1, e1, rfl, s1, b1⟩; have bb1 := chain7 HB.out b1; have HC1 := Lib.hid (HCell.out w1 B1 e1); obtain ⟨t0, t1, t2, t3, t4⟩ := HC1.out _ (Below.refl _ _); have bW := bb1.alloc bb1.size (.cells #[.int .i64 2, .int .i64 ep, .int .i64 (q : Int), .int .i64 0, .slice B1 m e1] 49); have ow1 : w1.ownsRow w.heap.size 49 5 (.slice A' k c') k (rowC rows) := own_turns HW.out (Turns.of_below b1 (fun _ => False)) (fun _ _ h => h); have ow := ow1.alloc (.cells #[.int .i64 2, .int .i64 ep, .int .i64 (q : Int), .int .i64 0, .slice B1 m e1] 49); have HL1 := Lib.hid ow1; have HS1 := Lib.hid (s1.out rfl); have hn6 := five_new2 w1 (.cells #[.int .i64 2, .int .i64 ep, .int .i64 (q : Int), .int .i64 0, .slice B1 m e1] 49) (.int .i64 2) (.int .i64 ep) (.int .i64 (q : Int)) (.int .i64 0) (.slice B1 m e1) 49; have HBW := Lib.hid bW; clear bW))
      | (at_builtin; (refine wpList_append_any _ rfl (.tmp 70) (.tmp 72) _ rfl w.heap.size 49 i0 _ 5 56 Tryz.underlying43 hi0 hz0 hz1 hz2 rfl (by omega) (.slice A' k c') k (rowC rows) rfl (ow.alloc _) (w1.heap.size + 1 + 1) (some ⟨w1.heap.size + 1, 0, none⟩) 1 1 [.int .i64 2, .int .i64 ep, .int .i64 (q : Int), .int .i64 0, .slice B1 m e1] rfl hn6 (rowC_five _ _ _ _ _ _ _) (by simp only [maxLen]; omega) (by omega) (by have := bb1.size; simp; omega) ?_; intro v9 w9 ho9 hg9 hat9; obtain ⟨A9, c9, rfl⟩ := own_slice7 ho9; have HO9 := Lib.hid ho9; have hb9 : Hid (Below w.heap.size w w9) := (HBW.out.alloc HBW.out.size _).grown hg9 (by have := HBW.out.size; simp at this ⊢; omega) (fun j hj => (ow.lt j hj).1); clear t0 t1 t2 t3 t4; obtain ⟨t0, t1, t2, t3, t4⟩ := five_kept hg9 (fun j hj => (HL1.out.lt j hj).2)))
      | (go_at_call 97; (have hs9 : SL w9 w9.heap.size A9 X := (by have ho := HO9.out; rw [HRow.out] at ho; have h3 := SL.of_own ho (by rw [List.length_append, ← HS.out.2.1.1, List.length_map]; rfl) (fun x hx => (List.mem_append.1 hx).elim (fun h => ((HS.out.2.2 x h).below hb9.out).more hb9.out.size) fun h => by rw [List.mem_singleton.1 h]; exact (HS1.out.below hb9.out).more hb9.out.size); rw [List.map_append] at h3; rw [← HX.out]; exact h3); (with_reducible refine (HJ.out _ _ _ hs9).mono ?_); rintro e w6 ⟨B6, e6, rfl, o6, b6⟩)))
     go_ret2
     exact ⟨B6, e6, by rw [HE.out, HT.out]; rfl, by rw [HE.out]; exact own_less o6.out hb9.out.size, chain7 hb9.out b6⟩
    | false =>
     have HE : Hid (recordW (secA area) N at_ least most = none) := by show _ = _; rw [HSl.out]; simp
     go_wp2_with (first
      | (go_at_call 96; ((with_reducible refine (HGet.out _ HB.out).mono ?_); rintro e w1 ⟨B1, e1, rfl, s1, b1⟩; have bb1 := chain7 HB.out b1; have HC1 := Lib.hid (HCell.out w1 B1 e1); obtain ⟨t0, t1, t2, t3, t4⟩ := HC1.out _ (Below.refl _ _); have bW := bb1.alloc bb1.size (.cells #[.int .i64 2, .int .i64 ep, .int .i64 (q : Int), .int .i64 0, .slice B1 m e1] 49); have ow1 : w1.ownsRow w.heap.size 49 5 (.slice A' k c') k (rowC rows) := own_turns HW.out (Turns.of_below b1 (fun _ => False)) (fun _ _ h => h); have ow := ow1.alloc (.cells #[.int .i64 2, .int .i64 ep, .int .i64 (q : Int), .int .i64 0, .slice B1 m e1] 49); have HL1 := Lib.hid ow1; have HS1 := Lib.hid (s1.out rfl); have hn6 := five_new2 w1 (.cells #[.int .i64 2, .int .i64 ep, .int .i64 (q : Int), .int .i64 0, .slice B1 m e1] 49) (.int .i64 2) (.int .i64 ep) (.int .i64 (q : Int)) (.int .i64 0) (.slice B1 m e1) 49; have HBW := Lib.hid bW; clear bW))
      | (at_builtin; (refine wpList_append_any _ rfl (.tmp 70) (.tmp 72) _ rfl w.heap.size 49 i0 _ 5 56 Tryz.underlying43 hi0 hz0 hz1 hz2 rfl (by omega) (.slice A' k c') k (rowC rows) rfl (ow.alloc _) (w1.heap.size + 1 + 1) (some ⟨w1.heap.size + 1, 0, none⟩) 1 1 [.int .i64 2, .int .i64 ep, .int .i64 (q : Int), .int .i64 0, .slice B1 m e1] rfl hn6 (rowC_five _ _ _ _ _ _ _) (by simp only [maxLen]; omega) (by omega) (by have := bb1.size; simp; omega) ?_; intro v9 w9 ho9 hg9 hat9; obtain ⟨A9, c9, rfl⟩ := own_slice7 ho9; have HO9 := Lib.hid ho9; have hb9 : Hid (Below w.heap.size w w9) := (HBW.out.alloc HBW.out.size _).grown hg9 (by have := HBW.out.size; simp at this ⊢; omega) (fun j hj => (ow.lt j hj).1); clear t0 t1 t2 t3 t4; obtain ⟨t0, t1, t2, t3, t4⟩ := five_kept hg9 (fun j hj => (HL1.out.lt j hj).2)))
      | (go_at_call 97; (have hs9 : SL w9 w9.heap.size A9 X := (by have ho := HO9.out; rw [HRow.out] at ho; have h3 := SL.of_own ho (by rw [List.length_append, ← HS.out.2.1.1, List.length_map]; rfl) (fun x hx => (List.mem_append.1 hx).elim (fun h => ((HS.out.2.2 x h).below hb9.out).more hb9.out.size) fun h => by rw [List.mem_singleton.1 h]; exact (HS1.out.below hb9.out).more hb9.out.size); rw [List.map_append] at h3; rw [← HX.out]; exact h3); (with_reducible refine (HJ.out _ _ _ hs9).mono ?_); rintro e w6 ⟨B6, e6, rfl, o6, b6⟩)))
     go_ret2
     exact ⟨none, 0, by rw [HE.out]; rfl, by rw [HE.out]; exact World.ownsRow_nil _ _ _ _, chain7 hb9.out b6⟩
  ·have d0 : decide ((q : Int) < (N : Int)) = false := decide_eq_false (by omega)
   have d1 : decide (q < N) = false := decide_eq_false hlt
   have HSl : Hid (recordW (secA area) N at_ least most = if (joinS (rows.map (fun (x : Sd × Option Addr × Nat) => x.1))).2 = true then some ((joinS (rows.map (fun (x : Sd × Option Addr × Nat) => x.1))).1, (rows.map (fun (x : Sd × Option Addr × Nat) => x.1)).length) else none) := HS.out.2.1.end (by have := Hq.out; omega)
   have HLe : Hid ((rows.map (fun (x : Sd × Option Addr × Nat) => x.1)).length = k ∧ ∀ x ∈ (rows.map (fun (x : Sd × Option Addr × Nat) => x.1)), x.data.length ≤ 48) := ⟨HS.out.2.1.1, HS.out.2.1.2.1⟩
   generalize hX : rows.map (fun (x : Sd × Option Addr × Nat) => x.1) = X at HSl HLe
   obtain ⟨T, jb, hT⟩ : ∃ T jb, joinS X = (T, jb) := ⟨_, _, rfl⟩
   rw [hT] at HSl
   obtain ⟨tl, htl⟩ : ∃ tl, tl = T.length := ⟨_, rfl⟩
   have HT := Lib.hid htl
   have hk1 : k ≤ 1000 := by omega
   have HJ : Hid (Calls Tryz.prog 97 #[.slice A' k c'] wr fun e w' => ∃ B d, e = .returned (.tuple #[.slice B tl d, .bool jb]) ∧ Hid (Own w' wr.heap.size B T d) ∧ Below wr.heap.size wr w') := by
    have hs : SL wr wr.heap.size A' X := by
     have h3 := SL.of_own HW.out (by rw [← HS.out.2.1.1, List.length_map]) (fun x hx => ((HS.out.2.2 x hx).below HB.out).more HB.out.size)
     rw [← hX]; exact h3
    have h3 := rjoin_own X k A' c' wr HLe.out.1.symm hk1 HLe.out.2 hs
    rw [hT] at h3
    rw [htl]
    exact h3
   clear hX hT htl hq
   cases jb with
   | true =>
    have HE : Hid (recordW (secA area) N at_ least most = some (T, k)) := by show _ = _; rw [HSl.out]; simp [HLe.out.1]
    go_wp2_with (first
     | (go_at_call 97; (with_reducible refine HJ.out.mono ?_); rintro e w6 ⟨B6, e6, rfl, o6, b6⟩))
    go_ret2
    exact ⟨B6, e6, by rw [HE.out, HT.out]; rfl, by rw [HE.out]; exact own_less o6.out HB.out.size, chain7 HB.out b6⟩
   | false =>
    have HE : Hid (recordW (secA area) N at_ least most = none) := by show _ = _; rw [HSl.out]; simp
    go_wp2_with (first
     | (go_at_call 97; (with_reducible refine HJ.out.mono ?_); rintro e w6 ⟨B6, e6, rfl, o6, b6⟩))
    go_ret2
    exact ⟨none, 0, by rw [HE.out]; rfl, by rw [HE.out]; exact World.ownsRow_nil _ _ _ _, chain7 HB.out b6⟩
end
section
open Go.RowKit
theorem blank_load (m : Nat) : (Dk.blank m).load = 0 := rfl
theorem Two.gives {D : Dk} {w0 w w1 w2 : World} {g q : Nat} {F G B : Nat → Prop} (hb : Below w0.heap.size w0 w) (hp : GivesDisk D w w1 g F) (hr : GivesRef D w1 w2 q G B) : Two [] w0 w2 g F D q G B D := by
 have h1 := Has.gives hb hp
 have hs := h1.below.size
 refine ⟨h1.more hr.2.1, hr.1, fun k hk => ?_, fun k hk hg => ?_, fun k hk hg => ?_, fun x hx => by cases hx⟩
 ·have := hr.2.2.1 k hk; omega
 ·have := hr.2.2.1 k hg; have := h1.flt k hk; omega
 ·have := hr.2.2.2 k hg; have := h1.flt k hk; omega
end
end Go.Proofs.YtghenhacndaelaaGreat
