/- Lemmas under the proofs of this place: WalPNext. No statement is proved here. -/
import Derived.Test.YtghenhacndaelaaBu29
import Derived.Test.YtghenhacndaelaaBu17
import Derived.Test.YtghenhacndaelaaBu19
import Derived.Test.YtghenhacndaelaaBu23
import Derived.Test.YtghenhacndaelaaBu02
set_option linter.unusedSimpArgs false
set_option linter.unusedVariables false
set_option maxRecDepth 100000
set_option maxHeartbeats 16000000
namespace Go.Proofs.Ytghenhacndaelaa
open Go.RowKit
open Wal
theorem bsl_from (A : Option Addr) (n c s : Nat) (i : Int) (hi : i = (s : Int)) (h1 : s ≤ n) (h2 : n ≤ c) (W : World) :
    (Instr.sliceAt 38 (.slice A n c) (some (.int .i64 i)) none none).run Try.prog W = .ok (.slice (if c = s then A else A.map (·.add (s * 1))) (n - s) (c - s)) W := by
  subst hi
  have hu : Try.prog.underlying 38 = some (.slice (Try.prog.elem 38)) := by kernel_rfl
  have he : Try.prog.elem 38 = 5 := by kernel_rfl
  have hsz : (sizeOf 5).run Try.prog W = .ok 1 W := by kernel_rfl
  have e : (s : Int).toNat = s := by omega
  rw [run_sliceAt_slice _ _ _ _ _ _ hu, run_slice_l _ _ _ _ _ hu .i64 (s : Int) (by omega) (by omega), he, hsz]
  simp only [Result.andThen_ok, e, sliced]
theorem rb_cut13 {w : World} {B : Nat} {A : Option Addr} {L : List UInt8} (h : RB w B A L) {s c : Nat} (hs : s ≤ L.length) (hc : L.length ≤ c) : RB w B (if c = s then A else A.map (·.add (s * 1))) (L.drop s) := by
  have h2 := Reads.cut h (k := s) (cap := c) hs hc
  rw [Nat.mul_one, cells_drop] at h2
  unfold RB
  rw [List.length_drop, Nat.mul_one]
  exact h2
theorem if_block {A : Option Addr} {c s : Nat} {P : Nat → Prop} (h : ∀ ad, A = some ad → P ad.block) : ∀ ad, (if c = s then A else A.map (fun a => a.add (s * 1))) = some ad → P ad.block := fun ad e => by
  split at e
  · exact h ad e
  · cases A with
    | none => cases e
    | some a =>
      simp only [Option.map_some, Option.some.injEq] at e
      rw [← e, block_of_add]
      exact h a rfl
structure AreaAt (w : World) (ga : Nat) (img : List UInt8) (j : Nat) (least most : Int) (bb n : Nat) (A : Option Addr) (c : Nat) : Prop where
  blk : Blk w ga 51 #[.slice A n c, .int .i64 (j : Int), .int .i64 least, .int .i64 most]
  left : RB w bb A (img.drop (64 * j))
  le : bb ≤ w.heap.size
  len : n = img.length - 64 * j
  cap : n ≤ c ∧ c ≤ 9223372036854775807
  ne : ∀ ad, A = some ad → ad.block ≠ ga
def Area13 (w : World) (ga : Nat) (img : List UInt8) (j : Nat) (least most : Int) (bb : Nat) : Prop := ∃ n A c, AreaAt w ga img j least most bb n A c
theorem AreaAt.below {w w' : World} {ga : Nat} {img : List UInt8} {j : Nat} {least most : Int} {bb n : Nat} {A : Option Addr} {c : Nat} (h : AreaAt w ga img j least most bb n A c) (hb : Below w.heap.size w w') : AreaAt w' ga img j least most bb n A c :=
  ⟨Blk.below h.blk hb h.blk.lt, h.left.below (hb.mono h.le), Nat.le_trans h.le hb.size, h.len, h.cap, h.ne⟩
theorem Area13.below {w w' : World} {ga : Nat} {img : List UInt8} {j : Nat} {least most : Int} {bb : Nat} (h : Area13 w ga img j least most bb) (hb : Below w.heap.size w w') : Area13 w' ga img j least most bb := by
  obtain ⟨n, A, c, h⟩ := h; exact ⟨n, A, c, h.below hb⟩
theorem Area13.grown {w w' : World} {ga : Nat} {img : List UInt8} {j : Nat} {least most : Int} {bb : Nat} {row : Option Nat} (h : Area13 w ga img j least most bb) (hg : w.grownBy w' row) (hn : ∀ k, row = some k → bb ≤ k ∧ k ≠ ga) : Area13 w' ga img j least most bb := by
  obtain ⟨n, A, c, h⟩ := h
  refine ⟨n, A, c, h.blk.grown hg (fun e => (hn ga e.symm).2 rfl), Reads.grown h.left hg h.le (fun k e => (hn k e).1), Nat.le_trans h.le hg.size, h.len, h.cap, h.ne⟩
theorem Area13.lt {w : World} {ga : Nat} {img : List UInt8} {j : Nat} {least most : Int} {bb : Nat} (h : Area13 w ga img j least most bb) : ga < w.heap.size ∧ bb ≤ w.heap.size := by
  obtain ⟨n, A, c, h⟩ := h; exact ⟨h.blk.lt, h.le⟩
theorem no8_area {A : Option Addr} {n c : Nat} {a b d : Int} : No8 #[.slice A n c, .int .i64 a, .int .i64 b, .int .i64 d] := by
  intro j z
  match j with
  | 0 => simp
  | 1 => simp
  | 2 => simp
  | 3 => simp
  | j + 4 => simp
theorem Area13.rb {w w' : World} {ga : Nat} {img : List UInt8} {j : Nat} {least most : Int} {bb : Nat} (h : Area13 w ga img j least most bb) (ho : Only w w' ga) {A : Option Addr} {L : List UInt8} (hr : RB w w.heap.size A L) : RB w' w'.heap.size A L := by
  obtain ⟨n, B, c, h⟩ := h
  exact rb_only8 hr h.blk no8_area ho
def NextNo (ga : Nat) (img : List UInt8) (j : Nat) (least most : Int) (bb : Nat) (w : World) (e : Ending) (w' : World) : Prop :=
  e = .returned (.tuple #[.agg #[.int .i64 0, .int .i64 0, .int .i64 0, .int .i64 0, .slice none 0 0], .bool false]) ∧ Below w.heap.size w w'
def NextYes (ga : Nat) (img : List UInt8) (j : Nat) (least most : Int) (bb : Nat) (s : Sd) (w : World) (e : Ending) (w' : World) : Prop :=
  ∃ B d, e = .returned (.tuple #[secV s B d, .bool true]) ∧ RB w' w'.heap.size B s.data ∧ (∀ ad, B = some ad → w.heap.size ≤ ad.block) ∧ Area13 w' ga img (j + 1) least most bb ∧ Only w w' ga
theorem wnext_end {w : World} {ga : Nat} {img : List UInt8} {j N : Nat} {least most : Int} {bb : Nat} (h : Area13 w ga img j least most bb) (hN : img.length = 64 * N) (hj : N ≤ j) :
    Calls Try.prog 26 #[.pointer (some ⟨ga, 0, none⟩)] w (NextNo ga img j least most bb w) := by
  obtain ⟨n, A, c, h⟩ := h
  have r0 : w.cell? ⟨ga, 0, none⟩ = some (.slice A n c) := by rw [h.blk.cell]; rfl
  have hn : n = 0 := by have := h.len; omega
  subst hn
  have nb := fun w' => Try.secBuild0 w'
  have a24 := fun w' => Try.aggSec w'
  have s24 := fun w' => Try.sizeSec w'
  have hlt := h.blk.lt
  clear h hN hj
  go_enter Try.func26, Try.ntmps26
  go_wp2
  refine bodyPost_ret (v := .tuple #[.agg #[.int .i64 0, .int .i64 0, .int .i64 0, .int .i64 0, .slice none 0 0], .bool false]) (by simp [results, Try.results26, go_sem]) rfl ⟨rfl, ?_⟩
  have h0 : Below w.heap.size w (w.alloc (.cells #[.int .i64 0, .int .i64 0, .int .i64 0, .int .i64 0, .slice none 0 0] 79)) := (Below.refl _ _).alloc (Nat.le_refl _) _
  first
    | (with_reducible exact h0)
    | exact below_five h0 (Nat.le_refl _) _ _ _ _ _
theorem wnext_bad {w : World} {ga : Nat} {img : List UInt8} {j N : Nat} {least most : Int} {bb : Nat} (h : Area13 w ga img j least most bb) (hN : img.length = 64 * N) (hN1 : N ≤ 1000) (hj : j < N) (hb : (secA img j).2 ≠ 0) :
    Calls Try.prog 26 #[.pointer (some ⟨ga, 0, none⟩)] w (NextNo ga img j least most bb w) := by
  obtain ⟨n, A, c, h⟩ := h
  have hn := h.len
  have hcp := h.cap
  have hlt := h.blk.lt
  obtain ⟨b0, o, rfl, hb0, _⟩ := h.left.at_ (by rw [List.length_drop]; omega)
  have r0 : w.cell? ⟨ga, 0, none⟩ = some (.slice (some ⟨b0, o, none⟩) n c) := by rw [h.blk.cell]; rfl
  have nb := fun w' => Try.secBuild0 w'
  have a24 := fun w' => Try.aggSec w'
  have s24 := fun w' => Try.sizeSec w'
  have n0 := fun w' => Try.notFalse w'
  have n1 := fun w' => Try.notTrue w'
  have hn0 : ((n : Int) == 0) = false := by rw [beq_eq_false_iff_ne]; omega
  have hn2 : decide ((n : Int) = 0) = false := decide_eq_false (by omega)
  have ks := fun W => sl_to b0 o n c 64 64 rfl (by omega) (by omega) W
  obtain ⟨⟨kd, ep, nu, lf, D⟩, z, hsz⟩ : ∃ s z, secA img j = (s, z) := ⟨_, _, rfl⟩
  obtain ⟨m, hm⟩ : ∃ m, m = D.length := ⟨_, rfl⟩
  have HM := Lib.hid hm
  have HSZ := Lib.hid hsz
  have HAt := Lib.hid h
  have hln : (secL img j).length = 64 := by unfold secL; rw [List.length_take, List.length_drop]; omega
  have HGet : Hid (∀ W, Below w.heap.size w W → Calls Try.prog 39 #[.slice (some ⟨b0, o, none⟩) 64 c] W fun e w' => ∃ B d, e = .returned (.tuple #[.agg #[.int .i64 kd, .int .i64 ep, .int .i64 nu, .int .i64 lf, .slice B m d], .int .i64 z]) ∧ Hid (RB w' w'.heap.size B D) ∧ Hid (Below W.heap.size W w') ∧ Hid (∀ ad, B = some ad → w.heap.size ≤ ad.block)) := fun W hW => by
    have hr := rb_take ((h.left.below (hW.mono h.le)).more (Nat.le_trans h.le hW.size)) 64 (by rw [List.length_drop]; omega)
    have h3 := sget_new (secL img j) (some ⟨b0, o, none⟩) c W hr (by rw [hln]; omega) hcp.2 (by rw [hln]; omega)
    rw [hln] at h3
    refine h3.mono ?_
    rintro e w' ⟨B, d, he, hrb, hnw, hb⟩
    have h6 : getS (secL img j) = (⟨kd, ep, nu, lf, D⟩, z) := hsz
    rw [h6] at he hrb
    unfold secV at he
    simp only [] at he
    rw [← hm] at he
    exact ⟨B, d, he, hrb, hb, fun ad e => Nat.le_trans hW.size (hnw ad e)⟩
  have HC : Hid (∀ W, Below w.heap.size w W → (W.cell? ⟨ga, 0, none⟩ = some (.slice (some ⟨b0, o, none⟩) n c) ∧ W.cell? ⟨ga, 1, none⟩ = some (.int .i64 (j : Int)) ∧ W.cell? ⟨ga, 2, none⟩ = some (.int .i64 least) ∧ W.cell? ⟨ga, 3, none⟩ = some (.int .i64 most)) ∧ (W.frozen? ⟨ga, 0, none⟩ = false ∧ W.frozen? ⟨ga, 1, none⟩ = false)) := fun W hW => by
    have h0 := Blk.below h.blk hW hlt
    exact ⟨⟨by rw [h0.cell]; rfl, by rw [h0.cell]; rfl, by rw [h0.cell]; rfl, by rw [h0.cell]; rfl⟩, h0.frozen 0, h0.frozen 1⟩
  have HS : Hid (∀ (w1 : World) B d W, Below (w1.alloc (.cells #[.int .i64 kd, .int .i64 ep, .int .i64 nu, .int .i64 lf, .slice B m d] 79)).heap.size (w1.alloc (.cells #[.int .i64 kd, .int .i64 ep, .int .i64 nu, .int .i64 lf, .slice B m d] 79)) W → W.cell? ⟨w1.heap.size, 0, none⟩ = some (.int .i64 kd) ∧ W.cell? ⟨w1.heap.size, 1, none⟩ = some (.int .i64 ep) ∧ W.cell? ⟨w1.heap.size, 2, none⟩ = some (.int .i64 nu) ∧ W.cell? ⟨w1.heap.size, 3, none⟩ = some (.int .i64 lf) ∧ W.cell? ⟨w1.heap.size, 4, none⟩ = some (.slice B m d)) := fun w1 B d W hb => by
    have h0 : Blk W w1.heap.size 79 #[.int .i64 kd, .int .i64 ep, .int .i64 nu, .int .i64 lf, .slice B m d] := Blk.below (Blk.new w1 _ _) hb (by simp)
    exact ⟨by rw [h0.cell]; rfl, by rw [h0.cell]; rfl, by rw [h0.cell]; rfl, by rw [h0.cell]; rfl, by rw [h0.cell]; rfl⟩
  have HR : Hid (∀ W, Below (w.alloc (.cells #[.int .i64 0, .int .i64 0, .int .i64 0, .int .i64 0, .slice none 0 0] 79)).heap.size (w.alloc (.cells #[.int .i64 0, .int .i64 0, .int .i64 0, .int .i64 0, .slice none 0 0] 79)) W → (W.cell? ⟨w.heap.size, 0, none⟩ = some (.int .i64 0) ∧ W.cell? ⟨w.heap.size, 1, none⟩ = some (.int .i64 0) ∧ W.cell? ⟨w.heap.size, 2, none⟩ = some (.int .i64 0) ∧ W.cell? ⟨w.heap.size, 3, none⟩ = some (.int .i64 0) ∧ W.cell? ⟨w.heap.size, 4, none⟩ = some (.slice none 0 0)) ∧ W.frozen? ⟨w.heap.size, 0, none⟩ = false ∧ W.frozen? ⟨w.heap.size, 1, none⟩ = false ∧ W.frozen? ⟨w.heap.size, 2, none⟩ = false ∧ W.frozen? ⟨w.heap.size, 3, none⟩ = false ∧ W.frozen? ⟨w.heap.size, 4, none⟩ = false) := fun W hb => by
    have h0 : Blk W w.heap.size 79 #[.int .i64 0, .int .i64 0, .int .i64 0, .int .i64 0, .slice none 0 0] := Blk.below (Blk.new w _ _) hb (by simp)
    exact ⟨⟨by rw [h0.cell]; rfl, by rw [h0.cell]; rfl, by rw [h0.cell]; rfl, by rw [h0.cell]; rfl, by rw [h0.cell]; rfl⟩, h0.frozen 0, h0.frozen 1, h0.frozen 2, h0.frozen 3, h0.frozen 4⟩
  have HRB : Hid (∀ W, Below (w.alloc (.cells #[.int .i64 0, .int .i64 0, .int .i64 0, .int .i64 0, .slice none 0 0] 79)).heap.size (w.alloc (.cells #[.int .i64 0, .int .i64 0, .int .i64 0, .int .i64 0, .slice none 0 0] 79)) W → Blk W w.heap.size 79 #[.int .i64 0, .int .i64 0, .int .i64 0, .int .i64 0, .slice none 0 0]) := fun W hb => Blk.below (Blk.new w _ _) hb (by simp)
  have hb1 : Below w.heap.size w (w.alloc (.cells #[.int .i64 0, .int .i64 0, .int .i64 0, .int .i64 0, .slice none 0 0] 79)) := (Below.refl _ _).alloc (Nat.le_refl _) _
  have HB1 := Lib.hid hb1
  have p0 : z ≠ 0 := by rw [hsz] at hb; exact hb
  have p1 : (z != 0) = true := by rw [bne_iff_ne]; exact p0
  have p2 : (z == 0) = false := by rw [beq_eq_false_iff_ne]; exact p0
  clear hb p0
  clear h hN hj hm hsz hn hcp hln hb0
  go_enter Try.func26, Try.ntmps26
  go_wp2_with (first
    | (go_at_call 39; (with_reducible refine (HGet.out _ HB1.out).mono ?_); rintro e w1 ⟨B1, e1, rfl, g1, q1, nw1⟩; have HQ1 := Lib.hid (q1.out.alloc q1.out.size (.cells #[.int .i64 kd, .int .i64 ep, .int .i64 nu, .int .i64 lf, .slice B1 m e1] 79)); obtain ⟨t0, t1, t2, t3, t4⟩ := HS.out w1 B1 e1 _ (Below.refl _ _); have HBB := Lib.hid (chain7 HB1.out HQ1.out); obtain ⟨⟨v0, v1, v2, v3⟩, f0, f1⟩ := HC.out _ HBB.out; obtain ⟨⟨y0, y1, y2, y3, y4⟩, x0, x1, x2, x3, x4⟩ := HR.out _ HQ1.out))
  go_quiet (fail)
  go_wp2
  refine bodyPost_ret (v := .tuple #[.agg #[.int .i64 0, .int .i64 0, .int .i64 0, .int .i64 0, .slice none 0 0], .bool false]) (by simp [results, Try.results26, go_sem, y0, y1, y2, y3, y4]) rfl ⟨rfl, ?_⟩
  have h9 := chain7 HBB.out (drewN_room _ nq)
  first
    | (with_reducible exact h9)
    | exact below_five h9 (Nat.le_refl _) _ _ _ _ _
theorem wnext_num {w : World} {ga : Nat} {img : List UInt8} {j N : Nat} {least most : Int} {bb : Nat} (h : Area13 w ga img j least most bb) (hN : img.length = 64 * N) (hN1 : N ≤ 1000) (hj : j < N) (hz : (secA img j).2 = 0) (hb : (secA img j).1.number ≠ (j : Int)) :
    Calls Try.prog 26 #[.pointer (some ⟨ga, 0, none⟩)] w (NextNo ga img j least most bb w) := by
  obtain ⟨n, A, c, h⟩ := h
  have hn := h.len
  have hcp := h.cap
  have hlt := h.blk.lt
  obtain ⟨b0, o, rfl, hb0, _⟩ := h.left.at_ (by rw [List.length_drop]; omega)
  have r0 : w.cell? ⟨ga, 0, none⟩ = some (.slice (some ⟨b0, o, none⟩) n c) := by rw [h.blk.cell]; rfl
  have nb := fun w' => Try.secBuild0 w'
  have a24 := fun w' => Try.aggSec w'
  have s24 := fun w' => Try.sizeSec w'
  have n0 := fun w' => Try.notFalse w'
  have n1 := fun w' => Try.notTrue w'
  have hn0 : ((n : Int) == 0) = false := by rw [beq_eq_false_iff_ne]; omega
  have hn2 : decide ((n : Int) = 0) = false := decide_eq_false (by omega)
  have ks := fun W => sl_to b0 o n c 64 64 rfl (by omega) (by omega) W
  obtain ⟨⟨kd, ep, nu, lf, D⟩, z, hsz⟩ : ∃ s z, secA img j = (s, z) := ⟨_, _, rfl⟩
  obtain ⟨m, hm⟩ : ∃ m, m = D.length := ⟨_, rfl⟩
  have HM := Lib.hid hm
  have HSZ := Lib.hid hsz
  have HAt := Lib.hid h
  have hln : (secL img j).length = 64 := by unfold secL; rw [List.length_take, List.length_drop]; omega
  have HGet : Hid (∀ W, Below w.heap.size w W → Calls Try.prog 39 #[.slice (some ⟨b0, o, none⟩) 64 c] W fun e w' => ∃ B d, e = .returned (.tuple #[.agg #[.int .i64 kd, .int .i64 ep, .int .i64 nu, .int .i64 lf, .slice B m d], .int .i64 z]) ∧ Hid (RB w' w'.heap.size B D) ∧ Hid (Below W.heap.size W w') ∧ Hid (∀ ad, B = some ad → w.heap.size ≤ ad.block)) := fun W hW => by
    have hr := rb_take ((h.left.below (hW.mono h.le)).more (Nat.le_trans h.le hW.size)) 64 (by rw [List.length_drop]; omega)
    have h3 := sget_new (secL img j) (some ⟨b0, o, none⟩) c W hr (by rw [hln]; omega) hcp.2 (by rw [hln]; omega)
    rw [hln] at h3
    refine h3.mono ?_
    rintro e w' ⟨B, d, he, hrb, hnw, hb⟩
    have h6 : getS (secL img j) = (⟨kd, ep, nu, lf, D⟩, z) := hsz
    rw [h6] at he hrb
    unfold secV at he
    simp only [] at he
    rw [← hm] at he
    exact ⟨B, d, he, hrb, hb, fun ad e => Nat.le_trans hW.size (hnw ad e)⟩
  have HC : Hid (∀ W, Below w.heap.size w W → (W.cell? ⟨ga, 0, none⟩ = some (.slice (some ⟨b0, o, none⟩) n c) ∧ W.cell? ⟨ga, 1, none⟩ = some (.int .i64 (j : Int)) ∧ W.cell? ⟨ga, 2, none⟩ = some (.int .i64 least) ∧ W.cell? ⟨ga, 3, none⟩ = some (.int .i64 most)) ∧ (W.frozen? ⟨ga, 0, none⟩ = false ∧ W.frozen? ⟨ga, 1, none⟩ = false)) := fun W hW => by
    have h0 := Blk.below h.blk hW hlt
    exact ⟨⟨by rw [h0.cell]; rfl, by rw [h0.cell]; rfl, by rw [h0.cell]; rfl, by rw [h0.cell]; rfl⟩, h0.frozen 0, h0.frozen 1⟩
  have HS : Hid (∀ (w1 : World) B d W, Below (w1.alloc (.cells #[.int .i64 kd, .int .i64 ep, .int .i64 nu, .int .i64 lf, .slice B m d] 79)).heap.size (w1.alloc (.cells #[.int .i64 kd, .int .i64 ep, .int .i64 nu, .int .i64 lf, .slice B m d] 79)) W → W.cell? ⟨w1.heap.size, 0, none⟩ = some (.int .i64 kd) ∧ W.cell? ⟨w1.heap.size, 1, none⟩ = some (.int .i64 ep) ∧ W.cell? ⟨w1.heap.size, 2, none⟩ = some (.int .i64 nu) ∧ W.cell? ⟨w1.heap.size, 3, none⟩ = some (.int .i64 lf) ∧ W.cell? ⟨w1.heap.size, 4, none⟩ = some (.slice B m d)) := fun w1 B d W hb => by
    have h0 : Blk W w1.heap.size 79 #[.int .i64 kd, .int .i64 ep, .int .i64 nu, .int .i64 lf, .slice B m d] := Blk.below (Blk.new w1 _ _) hb (by simp)
    exact ⟨by rw [h0.cell]; rfl, by rw [h0.cell]; rfl, by rw [h0.cell]; rfl, by rw [h0.cell]; rfl, by rw [h0.cell]; rfl⟩
  have HR : Hid (∀ W, Below (w.alloc (.cells #[.int .i64 0, .int .i64 0, .int .i64 0, .int .i64 0, .slice none 0 0] 79)).heap.size (w.alloc (.cells #[.int .i64 0, .int .i64 0, .int .i64 0, .int .i64 0, .slice none 0 0] 79)) W → (W.cell? ⟨w.heap.size, 0, none⟩ = some (.int .i64 0) ∧ W.cell? ⟨w.heap.size, 1, none⟩ = some (.int .i64 0) ∧ W.cell? ⟨w.heap.size, 2, none⟩ = some (.int .i64 0) ∧ W.cell? ⟨w.heap.size, 3, none⟩ = some (.int .i64 0) ∧ W.cell? ⟨w.heap.size, 4, none⟩ = some (.slice none 0 0)) ∧ W.frozen? ⟨w.heap.size, 0, none⟩ = false ∧ W.frozen? ⟨w.heap.size, 1, none⟩ = false ∧ W.frozen? ⟨w.heap.size, 2, none⟩ = false ∧ W.frozen? ⟨w.heap.size, 3, none⟩ = false ∧ W.frozen? ⟨w.heap.size, 4, none⟩ = false) := fun W hb => by
    have h0 : Blk W w.heap.size 79 #[.int .i64 0, .int .i64 0, .int .i64 0, .int .i64 0, .slice none 0 0] := Blk.below (Blk.new w _ _) hb (by simp)
    exact ⟨⟨by rw [h0.cell]; rfl, by rw [h0.cell]; rfl, by rw [h0.cell]; rfl, by rw [h0.cell]; rfl, by rw [h0.cell]; rfl⟩, h0.frozen 0, h0.frozen 1, h0.frozen 2, h0.frozen 3, h0.frozen 4⟩
  have HRB : Hid (∀ W, Below (w.alloc (.cells #[.int .i64 0, .int .i64 0, .int .i64 0, .int .i64 0, .slice none 0 0] 79)).heap.size (w.alloc (.cells #[.int .i64 0, .int .i64 0, .int .i64 0, .int .i64 0, .slice none 0 0] 79)) W → Blk W w.heap.size 79 #[.int .i64 0, .int .i64 0, .int .i64 0, .int .i64 0, .slice none 0 0]) := fun W hb => Blk.below (Blk.new w _ _) hb (by simp)
  have hb1 : Below w.heap.size w (w.alloc (.cells #[.int .i64 0, .int .i64 0, .int .i64 0, .int .i64 0, .slice none 0 0] 79)) := (Below.refl _ _).alloc (Nat.le_refl _) _
  have HB1 := Lib.hid hb1
  obtain rfl : z = 0 := by rw [hsz] at hz; exact hz
  have p0 : nu ≠ (j : Int) := by rw [hsz] at hb; exact hb
  have p1 : (nu != (j : Int)) = true := by rw [bne_iff_ne]; exact p0
  have p2 : (nu == (j : Int)) = false := by rw [beq_eq_false_iff_ne]; exact p0
  clear hb p0 hz
  clear h hN hj hm hsz hn hcp hln hb0
  go_enter Try.func26, Try.ntmps26
  go_wp2_with (first
    | (go_at_call 39; (with_reducible refine (HGet.out _ HB1.out).mono ?_); rintro e w1 ⟨B1, e1, rfl, g1, q1, nw1⟩; have HQ1 := Lib.hid (q1.out.alloc q1.out.size (.cells #[.int .i64 kd, .int .i64 ep, .int .i64 nu, .int .i64 lf, .slice B1 m e1] 79)); obtain ⟨t0, t1, t2, t3, t4⟩ := HS.out w1 B1 e1 _ (Below.refl _ _); have HBB := Lib.hid (chain7 HB1.out HQ1.out); obtain ⟨⟨v0, v1, v2, v3⟩, f0, f1⟩ := HC.out _ HBB.out; obtain ⟨⟨y0, y1, y2, y3, y4⟩, x0, x1, x2, x3, x4⟩ := HR.out _ HQ1.out))
  go_quiet (fail)
  go_wp2
  refine bodyPost_ret (v := .tuple #[.agg #[.int .i64 0, .int .i64 0, .int .i64 0, .int .i64 0, .slice none 0 0], .bool false]) (by simp [results, Try.results26, go_sem, y0, y1, y2, y3, y4]) rfl ⟨rfl, ?_⟩
  have h9 := chain7 HBB.out (drewN_room _ nq)
  first
    | (with_reducible exact h9)
    | exact below_five h9 (Nat.le_refl _) _ _ _ _ _
theorem wnext_epo {w : World} {ga : Nat} {img : List UInt8} {j N : Nat} {least most : Int} {bb : Nat} (h : Area13 w ga img j least most bb) (hN : img.length = 64 * N) (hN1 : N ≤ 1000) (hj : j < N) (hz : (secA img j).2 = 0) (hb : (secA img j).1.number = (j : Int)) (he : ¬ (least ≤ (secA img j).1.epoch ∧ (secA img j).1.epoch ≤ most)) :
    Calls Try.prog 26 #[.pointer (some ⟨ga, 0, none⟩)] w (NextNo ga img j least most bb w) := by
  obtain ⟨n, A, c, h⟩ := h
  have hn := h.len
  have hcp := h.cap
  have hlt := h.blk.lt
  obtain ⟨b0, o, rfl, hb0, _⟩ := h.left.at_ (by rw [List.length_drop]; omega)
  have r0 : w.cell? ⟨ga, 0, none⟩ = some (.slice (some ⟨b0, o, none⟩) n c) := by rw [h.blk.cell]; rfl
  have nb := fun w' => Try.secBuild0 w'
  have a24 := fun w' => Try.aggSec w'
  have s24 := fun w' => Try.sizeSec w'
  have n0 := fun w' => Try.notFalse w'
  have n1 := fun w' => Try.notTrue w'
  have hn0 : ((n : Int) == 0) = false := by rw [beq_eq_false_iff_ne]; omega
  have hn2 : decide ((n : Int) = 0) = false := decide_eq_false (by omega)
  have ks := fun W => sl_to b0 o n c 64 64 rfl (by omega) (by omega) W
  obtain ⟨⟨kd, ep, nu, lf, D⟩, z, hsz⟩ : ∃ s z, secA img j = (s, z) := ⟨_, _, rfl⟩
  obtain ⟨m, hm⟩ : ∃ m, m = D.length := ⟨_, rfl⟩
  have HM := Lib.hid hm
  have HSZ := Lib.hid hsz
  have HAt := Lib.hid h
  have hln : (secL img j).length = 64 := by unfold secL; rw [List.length_take, List.length_drop]; omega
  have HGet : Hid (∀ W, Below w.heap.size w W → Calls Try.prog 39 #[.slice (some ⟨b0, o, none⟩) 64 c] W fun e w' => ∃ B d, e = .returned (.tuple #[.agg #[.int .i64 kd, .int .i64 ep, .int .i64 nu, .int .i64 lf, .slice B m d], .int .i64 z]) ∧ Hid (RB w' w'.heap.size B D) ∧ Hid (Below W.heap.size W w') ∧ Hid (∀ ad, B = some ad → w.heap.size ≤ ad.block)) := fun W hW => by
    have hr := rb_take ((h.left.below (hW.mono h.le)).more (Nat.le_trans h.le hW.size)) 64 (by rw [List.length_drop]; omega)
    have h3 := sget_new (secL img j) (some ⟨b0, o, none⟩) c W hr (by rw [hln]; omega) hcp.2 (by rw [hln]; omega)
    rw [hln] at h3
    refine h3.mono ?_
    rintro e w' ⟨B, d, he, hrb, hnw, hb⟩
    have h6 : getS (secL img j) = (⟨kd, ep, nu, lf, D⟩, z) := hsz
    rw [h6] at he hrb
    unfold secV at he
    simp only [] at he
    rw [← hm] at he
    exact ⟨B, d, he, hrb, hb, fun ad e => Nat.le_trans hW.size (hnw ad e)⟩
  have HC : Hid (∀ W, Below w.heap.size w W → (W.cell? ⟨ga, 0, none⟩ = some (.slice (some ⟨b0, o, none⟩) n c) ∧ W.cell? ⟨ga, 1, none⟩ = some (.int .i64 (j : Int)) ∧ W.cell? ⟨ga, 2, none⟩ = some (.int .i64 least) ∧ W.cell? ⟨ga, 3, none⟩ = some (.int .i64 most)) ∧ (W.frozen? ⟨ga, 0, none⟩ = false ∧ W.frozen? ⟨ga, 1, none⟩ = false)) := fun W hW => by
    have h0 := Blk.below h.blk hW hlt
    exact ⟨⟨by rw [h0.cell]; rfl, by rw [h0.cell]; rfl, by rw [h0.cell]; rfl, by rw [h0.cell]; rfl⟩, h0.frozen 0, h0.frozen 1⟩
  have HS : Hid (∀ (w1 : World) B d W, Below (w1.alloc (.cells #[.int .i64 kd, .int .i64 ep, .int .i64 nu, .int .i64 lf, .slice B m d] 79)).heap.size (w1.alloc (.cells #[.int .i64 kd, .int .i64 ep, .int .i64 nu, .int .i64 lf, .slice B m d] 79)) W → W.cell? ⟨w1.heap.size, 0, none⟩ = some (.int .i64 kd) ∧ W.cell? ⟨w1.heap.size, 1, none⟩ = some (.int .i64 ep) ∧ W.cell? ⟨w1.heap.size, 2, none⟩ = some (.int .i64 nu) ∧ W.cell? ⟨w1.heap.size, 3, none⟩ = some (.int .i64 lf) ∧ W.cell? ⟨w1.heap.size, 4, none⟩ = some (.slice B m d)) := fun w1 B d W hb => by
    have h0 : Blk W w1.heap.size 79 #[.int .i64 kd, .int .i64 ep, .int .i64 nu, .int .i64 lf, .slice B m d] := Blk.below (Blk.new w1 _ _) hb (by simp)
    exact ⟨by rw [h0.cell]; rfl, by rw [h0.cell]; rfl, by rw [h0.cell]; rfl, by rw [h0.cell]; rfl, by rw [h0.cell]; rfl⟩
  have HR : Hid (∀ W, Below (w.alloc (.cells #[.int .i64 0, .int .i64 0, .int .i64 0, .int .i64 0, .slice none 0 0] 79)).heap.size (w.alloc (.cells #[.int .i64 0, .int .i64 0, .int .i64 0, .int .i64 0, .slice none 0 0] 79)) W → (W.cell? ⟨w.heap.size, 0, none⟩ = some (.int .i64 0) ∧ W.cell? ⟨w.heap.size, 1, none⟩ = some (.int .i64 0) ∧ W.cell? ⟨w.heap.size, 2, none⟩ = some (.int .i64 0) ∧ W.cell? ⟨w.heap.size, 3, none⟩ = some (.int .i64 0) ∧ W.cell? ⟨w.heap.size, 4, none⟩ = some (.slice none 0 0)) ∧ W.frozen? ⟨w.heap.size, 0, none⟩ = false ∧ W.frozen? ⟨w.heap.size, 1, none⟩ = false ∧ W.frozen? ⟨w.heap.size, 2, none⟩ = false ∧ W.frozen? ⟨w.heap.size, 3, none⟩ = false ∧ W.frozen? ⟨w.heap.size, 4, none⟩ = false) := fun W hb => by
    have h0 : Blk W w.heap.size 79 #[.int .i64 0, .int .i64 0, .int .i64 0, .int .i64 0, .slice none 0 0] := Blk.below (Blk.new w _ _) hb (by simp)
    exact ⟨⟨by rw [h0.cell]; rfl, by rw [h0.cell]; rfl, by rw [h0.cell]; rfl, by rw [h0.cell]; rfl, by rw [h0.cell]; rfl⟩, h0.frozen 0, h0.frozen 1, h0.frozen 2, h0.frozen 3, h0.frozen 4⟩
  have HRB : Hid (∀ W, Below (w.alloc (.cells #[.int .i64 0, .int .i64 0, .int .i64 0, .int .i64 0, .slice none 0 0] 79)).heap.size (w.alloc (.cells #[.int .i64 0, .int .i64 0, .int .i64 0, .int .i64 0, .slice none 0 0] 79)) W → Blk W w.heap.size 79 #[.int .i64 0, .int .i64 0, .int .i64 0, .int .i64 0, .slice none 0 0]) := fun W hb => Blk.below (Blk.new w _ _) hb (by simp)
  have hb1 : Below w.heap.size w (w.alloc (.cells #[.int .i64 0, .int .i64 0, .int .i64 0, .int .i64 0, .slice none 0 0] 79)) := (Below.refl _ _).alloc (Nat.le_refl _) _
  have HB1 := Lib.hid hb1
  obtain rfl : z = 0 := by rw [hsz] at hz; exact hz
  obtain rfl : nu = (j : Int) := by rw [hsz] at hb; exact hb
  have p1 : ((j : Int) != (j : Int)) = false := by rw [bne_eq_false_iff_eq]
  have p2 : ((j : Int) == (j : Int)) = true := beq_self_eq_true _
  have HW : Hid (∀ W, Calls Try.prog 23 #[.int .i64 ep, .int .i64 least, .int .i64 most] W fun e w' => e = .returned (.bool false) ∧ W = w') := fun W => wwithin_no (by rw [hsz] at he; exact he) W
  clear hb he hz
  clear h hN hj hm hsz hn hcp hln hb0
  go_enter Try.func26, Try.ntmps26
  go_wp2_with (first
    | (go_at_call 39; (with_reducible refine (HGet.out _ HB1.out).mono ?_); rintro e w1 ⟨B1, e1, rfl, g1, q1, nw1⟩; have HQ1 := Lib.hid (q1.out.alloc q1.out.size (.cells #[.int .i64 kd, .int .i64 ep, .int .i64 (j : Int), .int .i64 lf, .slice B1 m e1] 79)); obtain ⟨t0, t1, t2, t3, t4⟩ := HS.out w1 B1 e1 _ (Below.refl _ _); have HBB := Lib.hid (chain7 HB1.out HQ1.out); obtain ⟨⟨v0, v1, v2, v3⟩, f0, f1⟩ := HC.out _ HBB.out; obtain ⟨⟨y0, y1, y2, y3, y4⟩, x0, x1, x2, x3, x4⟩ := HR.out _ HQ1.out))
  go_quiet (with_reducible exact quiet_same HW)
  go_wp2
  refine bodyPost_ret (v := .tuple #[.agg #[.int .i64 0, .int .i64 0, .int .i64 0, .int .i64 0, .slice none 0 0], .bool false]) (by simp [results, Try.results26, go_sem, y0, y1, y2, y3, y4]) rfl ⟨rfl, ?_⟩
  have h9 := chain7 HBB.out (drewN_room _ nq)
  first
    | (with_reducible exact h9)
    | exact below_five h9 (Nat.le_refl _) _ _ _ _ _
end Go.Proofs.Ytghenhacndaelaa
