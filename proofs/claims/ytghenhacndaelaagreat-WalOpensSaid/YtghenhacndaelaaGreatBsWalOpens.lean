/- WalOpens returns true for every area and every list of deeds, and leaves memory that was there as it was; nothing else is assumed beyond the statement itself. -/
import Derived.Test.YtghenhacndaelaaGreatBu15
import Derived.Test.YtghenhacndaelaaGreatBs24
import Derived.Test.YtghenhacndaelaaGreatBu02
import Derived.Test.YtghenhacndaelaaGreatBu05
import Derived.Test.YtghenhacndaelaaGreatBs35
import Derived.Test.YtghenhacndaelaaGreatBs34
import Derived.Test.YtghenhacndaelaaGreatBs31
import Derived.Test.YtghenhacndaelaaGreatBs23
import Derived.Test.YtghenhacndaelaaGreatBs25
import Derived.Test.YtghenhacndaelaaGreatBu12
import Derived.Test.YtghenhacndaelaaGreatBu03
import Derived.Test.YtghenhacndaelaaGreatBsWalDoes
import Derived.Deep.RegionWith
set_option linter.unusedSimpArgs false
set_option linter.unusedVariables false
set_option maxRecDepth 100000
set_option maxHeartbeats 16000000
namespace Go.Proofs.YtghenhacndaelaaGreat
open Go.ChangeShapes Go.WideShapes Go.ChangeAt Go.RowKit
open Wal
theorem Tryz.agg45 (w : World) : (isAgg 45).run Tryz.prog w = .ok true w := by kernel_rfl
theorem Tryz.size45 (w : World) : (sizeOf 45).run Tryz.prog w = .ok 5 w := by kernel_rfl
theorem make_own {ops : Array Oper} {rest : List Oper} {o : Oper} {a : Act} {Q : Exit → Act → World → Prop} (hgd : o.guard = none) (n : Nat) (l c : Operand) (ho : o.op = .makeSlice 39 l c) (hl : a.eval l = .int .i64 (n : Int)) (hc : a.eval c = .int .i64 (n : Int)) (hn : n ≤ 1048576) {wr : World}
  (h : ∀ w1, Own w1 wr.heap.size (some ⟨wr.heap.size, 0, none⟩) (List.replicate n 0) n → Below wr.heap.size wr w1 → wpList Tryz.prog ops Q rest (a.put o.dst (.slice (some ⟨wr.heap.size, 0, none⟩) n n)) w1) :
  wpList Tryz.prog ops Q (o :: rest) a wr := by
 obtain ⟨i0, hi0, hz0, hz1, hz2⟩ := info_parts Tryz.info5
 refine wpList_make_full _ hgd l c 39 ho wr.heap.size 5 i0 _ 1 Tryz.underlying39 hi0 hz0 hz1 .i64 .i64 _ _ n hl hc rfl rfl (by have : i0.bytes = 1 := hz2; rw [this]; omega) (by unfold maxLen; omega) (Nat.le_refl _) fun w1 hown hg => ?_
 have h1 := made_block hown
 have e : (cells (List.replicate n 0)).toArray = (List.replicate n (Value.int .u8 0)).toArray := by simp [cells]
 have h2 := block_own (L := List.replicate n 0) (base := wr.heap.size) (by rw [e]; exact h1) (Nat.le_refl _) (by rw [List.length_replicate]; exact hn)
 rw [List.length_replicate] at h2
 exact h w1 h2 ((Below.refl _ _).grown hg (Nat.le_refl _) (by simp))
theorem put_sl {w : World} {A : Option Addr} {D : List Sd} (hD : SL w w.heap.size A D) (i : Nat) (hi : i < D.length) : ∃ b off, A = some ⟨b, off, none⟩ ∧ ∀ W, Below w.heap.size w W → ∃ (k1 k2 k3 k4 : Int) (dA : Option Addr) (n dc : Nat), W.cell? ⟨b, off + i * 5, none⟩ = some (.int .i64 k1) ∧ W.cell? ⟨b, off + i * 5 + 1, none⟩ = some (.int .i64 k2) ∧ W.cell? ⟨b, off + i * 5 + 2, none⟩ = some (.int .i64 k3) ∧ W.cell? ⟨b, off + i * 5 + 3, none⟩ = some (.int .i64 k4) ∧ W.cell? ⟨b, off + i * 5 + 4, none⟩ = some (.slice dA n dc) ∧
   (Hid (Calls Tryz.prog 12 #[.agg #[.int .i64 k1, .int .i64 k2, .int .i64 k3, .int .i64 k4, .slice dA n dc]] W fun e w' => ∃ (A : Option Addr) (c : Nat), e = .returned (.tuple #[.slice A 64 c, .int .i64 0]) ∧ Hid (∃ L : List UInt8, L.length = 64 ∧ RB w' w'.heap.size A L) ∧ Below W.heap.size W w') ∨ Hid (Calls Tryz.prog 12 #[.agg #[.int .i64 k1, .int .i64 k2, .int .i64 k3, .int .i64 k4, .slice dA n dc]] W fun e w' => e = .returned (.tuple #[.slice none 0 0, .int .i64 1]) ∧ Below W.heap.size W w')) := by
 obtain ⟨b, off, e, hlt, hc⟩ := hD (by omega)
 refine ⟨b, off, e, fun W hb => ?_⟩
 obtain ⟨dA, dc, h1, h2, h3, h4, h5, h6⟩ := hc i hi
 have k : ∀ j, W.cell? ⟨b, j, none⟩ = w.cell? ⟨b, j, none⟩ := fun j => hb.cell (p := ⟨b, j, none⟩) hlt
 refine ⟨_, _, _, _, dA, _, dc, by rw [k]; exact h2, by rw [k]; exact h3, by rw [k]; exact h4, by rw [k]; exact h5, by rw [k]; exact h6, ?_⟩
 cases hm : D[i].may with
 | true =>
  refine .inl ((rput_yes D[i] dA dc W hm ((h1.below hb).more hb.size)).mono fun e w' hh => ?_)
  obtain ⟨A, c, he, ho, hb'⟩ := hh
  have hl : D[i].bytes.length = 64 := Sd.bytes_length _ (by have := (Sd.may_iff _).1 hm; omega)
  rw [hl] at he
  exact ⟨A, c, he, ⟨_, hl, own_rb ho⟩, hb'⟩
 | false => exact .inr (rput_no D[i] dA dc W hm)
theorem wopens_out (D : List Sd) (AD : Option Addr) (nD cD : Nat) (f0 b0 l0 m0 : Int) (l : List Wx) (A : Option Addr) (n c : Nat) (w : World) (hD : DL13 w w.heap.size A l) (hn : n = l.length) (h : 40 < nD ∨ (nD ≤ 40 ∧ fewW l = false)) :
  Calls Tryz.prog 4 #[.agg #[.slice AD nD cD, .int .i64 f0, .int .i64 b0, .int .i64 l0, .int .i64 m0], .slice A n c] w fun e w' => e = .returned (.bool true) ∧ Below w.heap.size w w' := by
 have hb : Below w.heap.size w (w.alloc (.cells #[.slice AD nD cD, .int .i64 f0, .int .i64 b0, .int .i64 l0, .int .i64 m0] 45)) := (Below.refl _ _).alloc (Nat.le_refl _) _
 have HF : Hid (Calls Tryz.prog 5 #[.slice A n c] (w.alloc (.cells #[.slice AD nD cD, .int .i64 f0, .int .i64 b0, .int .i64 l0, .int .i64 m0] 45)) fun e w' => e = .returned (.bool (fewW l)) ∧ Below (w.alloc (.cells #[.slice AD nD cD, .int .i64 f0, .int .i64 b0, .int .i64 l0, .int .i64 m0] 45)).heap.size (w.alloc (.cells #[.slice AD nD cD, .int .i64 f0, .int .i64 b0, .int .i64 l0, .int .i64 m0] 45)) w') := few13_any l A n c hb hD hn
 have HB := Lib.hid hb
 have HAw := Lib.hid awake13_any
 have n0 := fun w' => Tryz.notFalse w'
 have n1 := fun w' => Tryz.notTrue w'
 have a45 := fun w' => Tryz.agg45 w'
 have s45 := fun w' => Tryz.size45 w'
 clear hD hn hb
 rcases h with h | ⟨h1, h2⟩
 ·have e1 : decide ((nD : Int) > 40) = true := decide_eq_true (by omega)
  have e2 : decide ((40 : Int) < (nD : Int)) = true := decide_eq_true (by omega)
  have e3 : decide (40 < nD) = true := decide_eq_true h
  go_enter Tryz.func4, Tryz.ntmps4
  go_wp2_with (first
   | (go_at_call 6; (with_reducible refine (HAw.out _).mono ?_); rintro e w3 ⟨rfl, hb3⟩))
  go_ret
  exact ⟨rfl, chain7 HB.out hb3⟩
 ·have e1 : decide ((nD : Int) > 40) = false := decide_eq_false (by omega)
  have e2 : decide ((40 : Int) < (nD : Int)) = false := decide_eq_false (by omega)
  have e3 : decide (40 < nD) = false := decide_eq_false (by omega)
  rw [h2] at HF
  go_enter Tryz.func4, Tryz.ntmps4
  go_wp2_with (first
   | (go_at_call 5; (with_reducible refine HF.out.mono ?_); rintro e w2 ⟨rfl, hb2⟩)
   | (go_at_call 6; (with_reducible refine (HAw.out _).mono ?_); rintro e w3 ⟨rfl, hb3⟩))
  go_ret
  exact ⟨rfl, chain7 (chain7 HB.out hb2) hb3⟩
theorem image_disk {L : List UInt8} (h : L.length = 4096) : Dk.mayL L ∧ (Dk.ofImage L).safe.length = 16 ∧ (Dk.ofImage L).load = 0 := by
 refine ⟨by unfold Dk.mayL; omega, ?_, rfl⟩
 show (Dk.chunks (L.length / 256) L).length = 16
 rw [Dk.chunks_length, h]
theorem image_bytes {w : World} {base g n c q : Nat} {X Y Y2 : List UInt8} (h : w.ownsRow base 5 1 (.slice (some ⟨g, 0, none⟩) n c) n (cells (Y ++ X) ++ cells Y2)) (hX : X.length = q) (hn : n = 512 + q + 4096 := by rfl) (hY : Y.length = 512 := by simp) (hY2 : Y2.length = 4096 := by simp) : Hid (∃ Z : List UInt8, Z.length = 4096 ∧ RB w w.heap.size (some ⟨g, 0, none⟩) Z) := by
 have h1 : (Y ++ X ++ Y2).length = n := by simp only [List.length_append]; omega
 rw [← cells_append, ← h1] at h
 exact ⟨(Y ++ X ++ Y2).take 4096, by rw [List.length_take]; omega, rb_take (own_rb (L := Y ++ X ++ Y2) h) 4096 (by omega)⟩
theorem area_at (w W : World) (AD : Option Addr) (nD cD : Nat) (f0 b0 l0 m0 : Int) (hb : Below (w.alloc (.cells #[.slice AD nD cD, .int .i64 f0, .int .i64 b0, .int .i64 l0, .int .i64 m0] 45)).heap.size (w.alloc (.cells #[.slice AD nD cD, .int .i64 f0, .int .i64 b0, .int .i64 l0, .int .i64 m0] 45)) W) : W.cell? ⟨w.heap.size, 0, none⟩ = some (.slice AD nD cD) ∧ W.cell? ⟨w.heap.size, 1, none⟩ = some (.int .i64 f0) ∧ W.cell? ⟨w.heap.size, 2, none⟩ = some (.int .i64 b0) ∧ W.cell? ⟨w.heap.size, 3, none⟩ = some (.int .i64 l0) ∧ W.cell? ⟨w.heap.size, 4, none⟩ = some (.int .i64 m0) := blkW5 (Blk.below (Blk.new w _ _) hb (by simp))
theorem wopens_in (D : List Sd) (AD : Option Addr) (nD cD : Nat) (f0 b0 l0 m0 : Int) (hi : (InI f0 ∧ InI b0) ∧ InI l0 ∧ InI m0) (l : List Wx) (A : Option Addr) (n c : Nat) (w : World) (hS : SL w w.heap.size AD D) (hnD : nD = D.length) (hD40 : nD ≤ 40) (hD : DL13 w w.heap.size A l) (hn : n = l.length) (hf : fewW l = true) :
  Calls Tryz.prog 4 #[.agg #[.slice AD nD cD, .int .i64 f0, .int .i64 b0, .int .i64 l0, .int .i64 m0], .slice A n c] w fun e w' => e = .returned (.bool true) ∧ Below w.heap.size w w' := by
 have hb : Below w.heap.size w (w.alloc (.cells #[.slice AD nD cD, .int .i64 f0, .int .i64 b0, .int .i64 l0, .int .i64 m0] 45)) := (Below.refl _ _).alloc (Nat.le_refl _) _
 obtain ⟨i0, hi0, hz0, hz1, hz2⟩ := info_parts Tryz.info5
 obtain ⟨h20, h700⟩ := fewW_all hf
 have HAw := Lib.hid awake13_any
 have HMW := Lib.hid (area_at w)
 have HLp : Hid (∀ W (Z : List UInt8) (B : Option Addr) (d : Nat), Z.length = 4096 → RB W W.heap.size B Z → Calls Tryz.prog 13 #[.slice B 4096 d] W fun e w' => ∃ g F, e = .returned (.tuple #[.pointer (some ⟨g, 0, none⟩), .int .i64 0]) ∧ GivesDisk (Dk.ofImage Z) W w' g F) := fun W Z B d hZ hr => by
  have h5 := load_any Z B d W hr (image_disk hZ).1
  rwa [hZ] at h5
 have HLr : Hid (∀ W (Z : List UInt8) (B : Option Addr) (d : Nat), Z.length = 4096 → RB W W.heap.size B Z → 4096 ≤ d → d ≤ 9223372036854775807 → Calls Tryz.prog 14 #[.slice B 4096 d] W fun e w' => ∃ g G B, e = .returned (.tuple #[.pointer (some ⟨g, 0, none⟩), .int .i64 0]) ∧ GivesRef (Dk.ofImage Z) W w' g G B) := fun W Z B d hZ hr h1 h2 => rload_any Z B 4096 d W hr hZ.symm h1 h2 (image_disk hZ).1
 have HOp : Hid (∀ W gw g q F E G B (Z : List UInt8), Z.length = 4096 → Bo w W gw g q F E G B (Dk.ofImage Z) (Dk.ofImage Z) none none → Blk W gw 36 (worldC g q none none) → Calls Tryz.prog 9 #[.pointer (some ⟨gw, 0, none⟩), .int .i64 f0, .int .i64 b0, .int .i64 l0, .int .i64 m0] W fun e w' => e = .returned (.bool true) ∧ Hid (LoopW w w' gw g q 0)) := fun W gw g q F E G B Z hZ hB hK => by
  obtain ⟨_, h16, h00⟩ := image_disk hZ
  have h5 := lopen_any hB hK f0 b0 l0 m0 hi (by omega) (by omega)
  have h6 := (keep_open hB.two.r.good.fit f0 b0 l0 m0 (by omega)).1
  refine h5.mono fun e w' hh => ⟨hh.1, _, _, hh.2, ?_, ?_⟩
  ·have := h6.2; omega
  ·rw [h6.1]; exact h16
 have HAl : Hid (∀ W gw g q i, i ≤ 20 → LoopW w W gw g q i → Calls Tryz.prog 10 #[.pointer (some ⟨gw, 0, none⟩)] W fun e w' => e = .returned (.bool true) ∧ Hid (LoopW w w' gw g q i)) := fun W gw g q i hi hL => by
  obtain ⟨d, lo, h1, h2, h3⟩ := hL
  exact (lalike_any h1 (by omega) (by omega)).mono fun e w' hh => ⟨hh.1, d, lo, hh.2, h2, h3⟩
 have n0 := fun w' => Tryz.notFalse w'
 have n1 := fun w' => Tryz.notTrue w'
 have a36 := fun w' => Tryz.agg36w w'
 have s36 := fun w' => Tryz.size36w w'
 have a42 := fun w' => Tryz.deed13Agg w'
 have s42 := fun w' => Tryz.deed13Size w'
 have a45 := fun w' => Tryz.agg45 w'
 have s45 := fun w' => Tryz.size45 w'
 have a49 := fun w' => Tryz.aggSec w'
 have s49 := fun w' => Tryz.sizeSec w'
 have m36 := fun g q w' => Tryz.worldBuild g q w'
 have e1 : decide ((nD : Int) > 40) = false := decide_eq_false (by omega)
 have e2 : decide ((40 : Int) < (nD : Int)) = false := decide_eq_false (by omega)
 have e3 : decide (40 < nD) = false := decide_eq_false (by omega)
 have HF : Hid (Calls Tryz.prog 5 #[.slice A n c] (w.alloc (.cells #[.slice AD nD cD, .int .i64 f0, .int .i64 b0, .int .i64 l0, .int .i64 m0] 45)) fun e w' => e = .returned (.bool (fewW l)) ∧ Below (w.alloc (.cells #[.slice AD nD cD, .int .i64 f0, .int .i64 b0, .int .i64 l0, .int .i64 m0] 45)).heap.size (w.alloc (.cells #[.slice AD nD cD, .int .i64 f0, .int .i64 b0, .int .i64 l0, .int .i64 m0] 45)) w') := few13_any l A n c hb hD hn
 rw [hf] at HF
 have HD := Lib.hid hD
 have Hn := Lib.hid hn
 have HSL := Lib.hid hS
 have HnD := Lib.hid hnD
 have HBx := Lib.hid hb
 have H20 : Hid (l.length ≤ 20 ∧ ∀ i (hi : i < l.length), l[i].data.length ≤ 700) := ⟨h20, h700⟩
 have hn20 : n ≤ 20 := by omega
 clear hD hn hf h20 h700 hS hnD hi hb
 go_enter Tryz.func4, Tryz.ntmps4
 go_wp2_with (first
  | (go_at_call 5; (with_reducible refine HF.out.mono ?_); rintro e w2 ⟨rfl, hb2⟩))
 clear e1 e2 e3
 obtain ⟨ga, hga⟩ : ∃ k, k = w.heap.size := ⟨_, rfl⟩
 have HAr : Hid (∀ W, Below w2.heap.size w2 W → W.cell? ⟨ga, 0, none⟩ = some (.slice AD nD cD) ∧ W.cell? ⟨ga, 1, none⟩ = some (.int .i64 f0) ∧ W.cell? ⟨ga, 2, none⟩ = some (.int .i64 b0) ∧ W.cell? ⟨ga, 3, none⟩ = some (.int .i64 l0) ∧ W.cell? ⟨ga, 4, none⟩ = some (.int .i64 m0)) := fun W hW => by
  rw [hga]
  exact HMW.out W AD nD cD f0 b0 l0 m0 (chain7 hb2 hW)
 have HB2 : Hid (Below w.heap.size w w2) := chain7 HBx.out hb2
 rw [← hga]
 clear hga hb2 HMW
 go_loopw [5, 6] (fun v x wr => ∃ (i q1 c1 : Nat) (A1 : Option Addr), i ≤ nD ∧ q1 ≤ 2560 ∧ v = .slice A1 q1 c1 ∧ x = .int .i64 (i : Int) ∧ Hid (q1 = 64 * i) ∧ Hid (∃ X : List UInt8, (wr.ownsRow w2.heap.size 5 1 (.slice A1 q1 c1) q1 (cells X) ∧ Below w2.heap.size w2 wr) ∧ X.length = q1)) (fun _ x _ => nD - (intOf x).toNat)
 case atStart => exact ⟨0, 0, 0, none, by omega, by omega, rfl, rfl, rfl, [], ⟨World.ownsRow_nil _ _ _ _, Below.refl _ _⟩, rfl⟩
 case round =>
  obtain ⟨i, q1, c1, A1, hi, hq1, rfl, rfl, HQ, HX⟩ := hrel
  obtain ⟨X, hX, hXq⟩ := HX.out
  have HI := Lib.hid hX
  have HXq := Lib.hid hXq
  obtain ⟨u0, u1, u2, u3, u4⟩ := HAr.out wr hX.2
  clear HX hX hXq
  by_cases hlt : i < nD
  ·have hiD : i < D.length := by have := HnD.out; omega
   obtain ⟨b, off, hAD, hcs⟩ := put_sl HSL.out i hiD
   obtain ⟨k1, k2, k3, k4, dA, nd, dc, v0, v1, v2, v3, v4, HPu⟩ := hcs wr (HB2.out.trans (HI.out.2.mono HB2.out.size))
   have d6 : decide ((i : Int) < (nD : Int)) = true := decide_eq_true (by omega)
   have d7 : decide (i < nD) = true := decide_eq_true hlt
   have y7 : IntKind.i64.wrap ((i : Int) + 1) = (i : Int) + 1 := IntWalk.i64_in _ (by omega)
   have hq64 : q1 + 64 ≤ 2560 := by have := HQ.out; omega
   subst hAD
   clear hcs hiD u1 u2 u3 u4
   obtain ⟨wp, hwp⟩ : ∃ wp : World, wp = wr := ⟨_, rfl⟩
   subst hwp
   rcases HPu with HPu | HPu
   ·go_wp2_with (first
     | (go_at_call 12; (with_reducible refine HPu.out.mono ?_); rintro e w4 ⟨A4, c4, rfl, h4, b4⟩; obtain ⟨L4, l4, r4⟩ := h4.out; have o4 := own_kept HI.out.1 b4; have bb4 := HI.out.2.trans (b4.mono HI.out.2.size))
     | (at_builtin; refine append_rb (B := w2.heap.size) (w0 := w2) (k := q1 + 64) rfl (.tmp 45) (.tmp 46) rfl rfl o4 bb4 (Nat.le_refl _) rfl r4 l4.symm (by omega) rfl ?_; intro A5 c5 w5 ho5 hb5))
    go_roundw
    case rel => exact ⟨i + 1, q1 + 64, c5, A5, by omega, by omega, rfl, by go_num, by show _ = _; have := HQ.out; omega, _, ⟨ho5, hb5⟩, by have := HXq.out; simp only [List.length_append]; omega⟩
    case measure => simp [intOf]; omega
   ·go_wp2_with (first
     | (go_at_call 12; (with_reducible refine HPu.out.mono ?_); rintro e w4 ⟨rfl, b4⟩; have o4 := own_kept HI.out.1 b4; have bb4 := HI.out.2.trans (b4.mono HI.out.2.size))
     | (refine make_own rfl 64 (.const (.int .i64 64)) (.const (.int .i64 64)) rfl rfl rfl (by omega) ?_; intro w5 ho5 hb5; have r5 := own_rb ho5; have o5 := own_kept o4 hb5; have bb5 := bb4.trans (hb5.mono bb4.size))
     | (at_builtin; refine append_rb (B := w2.heap.size) (w0 := w2) (k := q1 + 64) rfl (.tmp 45) (.tmp 46) rfl rfl o5 bb5 (Nat.le_refl _) rfl r5 (by simp) (by omega) rfl ?_; intro A6 c6 w6 ho6 hb6))
    go_roundw
    case rel => exact ⟨i + 1, q1 + 64, c6, A6, by omega, by omega, rfl, by go_num, by show _ = _; have := HQ.out; omega, _, ⟨ho6, hb6⟩, by have := HXq.out; simp only [List.length_append, List.length_replicate]; omega⟩
    case measure => simp [intOf]; omega
  ·have d6 : decide ((i : Int) < (nD : Int)) = false := decide_eq_false (by omega)
   have d7 : decide (i < nD) = false := decide_eq_false hlt
   have HbX : Hid (RB wr wr.heap.size A1 X) := by
    have h1 := HI.out.1
    rw [← HXq.out] at h1
    exact own_rb (L := X) h1
   have HBr : Hid (Below w.heap.size w wr) := chain7 HB2.out HI.out.2
   have HX2 : Hid (Below w2.heap.size w2 wr) := HI.out.2
   obtain ⟨z0, rfl⟩ : ∃ z0 : World, z0 = wr := ⟨_, rfl⟩
   clear u1 u2 u3 u4 HI HB2 HBx HSL HnD HQ
   go_wp2_with (first
    | (refine make_own rfl 512 (.const (.int .i64 512)) (.const (.int .i64 512)) rfl rfl rfl (by omega) ?_; intro w3 o3 b3; have o3s : w3.ownsRow z0.heap.size 5 1 (.slice (some ⟨z0.heap.size, 0, none⟩) 512 512) 512 (cells (List.replicate 512 0)) := (by have h := o3; unfold Own at h; rwa [List.length_replicate] at h); have r3 := rb_up7 HbX.out b3)
    | (at_builtin; refine append_rb (B := z0.heap.size) (w0 := z0) (k := 512 + q1) rfl (.tmp 48) (.tmp 49) rfl rfl o3s b3 (Nat.le_refl _) rfl r3 HXq.out.symm (by omega) rfl ?_; intro A4 c4 w4 ho4 hb4)
    | (at_builtin; refine wpList_append_make _ rfl (.tmp 51) (.const (.int .i64 4096)) 39 3 rfl z0.heap.size 5 i0 _ 1 1 .i64 Tryz.underlying39 Tryz.underlying3 hi0 hz0 hz1 hz2 rfl (by omega) (.slice A4 (512 + q1) c4) (512 + q1) (cells (List.replicate 512 0 ++ X)) rfl ho4 4096 rfl (cells (List.replicate 4096 0)) (zero_bytes 4096) (cells_one _) (by simp only [maxLen]; omega) (by omega) hb4.size ?_; intro v5 w5 ho5 hg5 hat5; obtain ⟨A5, c5, rfl⟩ := own_form ho5; have b5 := hb4.grown hg5 hb4.size (fun j hj => (ho4.lt j hj).1); obtain ⟨g5, rfl, _, _, hc5, hm5⟩ := own_first ho5 (by omega); have s5 := sl_to g5 0 (512 + q1 + 4096) c5 4096 4096 rfl (by omega) (by omega); have HZ := image_bytes ho5 HXq.out; obtain ⟨Z, hZ1, hZ2⟩ := HZ.out)
    | (go_at_call 13; (with_reducible refine (HLp.out _ Z _ c5 hZ1 hZ2).mono ?_); rintro e w6 ⟨g, F0, rfl, hG⟩; have rZ := rb_up7 hZ2 hG.2.1)
    | (go_at_call 14; (with_reducible refine (HLr.out _ Z _ c5 hZ1 rZ (by omega) hm5).mono ?_); rintro e w7 ⟨q, G0, B0, rfl, hR⟩; have hT0 := Lib.hid (Two.gives (chain7 HBr.out b5) hG hR); have hM := Lib.hid (Bo.made hT0.out hT0.out.r.blt); have hK : Hid (Blk (w7.alloc (.cells #[.pointer (some ⟨g, 0, none⟩), .pointer none, .pointer (some ⟨q, 0, none⟩), .pointer none] 36)) w7.heap.size 36 (worldC g q none none)) := Blk.new w7 _ _; have hOp := Lib.hid (HOp.out _ _ _ _ _ _ _ _ Z hZ1 hM.out hK.out); obtain ⟨_, t1, t2, t3, t4⟩ := HAr.out (w7.alloc (.cells #[.pointer (some ⟨g, 0, none⟩), .pointer none, .pointer (some ⟨q, 0, none⟩), .pointer none] 36)) ((chain7 (chain7 (chain7 HX2.out b5) hG.2.1) hR.2.1).alloc (by have h1 := HX2.out.size; have h2 := b5.size; have h3 := hG.2.1.size; have h4 := hR.2.1.size; omega) _))
    | (go_at_call 9; (with_reducible refine hOp.out.mono ?_); rintro e w8 ⟨rfl, hL5⟩)
    | (go_at_call 10; (with_reducible refine (HAl.out _ _ _ _ 0 (by omega) hL5.out).mono ?_); rintro e w9 ⟨rfl, hL6⟩))
   obtain ⟨gw, hgw⟩ : ∃ k, k = w7.heap.size := ⟨_, rfl⟩
   rw [← hgw] at hL6
   rw [← hgw]
   clear hgw hOp hK hM hT0 hL5 hG hR t1 t2 t3 t4 HX2 HBr HAr HbX HXq
   go_loopw [15] (fun x wr => ∃ i : Nat, i ≤ n ∧ x = .int .i64 (i : Int) ∧ Hid (LoopW w wr gw g q i)) (fun x _ => n - (intOf x).toNat)
   case atStart => exact ⟨0, by omega, rfl, hL6.out⟩
   case round =>
    clear hL6
    obtain ⟨i, hi, rfl, hH⟩ := hrel
    by_cases hlt : i < n
    ·have hi2 : i < l.length := by have := Hn.out; omega
     obtain ⟨b, off, rfl, hbb, hcc⟩ := HD.out (by omega)
     obtain ⟨dA, dc, mA, mc, hV, k0, k1, k2, k3, k4⟩ := hcc i hi2
     obtain ⟨kd, hkd⟩ : ∃ x, x = l[i].kind := ⟨_, rfl⟩
     obtain ⟨nn, hnn⟩ : ∃ x, x = l[i].n := ⟨_, rfl⟩
     obtain ⟨mm, hmm⟩ : ∃ x, x = l[i].m := ⟨_, rfl⟩
     obtain ⟨dl, hdl⟩ : ∃ x, x = l[i].data.length := ⟨_, rfl⟩
     obtain ⟨ml, hml⟩ : ∃ x, x = l[i].masks.length := ⟨_, rfl⟩
     have HDo : Hid (Calls Tryz.prog 11 #[.pointer (some ⟨gw, 0, none⟩), .agg #[.int .i64 kd, .int .i64 nn, .int .i64 mm, .slice dA dl dc, .slice mA ml mc]] wr fun e w' => e = .returned (.bool true) ∧ Hid (LoopW w w' gw g q (i + 1))) := by
      obtain ⟨d, lo, h1, h2, h3⟩ := hH.out
      have h5 := ldo_any h1 l[i] dA mA dc mc hV (H20.out.2 i hi2) (by omega) h3
      unfold wxC at h5
      rw [← hkd, ← hnn, ← hmm, ← hdl, ← hml] at h5
      refine h5.mono fun e w' hh => ⟨hh.1, ?_⟩
      obtain ⟨d', lo', h6, h7⟩ := hh.2
      exact ⟨d', lo', h6, by have := h7.2; omega, h7.1.trans h3⟩
     have hbl : Below w.heap.size w wr := by
      obtain ⟨d, lo, ⟨F, E, G, B, pl, rl, h6, _⟩, _⟩ := hH.out
      exact h6.two.p.below
     have v0 : wr.cell? ⟨b, off + i * 5, none⟩ = some (.int .i64 kd) := (hbl.cell (p := ⟨b, off + i * 5, none⟩) hbb).trans (by rw [hkd]; exact k0)
     have v1 : wr.cell? ⟨b, off + i * 5 + 1, none⟩ = some (.int .i64 nn) := (hbl.cell (p := ⟨b, off + i * 5 + 1, none⟩) hbb).trans (by rw [hnn]; exact k1)
     have v2 : wr.cell? ⟨b, off + i * 5 + 2, none⟩ = some (.int .i64 mm) := (hbl.cell (p := ⟨b, off + i * 5 + 2, none⟩) hbb).trans (by rw [hmm]; exact k2)
     have v3 : wr.cell? ⟨b, off + i * 5 + 3, none⟩ = some (.slice dA dl dc) := (hbl.cell (p := ⟨b, off + i * 5 + 3, none⟩) hbb).trans (by rw [hdl]; exact k3)
     have v4 : wr.cell? ⟨b, off + i * 5 + 4, none⟩ = some (.slice mA ml mc) := (hbl.cell (p := ⟨b, off + i * 5 + 4, none⟩) hbb).trans (by rw [hml]; exact k4)
     have d0 : decide ((i : Int) < (n : Int)) = true := decide_eq_true (by omega)
     have d1 : decide (i < n) = true := decide_eq_true hlt
     have y7 : IntKind.i64.wrap ((i : Int) + 1) = (i : Int) + 1 := IntWalk.i64_in _ (by omega)
     clear hcc k0 k1 k2 k3 k4 hV hkd hnn hmm hdl hml hbb hbl
     go_wp2_with (first
      | (go_at_call 11; (with_reducible refine HDo.out.mono ?_); rintro e w1 ⟨rfl, hL1⟩)
      | (go_at_call 10; (with_reducible refine (HAl.out _ _ _ _ (i + 1) (by omega) hL1.out).mono ?_); rintro e w2 ⟨rfl, hL2⟩))
     go_roundw
     case rel => exact ⟨i + 1, by omega, by go_num, hL2.out⟩
     case measure => simp [intOf]; omega
    ·have d0 : decide ((i : Int) < (n : Int)) = false := decide_eq_false (by omega)
     have d1 : decide (i < n) = false := decide_eq_false hlt
     have HBl : Hid (Below w.heap.size w wr) := by
      obtain ⟨d, lo, ⟨F, E, G, B, pl, rl, h6, _⟩, _⟩ := hH.out
      exact h6.two.p.below
     go_wp2_with (first
      | (go_at_call 6; (with_reducible refine (HAw.out _).mono ?_); rintro e w3 ⟨rfl, hb3⟩))
     go_ret
     exact ⟨rfl, chain7 HBl.out hb3⟩
theorem wopens_any (D : List Sd) (AD : Option Addr) (cD : Nat) (f0 b0 l0 m0 : Int) (hi : (InI f0 ∧ InI b0) ∧ InI l0 ∧ InI m0) (l : List Wx) (A : Option Addr) (c : Nat) (w : World) (hS : SL w w.heap.size AD D) (hD : DL13 w w.heap.size A l) :
  Calls Tryz.prog 4 #[.agg #[.slice AD D.length cD, .int .i64 f0, .int .i64 b0, .int .i64 l0, .int .i64 m0], .slice A l.length c] w fun e w' => e = .returned (.bool true) ∧ Below w.heap.size w w' := by
 by_cases h40 : D.length ≤ 40
 ·cases hf : fewW l with
  | false => exact wopens_out D AD _ cD f0 b0 l0 m0 l A _ c w hD rfl (.inr ⟨h40, hf⟩)
  | true => exact wopens_in D AD _ cD f0 b0 l0 m0 hi l A _ c w hS rfl h40 hD rfl hf
 ·exact wopens_out D AD _ cD f0 b0 l0 m0 l A _ c w hD rfl (.inl (by omega))
theorem wopens_lifted (os : Os) (started : os.Started) (H : Type) (enc : TypeId × Value → H) :
  ReturnsInHanded {} Tryz.checked os 4 .any (Rows.walOpensSpec.pre6 enc Tryz.prog Tryz.f4 Rows.walOpensRow.domain false) (Rows.walOpensSpec.post enc Tryz.prog Tryz.f4 false true false false) := by
 refine returnsInHanded_of_change_sized (C := Tryz.checked) Tryz.own started (by kernel_rfl) Tryz.func4
  (ChangeSpec.witness6 (enc := enc) (C := Tryz.checked) false ⟨#[], #[.agg #[.slice none 0 0, .int .i64 0, .int .i64 0, .int .i64 0, .int .i64 0], .slice none 0 0], []⟩ 8 (by kernel_rfl) (by kernel_rfl) (by kernel_rfl) (by kernel_rfl)) ?_
 intro W base args ds gs before hval0 hW hcnd hsz0 _
 have hval : ∀ (j : Nat) t v, Tryz.f4.params[j]? = some t → args[j]? = some v → Value.okWide Tryz.prog W .any base t v := hval0
 have hW' : DataW.Whole enc Tryz.prog Tryz.f4.params.toList Rows.walOpensSpec.vars false W args.toList ds gs before := hW
 have hWk := hW'
 clear hsz0 hval0
 obtain ⟨p, q, hA, hV, rfl, hfz, hnd⟩ := hW'
 rw [Tryz.params4] at hA hval
 obtain ⟨v0, v1, d0, d1, p0, p1, rfl, rfl, rfl, h0, h1⟩ := trodAll_two hA
 obtain ⟨rfl, rfl⟩ := trodVars_none hV
 obtain ⟨AD, D, cD, f0, b0, l0, m0, rfl, hS, _, _, hi⟩ := open_area (hval 0 45 v0 rfl rfl) h0
 obtain ⟨A, L, c, rfl, hD, _, _⟩ := open_dl13 (hval 1 22 v1 rfl rfl) h1
 refine (wopens_any D AD cD f0 b0 l0 m0 hi L A c W hS hD).mono fun e W' ⟨he, hb⟩ => ⟨_, he, ?_⟩
 exact law_post Tryz.laidOut hWk rfl rfl rfl rfl rfl Tryz.underlying4 (by kernel_rfl) hb
theorem wopens_holds : Rows.WalOpensSaid :=
 OpenClaim.holds_of_wide 4 Tryz.f4 rfl rfl rfl rfl rfl rfl rfl ⟨rfl, rfl, rfl, rfl, rfl⟩ rfl rfl rfl rfl rfl (by kernel_rfl) Tryz.func4 (by kernel_rfl)
  (of_decide_eq_true (by kernel_rfl)) (by unfold Func.isWrapper; first | (rw [if_pos (by decide +kernel)]; kernel_rfl) | (rw [if_neg (by decide +kernel)]; exact ⟨rfl, rfl⟩))
  (fun os started H enc _ => wopens_lifted os started H enc)
end Go.Proofs.YtghenhacndaelaaGreat
