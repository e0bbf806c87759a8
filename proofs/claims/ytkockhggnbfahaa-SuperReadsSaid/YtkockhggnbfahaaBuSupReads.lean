/- SuperReads returns true for whatever slots, deeds and super, and leaves memory that was there as it was; nothing else is assumed beyond the statement itself. -/
import Derived.Test.YtkockhggnbfahaaBu38
import Derived.Test.YtkockhggnbfahaaBu28
import Derived.Test.YtkockhggnbfahaaBu37
import Derived.Test.YtkockhggnbfahaaBu14
import Derived.Test.YtkockhggnbfahaaBuSupWhole
set_option linter.unusedVariables false
namespace Go.Proofs.Ytkockhggnbfahaa
open Go.ChangeShapes Go.WideShapes Go.ChangeAt Go.RowKit
theorem Try.aggSlots (w : World) : (isAgg 40).run Try.prog w = .ok true w := by kernel_rfl
theorem Try.sizeSlots (w : World) : (sizeOf 40).run Try.prog w = .ok 20 w := by kernel_rfl
theorem dv_up8 {w w' : World} {x : Dd} {dA mA : Option Addr} {dc mc : Nat} (h : DV w x dA dc mA mc) (hb : Below w.heap.size w w') : DV w' x dA dc mA mc :=
  ⟨(h.rb.below hb).more hb.size, fun h0 => by
    obtain ⟨b, off, e', hlt, hc⟩ := h.ri h0
    exact ⟨b, off, e', Nat.lt_of_lt_of_le hlt hb.size, fun k hk => (hb.cell (p := ⟨b, off + k, none⟩) hlt).trans (hc k hk)⟩, h.dlen, h.kin, h.nin⟩
theorem range6 {w : World} {b : Nat} {v0 v1 v2 v3 v4 v5 : Value} (h0 : w.cell? ⟨b, 0, none⟩ = some v0) (h1 : w.cell? ⟨b, 1, none⟩ = some v1) (h2 : w.cell? ⟨b, 2, none⟩ = some v2) (h3 : w.cell? ⟨b, 3, none⟩ = some v3) (h4 : w.cell? ⟨b, 4, none⟩ = some v4) (h5 : w.cell? ⟨b, 5, none⟩ = some v5) : w.rangeAt b 0 [v0, v1, v2, v3, v4, v5] := by
  intro j v hj
  match j with
  | 0 => simp at hj; rw [← hj]; exact h0
  | 1 => simp at hj; rw [← hj]; exact h1
  | 2 => simp at hj; rw [← hj]; exact h2
  | 3 => simp at hj; rw [← hj]; exact h3
  | 4 => simp at hj; rw [← hj]; exact h4
  | 5 => simp at hj; rw [← hj]; exact h5
  | j + 6 => simp at hj
set_option maxRecDepth 100000 in
set_option maxHeartbeats 8000000 in
theorem reads_out (s0 s1 : Pu) (xq0 xq1 : UInt8) (hq0 hq1 : Bool) (aq0 aq1 tq0 tq1 : UInt8) (l : List Dd) (A : Option Addr) (n c : Nat) (s : Pu) (w : World) (hD : DL w w.heap.size A l) (hn : n = l.length) (h : fewL l = false) :
    Calls Try.prog 5 #[.agg #[.int .i64 s0.gen, .int .i64 s0.blocks, .int .i64 s0.log, .int .i64 s0.first, .int .i64 s0.size, .int .i64 s0.owner, .int .i64 s1.gen, .int .i64 s1.blocks, .int .i64 s1.log, .int .i64 s1.first, .int .i64 s1.size, .int .i64 s1.owner, .int .u8 (xq0.toNat : Int), .int .u8 (xq1.toNat : Int), .bool hq0, .bool hq1, .int .u8 (aq0.toNat : Int), .int .u8 (aq1.toNat : Int), .int .u8 (tq0.toNat : Int), .int .u8 (tq1.toNat : Int)], .slice A n c, .agg #[.int .i64 s.gen, .int .i64 s.blocks, .int .i64 s.log, .int .i64 s.first, .int .i64 s.size, .int .i64 s.owner]] w fun e w' => e = .returned (.bool true) ∧ Below w.heap.size w w' := by
  have HBo : Hid (Below w.heap.size w ((w.alloc (.cells #[.int .i64 s0.gen, .int .i64 s0.blocks, .int .i64 s0.log, .int .i64 s0.first, .int .i64 s0.size, .int .i64 s0.owner, .int .i64 s1.gen, .int .i64 s1.blocks, .int .i64 s1.log, .int .i64 s1.first, .int .i64 s1.size, .int .i64 s1.owner, .int .u8 (xq0.toNat : Int), .int .u8 (xq1.toNat : Int), .bool hq0, .bool hq1, .int .u8 (aq0.toNat : Int), .int .u8 (aq1.toNat : Int), .int .u8 (tq0.toNat : Int), .int .u8 (tq1.toNat : Int)] 40)).alloc (.cells #[.int .i64 s.gen, .int .i64 s.blocks, .int .i64 s.log, .int .i64 s.first, .int .i64 s.size, .int .i64 s.owner] 25))) := ((Below.refl _ _).alloc (Nat.le_refl _) _).alloc (by simp) _
  have HF : Hid (Calls Try.prog 13 #[.slice A n c] ((w.alloc (.cells #[.int .i64 s0.gen, .int .i64 s0.blocks, .int .i64 s0.log, .int .i64 s0.first, .int .i64 s0.size, .int .i64 s0.owner, .int .i64 s1.gen, .int .i64 s1.blocks, .int .i64 s1.log, .int .i64 s1.first, .int .i64 s1.size, .int .i64 s1.owner, .int .u8 (xq0.toNat : Int), .int .u8 (xq1.toNat : Int), .bool hq0, .bool hq1, .int .u8 (aq0.toNat : Int), .int .u8 (aq1.toNat : Int), .int .u8 (tq0.toNat : Int), .int .u8 (tq1.toNat : Int)] 40)).alloc (.cells #[.int .i64 s.gen, .int .i64 s.blocks, .int .i64 s.log, .int .i64 s.first, .int .i64 s.size, .int .i64 s.owner] 25)) fun e w' => e = .returned (.bool (fewL l)) ∧ Below ((w.alloc (.cells #[.int .i64 s0.gen, .int .i64 s0.blocks, .int .i64 s0.log, .int .i64 s0.first, .int .i64 s0.size, .int .i64 s0.owner, .int .i64 s1.gen, .int .i64 s1.blocks, .int .i64 s1.log, .int .i64 s1.first, .int .i64 s1.size, .int .i64 s1.owner, .int .u8 (xq0.toNat : Int), .int .u8 (xq1.toNat : Int), .bool hq0, .bool hq1, .int .u8 (aq0.toNat : Int), .int .u8 (aq1.toNat : Int), .int .u8 (tq0.toNat : Int), .int .u8 (tq1.toNat : Int)] 40)).alloc (.cells #[.int .i64 s.gen, .int .i64 s.blocks, .int .i64 s.log, .int .i64 s.first, .int .i64 s.size, .int .i64 s.owner] 25)).heap.size ((w.alloc (.cells #[.int .i64 s0.gen, .int .i64 s0.blocks, .int .i64 s0.log, .int .i64 s0.first, .int .i64 s0.size, .int .i64 s0.owner, .int .i64 s1.gen, .int .i64 s1.blocks, .int .i64 s1.log, .int .i64 s1.first, .int .i64 s1.size, .int .i64 s1.owner, .int .u8 (xq0.toNat : Int), .int .u8 (xq1.toNat : Int), .bool hq0, .bool hq1, .int .u8 (aq0.toNat : Int), .int .u8 (aq1.toNat : Int), .int .u8 (tq0.toNat : Int), .int .u8 (tq1.toNat : Int)] 40)).alloc (.cells #[.int .i64 s.gen, .int .i64 s.blocks, .int .i64 s.log, .int .i64 s.first, .int .i64 s.size, .int .i64 s.owner] 25)) w') := few_any l A n c HBo.out hD hn
  have HAw := Lib.hid awake8_any
  rw [h] at HF
  clear hD hn h
  go_enter Try.func5, Try.ntmps5
  go_wp2_with (first
    | (go_at_call 13; (with_reducible refine HF.out.mono ?_); rintro e w1 ⟨rfl, hb1⟩)
    | (go_at_call 11; (with_reducible refine (HAw.out _).mono ?_); rintro e w9 ⟨rfl, hb9⟩))
  go_ret
  exact ⟨rfl, chain7 (HBo.out.trans (hb1.mono HBo.out.size)) hb9⟩
theorem slots_at (s0 s1 : Pu) (xq0 xq1 : UInt8) (hq0 hq1 : Bool) (aq0 aq1 tq0 tq1 : UInt8) (s : Pu) (w : World) : ∃ WA, WA = ((w.alloc (.cells #[.int .i64 s0.gen, .int .i64 s0.blocks, .int .i64 s0.log, .int .i64 s0.first, .int .i64 s0.size, .int .i64 s0.owner, .int .i64 s1.gen, .int .i64 s1.blocks, .int .i64 s1.log, .int .i64 s1.first, .int .i64 s1.size, .int .i64 s1.owner, .int .u8 (xq0.toNat : Int), .int .u8 (xq1.toNat : Int), .bool hq0, .bool hq1, .int .u8 (aq0.toNat : Int), .int .u8 (aq1.toNat : Int), .int .u8 (tq0.toNat : Int), .int .u8 (tq1.toNat : Int)] 40)).alloc (.cells #[.int .i64 s.gen, .int .i64 s.blocks, .int .i64 s.log, .int .i64 s.first, .int .i64 s.size, .int .i64 s.owner] 25)) ∧ Below w.heap.size w WA ∧ (∀ W, Below WA.heap.size WA W → Blk W w.heap.size 40 #[.int .i64 s0.gen, .int .i64 s0.blocks, .int .i64 s0.log, .int .i64 s0.first, .int .i64 s0.size, .int .i64 s0.owner, .int .i64 s1.gen, .int .i64 s1.blocks, .int .i64 s1.log, .int .i64 s1.first, .int .i64 s1.size, .int .i64 s1.owner, .int .u8 (xq0.toNat : Int), .int .u8 (xq1.toNat : Int), .bool hq0, .bool hq1, .int .u8 (aq0.toNat : Int), .int .u8 (aq1.toNat : Int), .int .u8 (tq0.toNat : Int), .int .u8 (tq1.toNat : Int)]) ∧ ∀ W, Below WA.heap.size WA W → W.cell? ⟨w.heap.size + 1, 0, none⟩ = some (.int .i64 s.gen) ∧ W.cell? ⟨w.heap.size + 1, 1, none⟩ = some (.int .i64 s.blocks) ∧ W.cell? ⟨w.heap.size + 1, 2, none⟩ = some (.int .i64 s.log) ∧ W.cell? ⟨w.heap.size + 1, 3, none⟩ = some (.int .i64 s.first) ∧ W.cell? ⟨w.heap.size + 1, 4, none⟩ = some (.int .i64 s.size) ∧ W.cell? ⟨w.heap.size + 1, 5, none⟩ = some (.int .i64 s.owner) := by
  refine ⟨_, rfl, ((Below.refl _ _).alloc (Nat.le_refl _) _).alloc (by simp) _, fun W hb => ?_, fun W hb => ?_⟩
  · exact ((Blk.new w 40 #[.int .i64 s0.gen, .int .i64 s0.blocks, .int .i64 s0.log, .int .i64 s0.first, .int .i64 s0.size, .int .i64 s0.owner, .int .i64 s1.gen, .int .i64 s1.blocks, .int .i64 s1.log, .int .i64 s1.first, .int .i64 s1.size, .int .i64 s1.owner, .int .u8 (xq0.toNat : Int), .int .u8 (xq1.toNat : Int), .bool hq0, .bool hq1, .int .u8 (aq0.toNat : Int), .int .u8 (aq1.toNat : Int), .int .u8 (tq0.toNat : Int), .int .u8 (tq1.toNat : Int)]).alloc (.cells #[.int .i64 s.gen, .int .i64 s.blocks, .int .i64 s.log, .int .i64 s.first, .int .i64 s.size, .int .i64 s.owner] 25)).below hb (by simp; omega)
  · have hbk := (Blk.new (w.alloc (.cells #[.int .i64 s0.gen, .int .i64 s0.blocks, .int .i64 s0.log, .int .i64 s0.first, .int .i64 s0.size, .int .i64 s0.owner, .int .i64 s1.gen, .int .i64 s1.blocks, .int .i64 s1.log, .int .i64 s1.first, .int .i64 s1.size, .int .i64 s1.owner, .int .u8 (xq0.toNat : Int), .int .u8 (xq1.toNat : Int), .bool hq0, .bool hq1, .int .u8 (aq0.toNat : Int), .int .u8 (aq1.toNat : Int), .int .u8 (tq0.toNat : Int), .int .u8 (tq1.toNat : Int)] 40)) 25 #[.int .i64 s.gen, .int .i64 s.blocks, .int .i64 s.log, .int .i64 s.first, .int .i64 s.size, .int .i64 s.owner])
    rw [show (w.alloc (.cells #[.int .i64 s0.gen, .int .i64 s0.blocks, .int .i64 s0.log, .int .i64 s0.first, .int .i64 s0.size, .int .i64 s0.owner, .int .i64 s1.gen, .int .i64 s1.blocks, .int .i64 s1.log, .int .i64 s1.first, .int .i64 s1.size, .int .i64 s1.owner, .int .u8 (xq0.toNat : Int), .int .u8 (xq1.toNat : Int), .bool hq0, .bool hq1, .int .u8 (aq0.toNat : Int), .int .u8 (aq1.toNat : Int), .int .u8 (tq0.toNat : Int), .int .u8 (tq1.toNat : Int)] 40)).heap.size = w.heap.size + 1 by simp] at hbk
    exact box_sup hbk hb
set_option maxRecDepth 100000 in
set_option maxHeartbeats 8000000 in
theorem reads_in (s0 s1 : Pu) (xq0 xq1 : UInt8) (hq0 hq1 : Bool) (aq0 aq1 tq0 tq1 : UInt8) (l : List Dd) (A : Option Addr) (n c : Nat) (s : Pu) (w : World) (hD : DL w w.heap.size A l) (hn : n = l.length) (hf : fewL l = true) :
    Calls Try.prog 5 #[.agg #[.int .i64 s0.gen, .int .i64 s0.blocks, .int .i64 s0.log, .int .i64 s0.first, .int .i64 s0.size, .int .i64 s0.owner, .int .i64 s1.gen, .int .i64 s1.blocks, .int .i64 s1.log, .int .i64 s1.first, .int .i64 s1.size, .int .i64 s1.owner, .int .u8 (xq0.toNat : Int), .int .u8 (xq1.toNat : Int), .bool hq0, .bool hq1, .int .u8 (aq0.toNat : Int), .int .u8 (aq1.toNat : Int), .int .u8 (tq0.toNat : Int), .int .u8 (tq1.toNat : Int)], .slice A n c, .agg #[.int .i64 s.gen, .int .i64 s.blocks, .int .i64 s.log, .int .i64 s.first, .int .i64 s.size, .int .i64 s.owner]] w fun e w' => e = .returned (.bool true) ∧ Below w.heap.size w w' := by
  obtain ⟨h40, h600⟩ := fewL_all hf
  have HAw := Lib.hid awake8_any
  obtain ⟨WA, hWA, hbA, hXA, hSA⟩ := slots_at s0 s1 xq0 xq1 hq0 hq1 aq0 aq1 tq0 tq1 s w
  have HBo := Lib.hid hbA
  have HX := Lib.hid hXA
  have HS := Lib.hid hSA
  have HF : Hid (Calls Try.prog 13 #[.slice A n c] ((w.alloc (.cells #[.int .i64 s0.gen, .int .i64 s0.blocks, .int .i64 s0.log, .int .i64 s0.first, .int .i64 s0.size, .int .i64 s0.owner, .int .i64 s1.gen, .int .i64 s1.blocks, .int .i64 s1.log, .int .i64 s1.first, .int .i64 s1.size, .int .i64 s1.owner, .int .u8 (xq0.toNat : Int), .int .u8 (xq1.toNat : Int), .bool hq0, .bool hq1, .int .u8 (aq0.toNat : Int), .int .u8 (aq1.toNat : Int), .int .u8 (tq0.toNat : Int), .int .u8 (tq1.toNat : Int)] 40)).alloc (.cells #[.int .i64 s.gen, .int .i64 s.blocks, .int .i64 s.log, .int .i64 s.first, .int .i64 s.size, .int .i64 s.owner] 25)) fun e w' => e = .returned (.bool true) ∧ Hid (Below WA.heap.size WA w')) := by
    rw [← hWA]
    have hfw := few_any l A n c hbA hD hn
    rw [hf] at hfw
    exact hfw
  clear hWA hbA hXA hSA
  have HIm : Hid (∀ W, Calls Try.prog 14 #[.agg #[.int .i64 s0.gen, .int .i64 s0.blocks, .int .i64 s0.log, .int .i64 s0.first, .int .i64 s0.size, .int .i64 s0.owner, .int .i64 s1.gen, .int .i64 s1.blocks, .int .i64 s1.log, .int .i64 s1.first, .int .i64 s1.size, .int .i64 s1.owner, .int .u8 (xq0.toNat : Int), .int .u8 (xq1.toNat : Int), .bool hq0, .bool hq1, .int .u8 (aq0.toNat : Int), .int .u8 (aq1.toNat : Int), .int .u8 (tq0.toNat : Int), .int .u8 (tq1.toNat : Int)]] W fun e w' => ∃ g, e = .returned (.slice (some ⟨g, 0, none⟩) 4096 4096) ∧ Hid (∃ L : List UInt8, L.length = 4096 ∧ RB w' w'.heap.size (some ⟨g, 0, none⟩) L) ∧ Below W.heap.size W w') := fun W => image_any8 s0 s1 xq0 xq1 hq0 hq1 aq0 aq1 tq0 tq1 W
  have HLd : Hid (∀ W gb (L : List UInt8), Hid (L.length = 4096) → Hid (RB W W.heap.size (some ⟨gb, 0, none⟩) L) → Calls Try.prog 15 #[.slice (some ⟨gb, 0, none⟩) 4096 4096] W fun e w' => ∃ g F, e = .returned (.tuple #[.pointer (some ⟨g, 0, none⟩), .int .i64 0]) ∧ Hid (GivesDisk (Dk.ofImage L) W w' g F)) := fun W gb L hL hr => by
    have h1 := load_any L (some ⟨gb, 0, none⟩) 4096 W hr.out (may_4096 hL.out)
    rw [hL.out] at h1
    exact h1
  have HRl : Hid (∀ W gb (L : List UInt8), Hid (L.length = 4096) → Hid (RB W W.heap.size (some ⟨gb, 0, none⟩) L) → Calls Try.prog 16 #[.slice (some ⟨gb, 0, none⟩) 4096 4096] W fun e w' => ∃ q G B, e = .returned (.tuple #[.pointer (some ⟨q, 0, none⟩), .int .i64 0]) ∧ Hid (GivesRef (Dk.ofImage L) W w' q G B)) := fun W gb L hL hr => rload_any L (some ⟨gb, 0, none⟩) 4096 4096 W hr.out hL.out.symm (Nat.le_refl _) (by omega) (may_4096 hL.out)
  have HD := Lib.hid hD
  have Hn := Lib.hid hn
  have H40 : Hid (l.length ≤ 40 ∧ ∀ i (hi : i < l.length), l[i].data.length ≤ 600) := ⟨h40, h600⟩
  have hn40 : n ≤ 40 := by omega
  have y1 := fun g w' => Try.dIsNil g w'
  have a25 := fun w' => Try.aggSup w'
  have s25 := fun w' => Try.sizeSup w'
  have a36 := fun w' => Try.agg36 w'
  have s36 := fun w' => Try.size36 w'
  have q25 := fun a b c d e f w' => Try.supEq a b c d e f w'
  clear hD hn hf h40 h600
  go_enter Try.func5, Try.ntmps5
  go_wp2_with (first
    | (go_at_call 13; (with_reducible refine HF.out.mono ?_); rintro e w1 ⟨rfl, hb1⟩; have hb1 := hb1.out; have hbx := HX.out _ hb1)
    | (refine wpList_load_yes (by go_simp) 40 (.tmp 3) rfl w.heap.size rfl 40 #[.int .i64 s0.gen, .int .i64 s0.blocks, .int .i64 s0.log, .int .i64 s0.first, .int .i64 s0.size, .int .i64 s0.owner, .int .i64 s1.gen, .int .i64 s1.blocks, .int .i64 s1.log, .int .i64 s1.first, .int .i64 s1.size, .int .i64 s1.owner, .int .u8 (xq0.toNat : Int), .int .u8 (xq1.toNat : Int), .bool hq0, .bool hq1, .int .u8 (aq0.toNat : Int), .int .u8 (aq1.toNat : Int), .int .u8 (tq0.toNat : Int), .int .u8 (tq1.toNat : Int)] (0, 0) _ hbx Try.underlying40 rfl (by kernel_rfl) ?_)
    | (go_at_call 14; (with_reducible refine (HIm.out _).mono ?_); rintro e w2 ⟨gb, rfl, hL, hb2⟩; obtain ⟨L, hLl, hLr⟩ := hL.out; have hLl := Lib.hid hLl; have hLr := Lib.hid hLr; have b2 := hb1.trans (hb2.mono hb1.size))
    | (go_at_call 15; (with_reducible refine (HLd.out _ _ L hLl hLr).mono ?_); rintro e w3 ⟨g, F0, rfl, hG⟩; have hLr3 := Lib.hid (rb_up7 hLr.out hG.out.2.1))
    | (go_at_call 16; (with_reducible refine (HRl.out _ _ L hLl hLr3).mono ?_); rintro e w4 ⟨q, G0, B0, rfl, hR⟩; have hT0 : Hid (Two [] WA w4 g F0 (Dk.ofImage L) q G0 B0 (Dk.ofImage L)) := Two.gives b2 hG.out hR.out))
  have HPl : Hid (∀ i, i ≤ l.length → (playsD (Dk.ofImage L) l i).load ≤ 80) := fun i hi => by
    have := plays_load (Dk.ofImage L) l i hi
    have h0 : (Dk.ofImage L).load = 0 := rfl
    have := H40.out.1
    omega
  have hb1 := Lib.hid b2
  clear hbx hL hb2 b2
  go_loopw [12] (fun v wr => ∃ i : Nat, i ≤ n ∧ v = .int .i64 (i : Int) ∧ Hid (Did [] WA g q (playsD (Dk.ofImage L) l i) wr)) (fun v _ => n - (intOf v).toNat)
  case atStart => exact ⟨0, by omega, rfl, F0, G0, B0, hT0.out⟩
  case round =>
    clear hT0 hG hR
    obtain ⟨i, hi, rfl, hH⟩ := hrel
    by_cases hlt : i < n
    · have hi2 : i < l.length := by have := Hn.out; omega
      obtain ⟨b, off, rfl, hbb, hcc⟩ := HD.out (by omega)
      obtain ⟨dA, dc, mA, mc, hV, k0, k1, k2, k3, k4⟩ := hcc i hi2
      obtain ⟨F, G, B, hT⟩ := hH.out
      obtain ⟨kd, hkd⟩ : ∃ x, x = l[i].kind := ⟨_, rfl⟩
      obtain ⟨nn, hnn⟩ : ∃ x, x = l[i].n := ⟨_, rfl⟩
      obtain ⟨dl, hdl⟩ : ∃ x, x = l[i].data.length := ⟨_, rfl⟩
      obtain ⟨od, hod⟩ : ∃ x, x = l[i].odd := ⟨_, rfl⟩
      obtain ⟨ml, hml⟩ : ∃ x, x = l[i].masks.length := ⟨_, rfl⟩
      have hVB := dv_up8 hV HBo.out
      have HDo : Hid (Calls Try.prog 17 #[.pointer (some ⟨g, 0, none⟩), .pointer (some ⟨q, 0, none⟩), .agg #[.int .i64 kd, .int .i64 nn, .slice dA dl dc, .bool od, .slice mA ml mc]] wr fun e w' => e = .returned (.bool true) ∧ Hid (Did [] WA g q (playsD (Dk.ofImage L) l (i + 1)) w')) := by
        rw [hkd, hnn, hdl, hod, hml, plays_succ _ l i hi2]
        exact do_any hT (by have := HPl.out i (by omega); omega) l[i] dA mA dc mc hVB (by have := H40.out.2 i hi2; omega)
      have hbW : Below w.heap.size w wr := HBo.out.trans (hT.p.below.mono HBo.out.size)
      have v0 : wr.cell? ⟨b, off + i * 5, none⟩ = some (.int .i64 kd) := by rw [hkd]; exact (hbW.cell (p := ⟨b, off + i * 5, none⟩) hbb).trans k0
      have v1 : wr.cell? ⟨b, off + i * 5 + 1, none⟩ = some (.int .i64 nn) := by rw [hnn]; exact (hbW.cell (p := ⟨b, off + i * 5 + 1, none⟩) hbb).trans k1
      have v2 : wr.cell? ⟨b, off + i * 5 + 2, none⟩ = some (.slice dA dl dc) := by rw [hdl]; exact (hbW.cell (p := ⟨b, off + i * 5 + 2, none⟩) hbb).trans k2
      have v3 : wr.cell? ⟨b, off + i * 5 + 3, none⟩ = some (.bool od) := by rw [hod]; exact (hbW.cell (p := ⟨b, off + i * 5 + 3, none⟩) hbb).trans k3
      have v4 : wr.cell? ⟨b, off + i * 5 + 4, none⟩ = some (.slice mA ml mc) := by rw [hml]; exact (hbW.cell (p := ⟨b, off + i * 5 + 4, none⟩) hbb).trans k4
      have d0 : decide ((i : Int) < (n : Int)) = true := decide_eq_true (by omega)
      have d1 : decide (i < n) = true := decide_eq_true hlt
      have z7 : IntKind.i64.wrap ((i : Int) + 1) = (i : Int) + 1 := IntWalk.i64_in _ (by omega)
      clear hcc k0 k1 k2 k3 k4 hV hVB hkd hnn hdl hod hml hbb hT hH hbW
      go_wp2_with (first
        | (go_at_call 17; (with_reducible refine HDo.out.mono ?_); rintro e w5 ⟨rfl, hd5⟩))
      refine ⟨⟨i + 1, by omega, by go_num, hd5⟩, ?_⟩
      simp [intOf]; omega
    · obtain rfl : i = n := by omega
      have d0 : decide ((i : Int) < (i : Int)) = false := decide_eq_false (by omega)
      have d1 : decide (i < i) = false := decide_eq_false (by omega)
      have hload : (playsD (Dk.ofImage L) l i).load ≤ 80 := HPl.out i (by rw [Hn.out]; exact Nat.le_refl _)
      obtain ⟨D, hDD⟩ : ∃ D, D = playsD (Dk.ofImage L) l i := ⟨_, rfl⟩
      rw [← hDD] at hH hload
      have t0 : Hid (TwoV WA wr g q D D []) := by
        obtain ⟨F, G, B, hT⟩ := hH.out
        exact ⟨F, G, B, hT, fun v hv => by cases hv⟩
      obtain ⟨D1, hD1⟩ : ∃ x, x = (readU D).1 := ⟨_, rfl⟩
      obtain ⟨u1, hu1⟩ : ∃ x, x = (readU D).2.1 := ⟨_, rfl⟩
      obtain ⟨z1, hz1⟩ : ∃ x, x = (readU D).2.2 := ⟨_, rfl⟩
      have hl1 : D1.load ≤ 82 := by rw [hD1]; have := readU_load8 D; omega
      obtain ⟨D2, hD2⟩ : ∃ x, x = (writeU D1 s).1 := ⟨_, rfl⟩
      obtain ⟨z2, hz2⟩ : ∃ x, x = (writeU D1 s).2 := ⟨_, rfl⟩
      have hl2 : D2.load ≤ 86 := by rw [hD2]; have := writeU_load8 D1 s; omega
      obtain ⟨D3, hD3⟩ : ∃ x, x = (readU D2).1 := ⟨_, rfl⟩
      obtain ⟨u3, hu3⟩ : ∃ x, x = (readU D2).2.1 := ⟨_, rfl⟩
      obtain ⟨z3, hz3⟩ : ∃ x, x = (readU D2).2.2 := ⟨_, rfl⟩
      have hl3 : D3.load ≤ 88 := by rw [hD3]; have := readU_load8 D2; omega
      have HR1 : Hid (∀ W vs, Hid (TwoV WA W g q D D vs) → Calls Try.prog 18 #[.pointer (some ⟨g, 0, none⟩)] W fun e w' => e = .returned (.tuple #[.agg #[.int .i64 u1.gen, .int .i64 u1.blocks, .int .i64 u1.log, .int .i64 u1.first, .int .i64 u1.size, .int .i64 u1.owner], .int .i64 z1]) ∧ Hid (TwoV WA w' g q D1 D vs)) := fun W vs h => by
        have h1 := tw_read (by omega) h.out
        rw [← hD1, ← hu1, ← hz1] at h1
        exact h1
      have HQ1 : Hid (∀ W vs, Hid (TwoV WA W g q D1 D vs) → Calls Try.prog 19 #[.pointer (some ⟨q, 0, none⟩)] W fun e w' => e = .returned (.tuple #[.agg #[.int .i64 u1.gen, .int .i64 u1.blocks, .int .i64 u1.log, .int .i64 u1.first, .int .i64 u1.size, .int .i64 u1.owner], .int .i64 z1]) ∧ Hid (TwoV WA w' g q D1 D1 vs)) := fun W vs h => by
        have h1 := tw_rread (by omega) h.out
        rw [← hD1, ← hu1, ← hz1] at h1
        exact h1
      have HW : Hid (∀ W vs, Hid (TwoV WA W g q D1 D1 vs) → Calls Try.prog 20 #[.pointer (some ⟨g, 0, none⟩), .agg #[.int .i64 s.gen, .int .i64 s.blocks, .int .i64 s.log, .int .i64 s.first, .int .i64 s.size, .int .i64 s.owner]] W fun e w' => e = .returned (.int .i64 z2) ∧ Hid (TwoV WA w' g q D2 D1 vs)) := fun W vs h => by
        have h1 := tw_write s (by omega) h.out
        rw [← hD2, ← hz2] at h1
        exact h1
      have HV : Hid (∀ W vs, Hid (TwoV WA W g q D2 D1 vs) → Calls Try.prog 21 #[.pointer (some ⟨q, 0, none⟩), .agg #[.int .i64 s.gen, .int .i64 s.blocks, .int .i64 s.log, .int .i64 s.first, .int .i64 s.size, .int .i64 s.owner]] W fun e w' => e = .returned (.int .i64 z2) ∧ Hid (TwoV WA w' g q D2 D2 vs)) := fun W vs h => by
        have h1 := tw_rwrite s (by omega) h.out
        rw [← hD2, ← hz2] at h1
        exact h1
      have HR2 : Hid (∀ W vs, Hid (TwoV WA W g q D2 D2 vs) → Calls Try.prog 18 #[.pointer (some ⟨g, 0, none⟩)] W fun e w' => e = .returned (.tuple #[.agg #[.int .i64 u3.gen, .int .i64 u3.blocks, .int .i64 u3.log, .int .i64 u3.first, .int .i64 u3.size, .int .i64 u3.owner], .int .i64 z3]) ∧ Hid (TwoV WA w' g q D3 D2 vs)) := fun W vs h => by
        have h1 := tw_read (by omega) h.out
        rw [← hD3, ← hu3, ← hz3] at h1
        exact h1
      have HQ2 : Hid (∀ W vs, Hid (TwoV WA W g q D3 D2 vs) → Calls Try.prog 19 #[.pointer (some ⟨q, 0, none⟩)] W fun e w' => e = .returned (.tuple #[.agg #[.int .i64 u3.gen, .int .i64 u3.blocks, .int .i64 u3.log, .int .i64 u3.first, .int .i64 u3.size, .int .i64 u3.owner], .int .i64 z3]) ∧ Hid (TwoV WA w' g q D3 D3 vs)) := fun W vs h => by
        have h1 := tw_rread (by omega) h.out
        rw [← hD3, ← hu3, ← hz3] at h1
        exact h1
      have HAl : Hid (∀ W vs, Hid (TwoV WA W g q D3 D3 vs) → Calls Try.prog 22 #[.pointer (some ⟨g, 0, none⟩), .pointer (some ⟨q, 0, none⟩)] W fun e w' => e = .returned (.bool true) ∧ Below W.heap.size W w') := fun W vs h => tw_alike (by omega) h.out
      have HSr : Hid (∀ W, Below WA.heap.size WA W → W.rangeAt (w.heap.size + 1) 0 [.int .i64 s.gen, .int .i64 s.blocks, .int .i64 s.log, .int .i64 s.first, .int .i64 s.size, .int .i64 s.owner]) := fun W hb => by
        obtain ⟨x0, x1, x2, x3, x4, x5⟩ := HS.out W hb
        exact range6 x0 x1 x2 x3 x4 x5
      have e1 : (z1 == z1) = true := by simp
      have e2 : (z2 == z2) = true := by simp
      have e3 : (z3 == z3) = true := by simp
      clear hload hDD hD1 hu1 hz1 hl1 hD2 hz2 hl2 hD3 hu3 hz3 hl3 hH
      go_wp2_with (first
        | (go_at_call 18; (with_reducible refine (HR1.out _ _ t0).mono ?_); rintro e w5 ⟨rfl, t5⟩; have t5a : Hid (TwoV WA (w5.alloc (.cells #[.int .i64 u1.gen, .int .i64 u1.blocks, .int .i64 u1.log, .int .i64 u1.first, .int .i64 u1.size, .int .i64 u1.owner] 25)) g q D1 D [(w5.heap.size, u1)]) := t5.out.put u1 rfl)
        | (go_at_call 19; (with_reducible refine (HQ1.out _ _ t5a).mono ?_); rintro e w6 ⟨rfl, t6⟩; have t6a : Hid (TwoV WA (w6.alloc (.cells #[.int .i64 u1.gen, .int .i64 u1.blocks, .int .i64 u1.log, .int .i64 u1.first, .int .i64 u1.size, .int .i64 u1.owner] 25)) g q D1 D1 [(w6.heap.size, u1), (w5.heap.size, u1)]) := t6.out.put u1 rfl))
      have t6d : Hid (TwoV WA (w6.alloc (.cells #[.int .i64 u1.gen, .int .i64 u1.blocks, .int .i64 u1.log, .int .i64 u1.first, .int .i64 u1.size, .int .i64 u1.owner] 25)).drew g q D1 D1 [(w6.heap.size, u1), (w5.heap.size, u1)]) := t6a.out.more (Below.refl _ _).drew
      have hS0 := HSr.out _ t6d.out.below
      refine region_T (fun W => W.rangeAt (w.heap.size + 1) 0 [.int .i64 s.gen, .int .i64 s.blocks, .int .i64 s.log, .int .i64 s.first, .int .i64 s.size, .int .i64 s.owner]) (fun _ => false) (by kernel_rfl) ?_
      refine any_asT rfl (listed' := #[false, false, false, false, false, false, false, false]) (by kernel_rfl) ?_
      refine take_d (i := 0) (.pointer (some ⟨g, 0, none⟩)) 64 rfl (by kernel_rfl) (by kernel_rfl) (by kernel_rfl) (by kernel_rfl) rfl (by kernel_rfl) (by kernel_rfl) (fun W hW => by kernel_rfl) hS0 (fun _ _ _ h => h) ?_
      simp only [Act.put, List.setIfInBounds_toArray, List.set_cons_zero, List.set_cons_succ]
      refine take_d (i := 1) (.agg #[.int .i64 s.gen, .int .i64 s.blocks, .int .i64 s.log, .int .i64 s.first, .int .i64 s.size, .int .i64 s.owner]) 65 rfl (by kernel_rfl) (by kernel_rfl) (by kernel_rfl) (by kernel_rfl) rfl (by kernel_rfl) (by kernel_rfl) (fun W hW => load_run 25 (.tmp 5) (w.heap.size + 1) 0 [.int .i64 s.gen, .int .i64 s.blocks, .int .i64 s.log, .int .i64 s.first, .int .i64 s.size, .int .i64 s.owner] _ (by kernel_rfl) (by kernel_rfl) hW Try.underlying25 rfl (by kernel_rfl) #[.int .i64 s.gen, .int .i64 s.blocks, .int .i64 s.log, .int .i64 s.first, .int .i64 s.size, .int .i64 s.owner] rfl) hS0 (fun _ _ _ h => h) ?_
      simp only [Act.put, List.setIfInBounds_toArray, List.set_cons_zero, List.set_cons_succ]
      refine take_d (i := 3) (.pointer (some ⟨q, 0, none⟩)) 67 rfl (by kernel_rfl) (by kernel_rfl) (by kernel_rfl) (by kernel_rfl) rfl (by kernel_rfl) (by kernel_rfl) (fun W hW => by kernel_rfl) hS0 (fun _ _ _ h => h) ?_
      simp only [Act.put, List.setIfInBounds_toArray, List.set_cons_zero, List.set_cons_succ]
      refine take_d (i := 4) (.agg #[.int .i64 s.gen, .int .i64 s.blocks, .int .i64 s.log, .int .i64 s.first, .int .i64 s.size, .int .i64 s.owner]) 68 rfl (by kernel_rfl) (by kernel_rfl) (by kernel_rfl) (by kernel_rfl) rfl (by kernel_rfl) (by kernel_rfl) (fun W hW => load_run 25 (.tmp 5) (w.heap.size + 1) 0 [.int .i64 s.gen, .int .i64 s.blocks, .int .i64 s.log, .int .i64 s.first, .int .i64 s.size, .int .i64 s.owner] _ (by kernel_rfl) (by kernel_rfl) hW Try.underlying25 rfl (by kernel_rfl) #[.int .i64 s.gen, .int .i64 s.blocks, .int .i64 s.log, .int .i64 s.first, .int .i64 s.size, .int .i64 s.owner] rfl) hS0 (fun _ _ _ h => h) ?_
      simp only [Act.put, List.setIfInBounds_toArray, List.set_cons_zero, List.set_cons_succ]
      refine any_comes (i := 2) (by kernel_rfl) (op_enter 20 #[.pointer (some ⟨g, 0, none⟩), .agg #[.int .i64 s.gen, .int .i64 s.blocks, .int .i64 s.log, .int .i64 s.first, .int .i64 s.size, .int .i64 s.owner]] (some 66) rfl (by kernel_rfl) (by kernel_rfl) (by kernel_rfl) ((HW.out _ _ t6d).mono ?_))
      rintro e w7 ⟨rfl, t7⟩
      have hSw7 := HSr.out _ t7.out.below
      refine ⟨_, rfl, hSw7, ?_⟩
      simp only [Act.put, List.setIfInBounds_toArray, List.set_cons_zero, List.set_cons_succ]
      refine any_comes (i := 5) (by kernel_rfl) (op_enter 21 #[.pointer (some ⟨q, 0, none⟩), .agg #[.int .i64 s.gen, .int .i64 s.blocks, .int .i64 s.log, .int .i64 s.first, .int .i64 s.size, .int .i64 s.owner]] (some 69) rfl (by kernel_rfl) (by kernel_rfl) (by kernel_rfl) ((HV.out _ _ t7).mono ?_))
      rintro e w8 ⟨rfl, t8⟩
      have hSw8 := HSr.out _ t8.out.below
      refine ⟨_, rfl, hSw8, ?_⟩
      simp only [Act.put, List.setIfInBounds_toArray, List.set_cons_zero, List.set_cons_succ]
      refine any_comes (i := 6) (by kernel_rfl) (op_value (.int .i64 z2) rfl (by kernel_rfl) (by kernel_rfl) rfl ⟨hSw8, ?_⟩)
      simp only [Act.put, List.setIfInBounds_toArray, List.set_cons_zero, List.set_cons_succ]
      refine any_comes (i := 7) (by kernel_rfl) (op_value (.int .i64 z2) rfl (by kernel_rfl) (by kernel_rfl) rfl ⟨hSw8, ?_⟩)
      simp only [Act.put, List.setIfInBounds_toArray, List.set_cons_zero, List.set_cons_succ]
      refine ⟨by kernel_rfl, ?_⟩
      go_wp2_with (first
        | (go_at_call 18; (with_reducible refine (HR2.out _ _ t8).mono ?_); rintro e w9 ⟨rfl, t9⟩; have t9a : Hid (TwoV WA (w9.alloc (.cells #[.int .i64 u3.gen, .int .i64 u3.blocks, .int .i64 u3.log, .int .i64 u3.first, .int .i64 u3.size, .int .i64 u3.owner] 25)) g q D3 D2 [(w9.heap.size, u3), (w6.heap.size, u1), (w5.heap.size, u1)]) := t9.out.put u3 rfl)
        | (go_at_call 19; (with_reducible refine (HQ2.out _ _ t9a).mono ?_); rintro e w10 ⟨rfl, t10⟩; have t10a : Hid (TwoV WA (w10.alloc (.cells #[.int .i64 u3.gen, .int .i64 u3.blocks, .int .i64 u3.log, .int .i64 u3.first, .int .i64 u3.size, .int .i64 u3.owner] 25)) g q D3 D3 [(w10.heap.size, u3), (w9.heap.size, u3), (w6.heap.size, u1), (w5.heap.size, u1)]) := t10.out.put u3 rfl; obtain ⟨pa0, pa1, pa2, pa3, pa4, pa5⟩ := TwoV.var t10a.out (b := w5.heap.size) (s := u1) (by simp); obtain ⟨pb0, pb1, pb2, pb3, pb4, pb5⟩ := TwoV.var t10a.out (b := w6.heap.size) (s := u1) (by simp); obtain ⟨pc0, pc1, pc2, pc3, pc4, pc5⟩ := TwoV.var t10a.out (b := w9.heap.size) (s := u3) (by simp); obtain ⟨pd0, pd1, pd2, pd3, pd4, pd5⟩ := TwoV.var t10a.out (b := w10.heap.size) (s := u3) (by simp))
        | (go_at_call 22; (with_reducible refine (HAl.out _ _ t10a).mono ?_); rintro e w11 ⟨rfl, hb11⟩; have t11 := Lib.hid (t10a.out.more hb11))
        | (go_at_call 11; (with_reducible refine (HAw.out _).mono ?_); rintro e w12 ⟨rfl, hb12⟩))
      go_ret
      exact ⟨rfl, chain7 (HBo.out.trans (t11.out.below.mono HBo.out.size)) hb12⟩
theorem reads_any (s0 s1 : Pu) (xq0 xq1 : UInt8) (hq0 hq1 : Bool) (aq0 aq1 tq0 tq1 : UInt8) (l : List Dd) (A : Option Addr) (n c : Nat) (s : Pu) (w : World) (hD : DL w w.heap.size A l) (hn : n = l.length) :
    Calls Try.prog 5 #[.agg #[.int .i64 s0.gen, .int .i64 s0.blocks, .int .i64 s0.log, .int .i64 s0.first, .int .i64 s0.size, .int .i64 s0.owner, .int .i64 s1.gen, .int .i64 s1.blocks, .int .i64 s1.log, .int .i64 s1.first, .int .i64 s1.size, .int .i64 s1.owner, .int .u8 (xq0.toNat : Int), .int .u8 (xq1.toNat : Int), .bool hq0, .bool hq1, .int .u8 (aq0.toNat : Int), .int .u8 (aq1.toNat : Int), .int .u8 (tq0.toNat : Int), .int .u8 (tq1.toNat : Int)], .slice A n c, .agg #[.int .i64 s.gen, .int .i64 s.blocks, .int .i64 s.log, .int .i64 s.first, .int .i64 s.size, .int .i64 s.owner]] w fun e w' => e = .returned (.bool true) ∧ Below w.heap.size w w' := by
  cases hf : fewL l with
  | false => exact reads_out s0 s1 xq0 xq1 hq0 hq1 aq0 aq1 tq0 tq1 l A n c s w hD hn hf
  | true => exact reads_in s0 s1 xq0 xq1 hq0 hq1 aq0 aq1 tq0 tq1 l A n c s w hD hn hf
set_option maxRecDepth 100000 in
theorem reads_lifted (os : Os) (started : os.Started) (H : Type) (enc : TypeId × Value → H) :
    ReturnsInHanded {} Try.checked os 5 .any (Rows.superReadsSpec.pre6 enc Try.prog Try.f5 Rows.superReadsRow.domain false) (Rows.superReadsSpec.post enc Try.prog Try.f5 false true false false) := by
  refine returnsInHanded_of_change_sized (C := Try.checked) Try.own started (by kernel_rfl) Try.func5
    (ChangeSpec.witness6 (enc := enc) (C := Try.checked) false ⟨#[], #[.agg #[.int .i64 0, .int .i64 0, .int .i64 0, .int .i64 0, .int .i64 0, .int .i64 0, .int .i64 0, .int .i64 0, .int .i64 0, .int .i64 0, .int .i64 0, .int .i64 0, .int .u8 0, .int .u8 0, .bool false, .bool false, .int .u8 0, .int .u8 0, .int .u8 0, .int .u8 0], .slice none 0 0, .agg #[.int .i64 0, .int .i64 0, .int .i64 0, .int .i64 0, .int .i64 0, .int .i64 0]], []⟩ 8 (by kernel_rfl) (by kernel_rfl) (by kernel_rfl) (by kernel_rfl)) ?_
  intro W base args ds gs before hval0 hW hcnd hsz0 _
  have hval : ∀ (j : Nat) t v, Try.f5.params[j]? = some t → args[j]? = some v → Value.okWide Try.prog W .any base t v := hval0
  have hW' : DataW.Whole enc Try.prog Try.f5.params.toList Rows.superReadsSpec.vars false W args.toList ds gs before := hW
  have hWk := hW'
  clear hsz0 hval0
  obtain ⟨p, q, hA, hV, rfl, hfz, hnd⟩ := hW'
  rw [Try.params5] at hA hval
  obtain ⟨v0, v1, v2, d0, d1, d2, p0, p1, p2, rfl, rfl, rfl, g0, g1, g2⟩ := trodAll_three hA
  obtain ⟨rfl, rfl⟩ := trodVars_none hV
  obtain ⟨s0, s1, xq0, xq1, hq0, hq1, aq0, aq1, tq0, tq1, rfl⟩ := open_slots (hval 0 40 v0 rfl rfl) g0
  obtain ⟨A, D, c, rfl, hD, _, _⟩ := open_dl (hval 1 41 v1 rfl rfl) g1
  obtain ⟨s, rfl⟩ := open_sup (hval 2 25 v2 rfl rfl) g2
  refine (reads_any s0 s1 xq0 xq1 hq0 hq1 aq0 aq1 tq0 tq1 D A _ c s W hD rfl).mono fun e W' ⟨he, hb⟩ => ⟨_, he, ?_⟩
  exact law_post Try.laidOut hWk rfl rfl rfl rfl rfl Try.underlying4 (by kernel_rfl) hb
theorem reads_holds : Rows.SuperReadsSaid :=
  OpenClaim.holds_of_wide 5 Try.f5 rfl rfl rfl rfl rfl rfl rfl ⟨rfl, rfl, rfl, rfl, rfl⟩ rfl rfl rfl rfl rfl (by kernel_rfl) Try.func5 (by kernel_rfl)
    (of_decide_eq_true (by kernel_rfl)) (by unfold Func.isWrapper; first | (rw [if_pos (by decide +kernel)]; kernel_rfl) | (rw [if_neg (by decide +kernel)]; exact ⟨rfl, rfl⟩))
    (fun os started H enc _ => reads_lifted os started H enc)
end Go.Proofs.Ytkockhggnbfahaa
