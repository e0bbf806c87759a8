/- Lemmas under the proofs of this place: SupAwake. No statement is proved here. -/
import Derived.Test.YtkockhggnbfahaaBu29
import Derived.Test.YtkockhggnbfahaaBu10
import Derived.Test.YtkockhggnbfahaaBu17
import Derived.Test.YtkockhggnbfahaaBu33
import Derived.Test.YtkockhggnbfahaaBu27
import Derived.Test.YtkockhggnbfahaaBu20
import Derived.Test.YtkockhggnbfahaaBu18
import Derived.Test.YtkockhggnbfahaaBu22
set_option linter.unusedVariables false
namespace Go.Proofs.Ytkockhggnbfahaa
open Go.RowKit
def awS : Pu := ⟨7, 16, 3, 9, 40, 7⟩
def awE1 : Dk := ⟨dk2 zeros256 zeros256, [], -1, false, 2, 0, 0⟩
def awE2 : Dk := ⟨dk2 zeros256 awS.block, [], -1, false, 2, 1, 1⟩
def awE3 : Dk := ⟨dk2 zeros256 awS.block, [], -1, false, 4, 1, 1⟩
def awE4 : Dk := ⟨dk2 zeros256 awS.block, [], -1, false, 5, 1, 1⟩
def awE5 : Dk := ⟨dk2 zeros256 awS.block, [(1, blockL [1])], -1, false, 5, 2, 1⟩
def awE6 : Dk := ⟨dk2 zeros256 awS.block, [(1, blockL [1])], -1, false, 7, 2, 1⟩
theorem z64_8 : zeros256.take 64 = List.replicate 64 0 := by unfold zeros256; rw [List.take_replicate, show min 64 256 = 64 from rfl]
theorem awS_may : awS.may = true := by decide
set_option maxRecDepth 100000 in
theorem aw_f1 : readU (Dk.blank 16) = (awE1, .zero, 6) := by
  have h : Dk.blank 16 = ⟨dk2 zeros256 zeros256, [], -1, false, 0, 0, 0⟩ := rfl
  rw [h, readU_calm]
  have hb : bestU 16 zeros256 zeros256 = (.zero, 6) := by
    unfold bestU
    rw [slot_zeros z64_8, slot_zeros z64_8]
    simp only
    rw [if_pos (by decide +kernel)]
  rw [hb]
  rfl
theorem aw_f2 : writeU awE1 awS = (awE2, 0) := by
  unfold awE1
  rw [writeU_dk2 _ _ _ _ _ _ awS awS_may rfl 1 (by omega) rfl (by omega), if_neg (by decide), if_neg (by decide), dk2_set _ _ _ 1 (by omega), if_neg (by decide)]
  rfl
theorem aw_f3 : readU awE2 = (awE3, awS, 0) := by
  unfold awE2
  rw [readU_calm, best_second (slot_zeros z64_8) (slot_block (n := 16) (k := 1) awS_may rfl rfl awS.block_take)]
  rfl
theorem aw_f4 : awE3.read 1 = (awE4, awS.block, 0) := by
  have h := read_on8 (d := awE3) (n := 1) rfl (by decide)
  have hn : awE3.now 1 = awS.block := rfl
  rw [hn] at h
  exact h
theorem aw_f5 : writeU awE4 ⟨8, 17, 8, 0, 0, 0⟩ = (awE4, 1) := by
  unfold writeU
  rw [if_neg (by decide), if_pos (by decide)]
theorem aw_f6 : writeU awE4 ⟨8, 16, 9, 0, 0, 0⟩ = (awE4, 1) := by
  unfold writeU
  rw [if_pos (by decide)]
theorem aw_f7 : awE4.write 1 (blockL [1]) = (awE5, 0) := by
  have h := write_dk2 zeros256 awS.block (-1) 5 1 1 1 (by omega) (blockL [1]) (by decide +kernel) (by omega)
  rw [if_neg (by decide), if_neg (by decide)] at h
  exact h
theorem aw_one : getU ((blockL [1]).take 64) = (.zero, 12) := by
  have e : (blockL [1]).take 64 = List.replicate 64 1 := by decide +kernel
  have ho : openL (List.replicate 64 1) = none := by
    unfold openL
    rw [if_neg]
    intro h
    have h3 : sealL ((List.replicate 64 (1 : UInt8)).take ((List.replicate 64 (1 : UInt8)).length - 4)) ≠ List.replicate 64 1 := by decide +kernel
    exact h3 h.2
  rw [e]
  have hg : getS (List.replicate 64 1) = (.zero, 12) := getS_sum (by simp) ho
  have := getU_err (b := List.replicate 64 1) (by rw [hg]; decide)
  rw [hg] at this
  exact this
set_option maxRecDepth 100000 in
theorem aw_f8 : readU awE5 = (awE6, .zero, 13) := by
  have h := readU_on (d := awE5) rfl (by decide)
  have h0 : awE5.now 0 = zeros256 := rfl
  have h1 : awE5.now 1 = blockL [1] := rfl
  rw [h0, h1] at h
  have hb : bestU (awE5.safe.length : Int) zeros256 (blockL [1]) = (.zero, 13) := by
    unfold bestU
    have hs : slotU (awE5.safe.length : Int) 1 (blockL [1]) = none := by
      unfold slotU
      rw [aw_one, if_neg (fun hh => absurd hh.1 (by decide))]
    rw [slot_zeros z64_8, hs]
    simp only
    rw [if_neg (by decide +kernel)]
  rw [hb] at h
  exact h
theorem aw_read {w W : World} {g : Nat} {d d' : Dk} {vs : List (Nat × Pu)} {s : Pu} {z : Int} (hv : readU d = (d', s, z)) (hl : d.load ≤ 90000) (h : AtV w W g d vs) :
    Calls Try.prog 18 #[.pointer (some ⟨g, 0, none⟩)] W fun e w' => e = .returned (.tuple #[supV s, .int .i64 z]) ∧ Hid (AtV w w' g d' vs) := by
  obtain ⟨F, hH, hvs⟩ := h
  refine (supread_any hH.disk hl).mono fun e w' hh => ?_
  rw [hv] at hh
  exact ⟨hh.1, AtV.of hH hvs hh.2.1 hh.2.2⟩
theorem aw_write {w W : World} {g : Nat} {d d' : Dk} {vs : List (Nat × Pu)} {s : Pu} {z : Int} (hv : writeU d s = (d', z)) (hl : d.load ≤ 90000) (h : AtV w W g d vs) :
    Calls Try.prog 20 #[.pointer (some ⟨g, 0, none⟩), supV s] W fun e w' => e = .returned (.int .i64 z) ∧ Hid (AtV w w' g d' vs) := by
  obtain ⟨F, hH, hvs⟩ := h
  refine (supwrite_any hH.disk s hl).mono fun e w' hh => ?_
  rw [hv] at hh
  obtain ⟨he, F', h1, h2⟩ := hh
  exact ⟨he, AtV.of hH hvs h1 h2⟩
theorem aw_dread {w W : World} {g : Nat} {d d' : Dk} {vs : List (Nat × Pu)} {i : Int} {L : List UInt8} {z : Int} (hv : d.read i = (d', L, z)) (hl : d.load ≤ 90000) (h : AtV w W g d vs) :
    Calls Try.prog 37 #[.pointer (some ⟨g, 0, none⟩), .int .i64 i] W fun e w' => ∃ A c, e = .returned (.tuple #[.slice A L.length c, .int .i64 z]) ∧ Hid (Own w' W.heap.size A L c) ∧ Hid (AtV w w' g d' vs) := by
  obtain ⟨F, hH, hvs⟩ := h
  refine (read_any hH.disk i (by omega)).mono fun e w' hh => ?_
  obtain ⟨A, c, he, ho, hd⟩ := hh
  rw [hv] at he ho hd
  exact ⟨A, c, he, ho, AtV.of hH hvs hd.1 hd.2⟩
theorem aw_dwrite {w W : World} {g : Nat} {d d' : Dk} {vs : List (Nat × Pu)} {i : Int} {L : List UInt8} {z : Int} {b m : Nat} (hv : d.write i L = (d', z)) (hl : d.load ≤ 90000) (h : AtB w W g d vs b)
    (hm : m = L.length) (hr : RB W W.heap.size (some ⟨b, 0, none⟩) L) (hcm : m ≤ 9223372036854775807) :
    Calls Try.prog 38 #[.pointer (some ⟨g, 0, none⟩), .int .i64 i, .slice (some ⟨b, 0, none⟩) m m] W fun e w' => e = .returned (.int .i64 z) ∧ Hid (AtV w w' g d' vs) := by
  obtain ⟨F, hH, hvs, hn⟩ := h
  refine (write_any hH.disk i (by omega) L _ m m hm hr (fun ad e => by injection e with e; subst e; exact hn) (Nat.le_refl _) hcm).mono fun e w' hh => ?_
  obtain ⟨F', he, h1, h2⟩ := hh
  rw [hv] at he h1
  exact ⟨he, AtV.of hH hvs h1 h2⟩
theorem Try.supBuild5 (w : World) : Sem.run Try.prog (Instr.build 25 #[(0, .int .i64 8), (1, .int .i64 17), (2, .int .i64 8)]) w = .ok (.agg #[.int .i64 8, .int .i64 17, .int .i64 8, .int .i64 0, .int .i64 0, .int .i64 0]) w := by kernel_rfl
theorem Try.supBuild6 (w : World) : Sem.run Try.prog (Instr.build 25 #[(0, .int .i64 8), (1, .int .i64 16), (2, .int .i64 9)]) w = .ok (.agg #[.int .i64 8, .int .i64 16, .int .i64 9, .int .i64 0, .int .i64 0, .int .i64 0]) w := by kernel_rfl
theorem own_at {w : World} {base c : Nat} {A : Option Addr} {L : List UInt8} (h : Own w base A L c) (h0 : 0 < L.length) : ∃ b, A = some ⟨b, 0, none⟩ ∧ L.length ≤ c ∧ c ≤ 9223372036854775807 := by
  rcases h.2 with ⟨h1, h2⟩ | ⟨k, cap, cur, h1, _, _, h3, h4, _⟩
  · omega
  · simp only [Value.slice.injEq] at h1
    unfold maxLen at h4
    exact ⟨k, h1.1, by omega, by omega⟩
theorem blk_rb {w : World} {b : Nat} {L : List UInt8} (h : Blk w b 5 (cells L).toArray) : RB w w.heap.size (some ⟨b, 0, none⟩) L := by
  refine ⟨by rw [cells_length]; simp, fun _ => ⟨_, rfl, h.lt, fun j u hj => ?_⟩⟩
  have e : (⟨b, 0, none⟩ : Addr).add j = ⟨b, j, none⟩ := by unfold Addr.add; split <;> simp_all
  rw [e, h.cell]
  simpa using hj
set_option maxRecDepth 100000 in
set_option maxHeartbeats 8000000 in
theorem awake8_any (w : World) : Calls Try.prog 11 #[] w fun e w' => e = .returned (.bool true) ∧ Below w.heap.size w w' := by
  have HBl : Hid (Calls Try.prog 24 #[.int .i64 16] w fun e w' => ∃ g, e = .returned (.tuple #[.pointer (some ⟨g, 0, none⟩), .int .i64 0]) ∧ Hid (AtV w w' g (Dk.blank 16) [])) := by
    refine (blank_any 16 w (by omega) (by omega)).mono fun e w' hh => ?_
    obtain ⟨g, F, he, hG⟩ := hh
    exact ⟨g, he, AtV.gives (Below.refl _ _) hG⟩
  have HR1 : Hid (∀ W g vs, Hid (AtV w W g (Dk.blank 16) vs) → Calls Try.prog 18 #[.pointer (some ⟨g, 0, none⟩)] W fun e w' => e = .returned (.tuple #[.agg #[.int .i64 0, .int .i64 0, .int .i64 0, .int .i64 0, .int .i64 0, .int .i64 0], .int .i64 6]) ∧ Hid (AtV w w' g awE1 vs)) := fun W g vs h => by
    have h1 := aw_read aw_f1 (by decide) h.out
    exact h1
  have HW1 : Hid (∀ W g vs, Hid (AtV w W g awE1 vs) → Calls Try.prog 20 #[.pointer (some ⟨g, 0, none⟩), .agg #[.int .i64 7, .int .i64 16, .int .i64 3, .int .i64 9, .int .i64 40, .int .i64 7]] W fun e w' => e = .returned (.int .i64 0) ∧ Hid (AtV w w' g awE2 vs)) := fun W g vs h => by
    have h1 := aw_write aw_f2 (by decide) h.out
    exact h1
  have HR2 : Hid (∀ W g vs, Hid (AtV w W g awE2 vs) → Calls Try.prog 18 #[.pointer (some ⟨g, 0, none⟩)] W fun e w' => e = .returned (.tuple #[.agg #[.int .i64 7, .int .i64 16, .int .i64 3, .int .i64 9, .int .i64 40, .int .i64 7], .int .i64 0]) ∧ Hid (AtV w w' g awE3 vs)) := fun W g vs h => by
    have h1 := aw_read aw_f3 (by decide) h.out
    exact h1
  have HD1 : Hid (∀ W g vs, Hid (AtV w W g awE3 vs) → Calls Try.prog 37 #[.pointer (some ⟨g, 0, none⟩), .int .i64 1] W fun e w' => ∃ b c, e = .returned (.tuple #[.slice (some ⟨b, 0, none⟩) 256 c, .int .i64 0]) ∧ Hid (RB w' w'.heap.size (some ⟨b, 0, none⟩) awS.bytes) ∧ Hid (256 ≤ c ∧ c ≤ 9223372036854775807) ∧ Hid (AtV w w' g awE4 vs)) := fun W g vs h => by
    refine (aw_dread aw_f4 (by decide) h.out).mono fun e w' hh => ?_
    obtain ⟨A, c, he, ho, hv⟩ := hh
    obtain ⟨b, rfl, h1, h2⟩ := own_at ho.out (by rw [awS.block_length]; omega)
    have h3 := rb_take (own_rb ho.out) 64 (by rw [awS.block_length]; omega)
    rw [awS.block_take] at h3
    rw [awS.block_length] at he h1
    exact ⟨b, c, he, h3, ⟨h1, h2⟩, hv⟩
  have HG : Hid (∀ W (b c : Nat), Hid (RB W W.heap.size (some ⟨b, 0, none⟩) awS.bytes) → Hid (256 ≤ c ∧ c ≤ 9223372036854775807) → Calls Try.prog 9 #[.slice (some ⟨b, 0, none⟩) 64 c] W fun e w' => e = .returned (.tuple #[.agg #[.int .i64 7, .int .i64 16, .int .i64 3, .int .i64 9, .int .i64 40, .int .i64 7], .int .i64 0]) ∧ Below W.heap.size W w') := fun W b c hr hc => by
    have h1 := supget_any awS.bytes _ c W hr.out (by rw [awS.bytes_length]; have := hc.out; omega) hc.out.2 (by rw [awS.bytes_length]; omega)
    rw [awS.bytes_length, getU_put awS awS_may] at h1
    exact h1
  have HW2 : Hid (∀ W g vs, Hid (AtV w W g awE4 vs) → Calls Try.prog 20 #[.pointer (some ⟨g, 0, none⟩), .agg #[.int .i64 8, .int .i64 17, .int .i64 8, .int .i64 0, .int .i64 0, .int .i64 0]] W fun e w' => e = .returned (.int .i64 1) ∧ Hid (AtV w w' g awE4 vs)) := fun W g vs h => by
    have h1 := aw_write aw_f5 (by decide) h.out
    exact h1
  have HW3 : Hid (∀ W g vs, Hid (AtV w W g awE4 vs) → Calls Try.prog 20 #[.pointer (some ⟨g, 0, none⟩), .agg #[.int .i64 8, .int .i64 16, .int .i64 9, .int .i64 0, .int .i64 0, .int .i64 0]] W fun e w' => e = .returned (.int .i64 1) ∧ Hid (AtV w w' g awE4 vs)) := fun W g vs h => by
    have h1 := aw_write aw_f6 (by decide) h.out
    exact h1
  have HR3 : Hid (∀ W g vs, Hid (AtV w W g awE5 vs) → Calls Try.prog 18 #[.pointer (some ⟨g, 0, none⟩)] W fun e w' => e = .returned (.tuple #[.agg #[.int .i64 0, .int .i64 0, .int .i64 0, .int .i64 0, .int .i64 0, .int .i64 0], .int .i64 13]) ∧ Hid (AtV w w' g awE6 vs)) := fun W g vs h => by
    have h1 := aw_read aw_f8 (by decide) h.out
    exact h1
  have HRn : Hid (∀ W, Calls Try.prog 18 #[.pointer none] W fun e w' => e = .returned (.tuple #[.agg #[.int .i64 0, .int .i64 0, .int .i64 0, .int .i64 0, .int .i64 0, .int .i64 0], .int .i64 8]) ∧ Below W.heap.size W w') := fun W => supread_none W
  have HWn : Hid (∀ W, Calls Try.prog 20 #[.pointer none, .agg #[.int .i64 7, .int .i64 16, .int .i64 3, .int .i64 9, .int .i64 40, .int .i64 7]] W fun e w' => e = .returned (.int .i64 8) ∧ Below W.heap.size W w') := fun W => supwrite_none awS W awS_may
  have HC1 : Hid (∀ W, Calls Try.prog 10 #[.agg #[.int .i64 7, .int .i64 16, .int .i64 3, .int .i64 9, .int .i64 40, .int .i64 7]] W fun e w' => e = .returned (.int .i64 0) ∧ Below W.heap.size W w') := fun W => by
    have h1 := scheck_any awS W
    rw [if_pos awS_may] at h1
    exact h1
  have HC2 : Hid (∀ W, Calls Try.prog 10 #[.agg #[.int .i64 0, .int .i64 0, .int .i64 0, .int .i64 0, .int .i64 0, .int .i64 0]] W fun e w' => e = .returned (.int .i64 1) ∧ Below W.heap.size W w') := fun W => by
    have h1 := scheck_any .zero W
    rw [if_neg (by decide)] at h1
    exact h1
  have HBk : Hid (∀ (W : World) (b0 : Nat), b0 = W.heap.size → Calls Try.prog 39 #[.slice (some ⟨b0, 0, none⟩) 1 1] (W.alloc (.cells #[.int .u8 1] 5)) fun e w' => ∃ b, e = .returned (.slice (some ⟨b, 0, none⟩) 256 256) ∧ Hid (W.heap.size ≤ b ∧ RB w' w'.heap.size (some ⟨b, 0, none⟩) (blockL [1])) ∧ Below W.heap.size W w') := fun W b0 hb0 => by
    subst hb0
    have hr : RB (W.alloc (.cells #[.int .u8 1] 5)) (W.alloc (.cells #[.int .u8 1] 5)).heap.size (some ⟨W.heap.size, 0, none⟩) [1] := (show RB (W.alloc (.cells (cells [1]).toArray 5)) (W.heap.size + 1) (some ⟨W.heap.size, 0, none⟩) [1] from rb_new W [1]).more (by simp)
    refine (block_any [1] _ 1 1 _ hr rfl (by simp)).mono fun e w' hh => ?_
    obtain ⟨b, he, h1, h2, h3⟩ := hh
    refine ⟨b, he, ⟨by have := h1; simp at this; omega, blk_rb h2⟩, ((Below.refl _ _).alloc (Nat.le_refl _) _).trans (h3.mono (by simp))⟩
  have HDw : Hid (∀ W g vs b, Hid (AtB w W g awE4 vs b) → Hid (RB W W.heap.size (some ⟨b, 0, none⟩) (blockL [1])) → Calls Try.prog 38 #[.pointer (some ⟨g, 0, none⟩), .int .i64 1, .slice (some ⟨b, 0, none⟩) 256 256] W fun e w' => e = .returned (.int .i64 0) ∧ Hid (AtV w w' g awE5 vs)) := fun W g vs b h hr => by
    have h1 := aw_dwrite aw_f7 (by decide) h.out (m := 256) (by decide +kernel) hr.out (by omega)
    exact h1
  have nb := fun w' => Try.supBuild0 w'
  have nb4 := fun g b l f z o w' => Try.supBuild4 g b l f z o w'
  have nbp := fun f z o w' => Try.partBuild f z o w'
  have nb5 := fun w' => Try.supBuild5 w'
  have nb6 := fun w' => Try.supBuild6 w'
  have m64 : min (64 : Int) 256 = 64 := by decide
  have a24 := fun w' => Try.aggSup w'
  have s24 := fun w' => Try.sizeSup w'
  have q25 := fun a b c d e f w' => Try.supEq a b c d e f w'
  go_enter Try.func11, Try.ntmps11
  go_wp2_with (first
    | (go_at_call 24; (with_reducible refine HBl.out.mono ?_); rintro e w1 ⟨g, rfl, t1⟩)
    | (go_at_call 18; (with_reducible refine (HR1.out _ _ _ t1).mono ?_); rintro e w2 ⟨rfl, t2⟩; have t2a : Hid (AtV w (w2.alloc (.cells #[.int .i64 0, .int .i64 0, .int .i64 0, .int .i64 0, .int .i64 0, .int .i64 0] 25)) g awE1 [(w2.heap.size, .zero)]) := t2.out.put2 .zero rfl; have t2b : Hid (AtV w ((w2.alloc (.cells #[.int .i64 0, .int .i64 0, .int .i64 0, .int .i64 0, .int .i64 0, .int .i64 0] 25)).alloc (.cells #[.int .i64 7, .int .i64 16, .int .i64 3, .int .i64 9, .int .i64 40, .int .i64 7] 25)) g awE1 [(w2.heap.size + 1, awS), (w2.heap.size, .zero)]) := t2a.out.put2 awS (by simp))
    | (go_at_call 20; (with_reducible refine (HW1.out _ _ _ t2b).mono ?_); rintro e w3 ⟨rfl, t3⟩)
    | (go_at_call 18; (with_reducible refine (HR2.out _ _ _ t3).mono ?_); rintro e w4 ⟨rfl, t4⟩; have t4a : Hid (AtV w (w4.alloc (.cells #[.int .i64 7, .int .i64 16, .int .i64 3, .int .i64 9, .int .i64 40, .int .i64 7] 25)) g awE3 [(w4.heap.size, awS), (w2.heap.size + 1, awS), (w2.heap.size, .zero)]) := t4.out.put2 awS rfl)
    | (go_at_call 37; (with_reducible refine (HD1.out _ _ _ t4a).mono ?_); rintro e w5 ⟨bb, bc, rfl, r5, hc5, t5⟩; have ks := fun W => sl_to bb 0 256 bc 64 64 rfl (by have := hc5.out; omega) (by have := hc5.out; omega) W)
    | (go_at_call 9; (with_reducible refine (HG.out _ _ _ r5 hc5).mono ?_); rintro e w6 ⟨rfl, b6⟩; have t6 : Hid (AtV w (w6.alloc (.cells #[.int .i64 7, .int .i64 16, .int .i64 3, .int .i64 9, .int .i64 40, .int .i64 7] 25)) g awE4 [(w6.heap.size, awS), (w4.heap.size, awS), (w2.heap.size + 1, awS), (w2.heap.size, .zero)]) := (t5.out.more b6).put2 awS rfl)
    | (go_at_call 20; (with_reducible refine (HW2.out _ _ _ t6).mono ?_); rintro e w7 ⟨rfl, t7⟩)
    | (go_at_call 20; (with_reducible refine (HW3.out _ _ _ t7).mono ?_); rintro e w8 ⟨rfl, t8⟩)
    | (go_at_call 18; (with_reducible refine (HRn.out _).mono ?_); rintro e w9 ⟨rfl, b9⟩; have t9 : Hid (AtV w (w9.alloc (.cells #[.int .i64 0, .int .i64 0, .int .i64 0, .int .i64 0, .int .i64 0, .int .i64 0] 25)) g awE4 [(w9.heap.size, .zero), (w6.heap.size, awS), (w4.heap.size, awS), (w2.heap.size + 1, awS), (w2.heap.size, .zero)]) := (t8.out.more b9).put2 .zero rfl)
    | (go_at_call 39; (with_reducible refine (HBk.out (w9.alloc (.cells #[.int .i64 0, .int .i64 0, .int .i64 0, .int .i64 0, .int .i64 0, .int .i64 0] 25)) (w9.heap.size + 1) (by simp)).mono ?_); rintro e w10 ⟨bk, rfl, r10, b10⟩; have t10 : Hid (AtB w w10 g awE4 [(w9.heap.size, .zero), (w6.heap.size, awS), (w4.heap.size, awS), (w2.heap.size + 1, awS), (w2.heap.size, .zero)] bk) := t9.out.fresh b10 r10.out.1; have r10b := Lib.hid r10.out.2)
    | (go_at_call 38; (with_reducible refine (HDw.out _ _ _ _ t10 r10b).mono ?_); rintro e w11 ⟨rfl, t11⟩)
    | (go_at_call 18; (with_reducible refine (HR3.out _ _ _ t11).mono ?_); rintro e w12 ⟨rfl, t12⟩; have t12a : Hid (AtV w (w12.alloc (.cells #[.int .i64 0, .int .i64 0, .int .i64 0, .int .i64 0, .int .i64 0, .int .i64 0] 25)) g awE6 [(w12.heap.size, .zero), (w9.heap.size, .zero), (w6.heap.size, awS), (w4.heap.size, awS), (w2.heap.size + 1, awS), (w2.heap.size, .zero)]) := t12.out.put2 .zero rfl; have qq := AtV.var t12a.out (b := w2.heap.size + 1) (s := awS) (by simp); simp only [awS] at qq; obtain ⟨xa0, xa1, xa2, xa3, xa4, xa5⟩ := qq; have qq := AtV.var t12a.out (b := w4.heap.size) (s := awS) (by simp); simp only [awS] at qq; obtain ⟨xb0, xb1, xb2, xb3, xb4, xb5⟩ := qq; have qq := AtV.var t12a.out (b := w6.heap.size) (s := awS) (by simp); simp only [awS] at qq; obtain ⟨xc0, xc1, xc2, xc3, xc4, xc5⟩ := qq)
    | (go_at_call 20; (with_reducible refine (HWn.out _).mono ?_); rintro e w13 ⟨rfl, b13⟩; have t13 := Lib.hid (t12a.out.more b13); have qq := AtV.var t13.out (b := w2.heap.size + 1) (s := awS) (by simp); simp only [awS] at qq; obtain ⟨ya0, ya1, ya2, ya3, ya4, ya5⟩ := qq; have qq := AtV.var t13.out (b := w4.heap.size) (s := awS) (by simp); simp only [awS] at qq; obtain ⟨yb0, yb1, yb2, yb3, yb4, yb5⟩ := qq; have qq := AtV.var t13.out (b := w6.heap.size) (s := awS) (by simp); simp only [awS] at qq; obtain ⟨yc0, yc1, yc2, yc3, yc4, yc5⟩ := qq)
    | (go_at_call 10; (with_reducible refine (HC1.out _).mono ?_); rintro e w14 ⟨rfl, b14⟩; have t14 := Lib.hid (t13.out.more b14))
    | (go_at_call 10; (with_reducible refine (HC2.out _).mono ?_); rintro e w15 ⟨rfl, b15⟩; have t15 := Lib.hid (t14.out.more b15)))
  go_ret
  exact ⟨rfl, t15.out.below⟩
end Go.Proofs.Ytkockhggnbfahaa
