/- The walk of layer 5's awake. -/
import Derived.Test.YtppjeakgabakeaaDoorBitsProg
set_option linter.unusedVariables false
namespace Go.Proofs.YtppjeakgabakeaaDoor
open Go.RowKit

theorem add_at (l l' : List Bool) (g : Nat) (i r : Int) (w : World) (hi : InI i) (h : SetAt w g l) (hl : l.length ≤ 4096) (e : addB l i = (l', r)) :
    Calls Tryd.prog 9 #[.pointer (some ⟨g, 0, none⟩), .int .i64 i] w fun e w' => e = .returned (.int .i64 r) ∧ Hid (SetAt w' g l') ∧ Only w w' g := by
  have := bitsAdd_any l g i w hi h hl
  rw [e] at this
  exact this
theorem drop_at (l l' : List Bool) (g : Nat) (i r : Int) (w : World) (hi : InI i) (h : SetAt w g l) (hl : l.length ≤ 4096) (e : dropB l i = (l', r)) :
    Calls Tryd.prog 11 #[.pointer (some ⟨g, 0, none⟩), .int .i64 i] w fun e w' => e = .returned (.int .i64 r) ∧ Hid (SetAt w' g l') ∧ Only w w' g := by
  have := bitsDrop_any l g i w hi h hl
  rw [e] at this
  exact this
theorem has_at (l : List Bool) (g : Nat) (i : Int) (r : Bool) (w : World) (hi : InI i) (h : SetAt w g l) (hl : l.length ≤ 4096) (e : inB l i = r) :
    Calls Tryd.prog 14 #[.pointer (some ⟨g, 0, none⟩), .int .i64 i] w fun e w' => e = .returned (.bool r) ∧ Below w.heap.size w w' := by
  have := bitsHas_any l g i w hi h hl
  rw [e] at this
  exact this
theorem next_at (l : List Bool) (g : Nat) (i r : Int) (w : World) (hi : InI i) (h : SetAt w g l) (hl : l.length ≤ 4096) (e : firstB l i true = r) :
    Calls Tryd.prog 16 #[.pointer (some ⟨g, 0, none⟩), .int .i64 i] w fun e w' => e = .returned (.int .i64 r) ∧ Below w.heap.size w w' := by
  have := bitsNext_any l g i w hi h hl
  rw [e] at this
  exact this
theorem gap_at (l : List Bool) (g : Nat) (i r : Int) (w : World) (hi : InI i) (h : SetAt w g l) (hl : l.length ≤ 4096) (e : firstB l i false = r) :
    Calls Tryd.prog 18 #[.pointer (some ⟨g, 0, none⟩), .int .i64 i] w fun e w' => e = .returned (.int .i64 r) ∧ Below w.heap.size w w' := by
  have := bitsGap_any l g i w hi h hl
  rw [e] at this
  exact this
theorem count_at (l : List Bool) (g : Nat) (r : Int) (w : World) (h : SetAt w g l) (hl : l.length ≤ 4096) (e : ((listB l).length : Int) = r) :
    Calls Tryd.prog 19 #[.pointer (some ⟨g, 0, none⟩)] w fun e w' => e = .returned (.int .i64 r) ∧ Below w.heap.size w w' := by
  have := bitsCount_any l g w h hl
  rw [e] at this
  exact this
theorem list_at (l : List Bool) (g : Nat) (S : List Nat) (k : Nat) (w : World) (h : SetAt w g l) (hl : l.length ≤ 4096) (e : listB l = S) (hk : S.length = k) :
    Calls Tryd.prog 21 #[.pointer (some ⟨g, 0, none⟩)] w fun e w' => ∃ A c, e = .returned (.slice A k c) ∧ IS w' w'.heap.size A S ∧ Below w.heap.size w w' := by
  have := bitsList_any l g w h hl
  rw [e] at this
  subst hk
  refine this.mono ?_
  rintro e w' ⟨A, c, h1, h2, _, _, h3⟩
  exact ⟨A, c, h1, h2, h3⟩
theorem ini_small {i : Int} (h : -1000000 ≤ i ∧ i ≤ 1000000) : InI i := ⟨by omega, by omega⟩
theorem chain5 {w V V' : World} (h : Below w.heap.size w V) (k : Below V.heap.size V V') : Below w.heap.size w V' := h.trans (k.mono h.size)
theorem chainO {w V V' : World} {g : Nat} (h : Below w.heap.size w V) (k : Only V V' g) (hg : w.heap.size ≤ g) : Below w.heap.size w V' := below_only h k hg h.size

def aw0 : List Bool := List.replicate 100 false
def aw1 : List Bool := aw0.set 3 true
def aw2 : List Bool := aw1.set 70 true
theorem aw_a1 : addB aw0 3 = (aw1, 0) := by decide +kernel
theorem aw_a2 : addB aw1 70 = (aw2, 0) := by decide +kernel
theorem aw_a3 : addB aw2 3 = (aw2, 7) := by decide +kernel
theorem aw_d1 : dropB aw2 4 = (aw2, 6) := by decide +kernel
theorem aw_d2 : dropB aw2 70 = (aw1, 0) := by decide +kernel
theorem aw_n1 : firstB aw2 4 true = 70 := by decide +kernel
theorem aw_n2 : firstB aw2 3 false = 4 := by decide +kernel
theorem aw_n3 : firstB aw1 4 true = -1 := by decide +kernel
theorem aw_c2 : ((listB aw2).length : Int) = 2 := by decide +kernel
theorem aw_c1 : ((listB aw1).length : Int) = 1 := by decide +kernel
theorem aw_h2 : inB aw2 70 = true := by decide +kernel
theorem aw_h1 : inB aw1 70 = false := by decide +kernel
theorem aw_a4 : addB aw2 100 = (aw2, 10) := by decide +kernel
theorem aw_l : listB aw2 = [3, 70] := by decide +kernel
theorem aw_len0 : aw0.length ≤ 4096 := by decide +kernel
theorem aw_len1 : aw1.length ≤ 4096 := by decide +kernel
theorem aw_len2 : aw2.length ≤ 4096 := by decide +kernel
theorem is_new (w : World) (L : List Nat) : IS (w.alloc (.cells (icells L).toArray 3)) (w.heap.size + 1) (some ⟨w.heap.size, 0, none⟩) L := by
  refine ⟨by simp [icells_length], fun h0 => ⟨_, rfl, by simp, fun j u hu => ?_⟩⟩
  have h := Blk.new w 3 (icells L).toArray
  rw [addr_add, Nat.zero_add, h.cell j]
  simpa using hu

/-- Is a pointer nil? -/
theorem Tryd.nilSet (g : Nat) (w : World) : Sem.run Tryd.prog (binOp .eql 23 (.pointer (some ⟨g, 0, none⟩)) (.pointer none)) w = .ok (.bool false) w := by
  first | kernel_rfl | rfl | simp [go_sem, binOp]
theorem Tryd.nilNone (w : World) : Sem.run Tryd.prog (binOp .eql 23 (.pointer none) (.pointer none)) w = .ok (.bool true) w := by
  first | kernel_rfl | rfl | simp [go_sem, binOp]
theorem Tryd.notNilSet (g : Nat) (w : World) : Sem.run Tryd.prog (binOp .neq 23 (.pointer (some ⟨g, 0, none⟩)) (.pointer none)) w = .ok (.bool true) w := by
  first | kernel_rfl | rfl | simp [go_sem, binOp]
theorem Tryd.notNilNone (w : World) : Sem.run Tryd.prog (binOp .neq 23 (.pointer none) (.pointer none)) w = .ok (.bool false) w := by
  first | kernel_rfl | rfl | simp [go_sem, binOp]

set_option maxRecDepth 100000 in
set_option maxHeartbeats 2000000 in
theorem awake5_any (w : World) (hT : Tz w) : Calls Tryd.prog 8 #[] w fun e w' => e = .returned (.bool true) ∧ Below w.heap.size w w' := by
  have HOf : Hid (Calls Tryd.prog 6 #[.int .i64 100] w fun e w' => ∃ g, e = .returned (.tuple #[.pointer (some ⟨g, 0, none⟩), .int .i64 0]) ∧ Hid (w.heap.size ≤ g) ∧ Hid (SetAt w' g aw0) ∧ Below w.heap.size w w') := bitsOf_any 100 w (by omega) hT
  have HBad : Hid (∀ V, Calls Tryd.prog 6 #[.int .i64 4097] V fun e w' => e = .returned (.tuple #[.pointer none, .int .i64 1]) ∧ Below V.heap.size V w') := fun V => bitsOf_bad 4097 V (ini_small (by omega)) (.inr (by omega))
  have nl := Tryd.nilSet
  have n0 := fun w' => Tryd.notFalse w'
  have n1 := fun w' => Tryd.notTrue w'
  clear hT
  go_enter Tryd.func8, Tryd.ntmps8
  go_wp2_with (first
    | (go_at_call 6; (with_reducible refine HOf.out.mono ?_); rintro e w1 ⟨g, rfl, hg, hS1, hb1⟩)
    | (go_at_call 6; (with_reducible refine (HBad.out _).mono ?_); rintro e w2 ⟨rfl, hb2⟩; have b2 := chain5 hb1 hb2; have hS2 : Hid (SetAt w2 g aw0) := hS1.out.below hb2 hS1.out.lt; have HA1 := Lib.hid (add_at aw0 aw1 g 3 0 w2 (ini_small (by omega)) hS2.out aw_len0 aw_a1))
    | (go_at_call 9; (with_reducible refine HA1.out.mono ?_); rintro e w3 ⟨rfl, hS3, ho3⟩; have b3 := chainO b2 ho3 hg.out; have HA2 := Lib.hid (add_at aw1 aw2 g 70 0 w3 (ini_small (by omega)) hS3.out aw_len1 aw_a2))
    | (go_at_call 9; (with_reducible refine HA2.out.mono ?_); rintro e w4 ⟨rfl, hS4, ho4⟩; have b4 := chainO b3 ho4 hg.out; have HA3 := Lib.hid (add_at aw2 aw2 g 3 7 w4 (ini_small (by omega)) hS4.out aw_len2 aw_a3))
    | (go_at_call 9; (with_reducible refine HA3.out.mono ?_); rintro e w5 ⟨rfl, hS5, ho5⟩; have b5 := chainO b4 ho5 hg.out; have HD1 := Lib.hid (drop_at aw2 aw2 g 4 6 w5 (ini_small (by omega)) hS5.out aw_len2 aw_d1))
    | (go_at_call 11; (with_reducible refine HD1.out.mono ?_); rintro e w6 ⟨rfl, hS6, ho6⟩; have b6 := chainO b5 ho6 hg.out; have HCl := Lib.hid (bitsClone_any aw2 g w6 hS6.out aw_len2))
    | (go_at_call 22; (with_reducible refine HCl.out.mono ?_); rintro e w7 ⟨k, rfl, hk, hT7, hb7⟩; have b7 := chain5 b6 hb7; have hgk : Hid (g < k) := (show g < k by have := hS6.out.lt; have := hk.out; omega); have hwk : Hid (w.heap.size ≤ k) := (show _ ≤ _ by have := b6.size; have := hk.out; omega); have hS7 : Hid (SetAt w7 g aw2) := hS6.out.below hb7 hS6.out.lt; have HD2 := Lib.hid (drop_at aw2 aw1 k 70 0 w7 (ini_small (by omega)) hT7.out aw_len2 aw_d2))
    | (go_at_call 11; (with_reducible refine HD2.out.mono ?_); rintro e w8 ⟨rfl, hT8, ho8⟩; have b8 := chainO b7 ho8 hwk.out; have hS8 : Hid (SetAt w8 g aw2) := hS7.out.only ho8 (by have := hgk.out; omega) (by have := hgk.out; have := hS7.out.pos; omega); have HN1 := Lib.hid (next_at aw2 g 4 70 w8 (ini_small (by omega)) hS8.out aw_len2 aw_n1))
    | (go_at_call 16; (with_reducible refine HN1.out.mono ?_); rintro e w9 ⟨rfl, hb9⟩; have b9 := chain5 b8 hb9; have hS9 : Hid (SetAt w9 g aw2) := hS8.out.below hb9 hS8.out.lt; have hT9 : Hid (SetAt w9 k aw1) := hT8.out.below hb9 hT8.out.lt; have HG1 := Lib.hid (gap_at aw2 g 3 4 w9 (ini_small (by omega)) hS9.out aw_len2 aw_n2))
    | (go_at_call 18; (with_reducible refine HG1.out.mono ?_); rintro e wa ⟨rfl, hba⟩; have ba := chain5 b9 hba; have hSa : Hid (SetAt wa g aw2) := hS9.out.below hba hS9.out.lt; have hTa : Hid (SetAt wa k aw1) := hT9.out.below hba hT9.out.lt; have HC1 := Lib.hid (count_at aw2 g 2 wa hSa.out aw_len2 aw_c2))
    | (go_at_call 19; (with_reducible refine HC1.out.mono ?_); rintro e wb ⟨rfl, hbb⟩; have bb := chain5 ba hbb; have hSb : Hid (SetAt wb g aw2) := hSa.out.below hbb hSa.out.lt; have hTb : Hid (SetAt wb k aw1) := hTa.out.below hbb hTa.out.lt; have HC2 := Lib.hid (count_at aw1 k 1 wb hTb.out aw_len1 aw_c1))
    | (go_at_call 19; (with_reducible refine HC2.out.mono ?_); rintro e wc ⟨rfl, hbc⟩; have bc := chain5 bb hbc; have hSc : Hid (SetAt wc g aw2) := hSb.out.below hbc hSb.out.lt; have hTc : Hid (SetAt wc k aw1) := hTb.out.below hbc hTb.out.lt; have HH1 := Lib.hid (has_at aw2 g 70 true wc (ini_small (by omega)) hSc.out aw_len2 aw_h2))
    | (go_at_call 14; (with_reducible refine HH1.out.mono ?_); rintro e wd ⟨rfl, hbd⟩; have bd := chain5 bc hbd; have hSd : Hid (SetAt wd g aw2) := hSc.out.below hbd hSc.out.lt; have hTd : Hid (SetAt wd k aw1) := hTc.out.below hbd hTc.out.lt; have HH2 := Lib.hid (has_at aw1 k 70 false wd (ini_small (by omega)) hTd.out aw_len1 aw_h1))
    | (go_at_call 14; (with_reducible refine HH2.out.mono ?_); rintro e we ⟨rfl, hbe⟩; have be := chain5 bd hbe; have hSe : Hid (SetAt we g aw2) := hSd.out.below hbe hSd.out.lt; have hTe : Hid (SetAt we k aw1) := hTd.out.below hbe hTd.out.lt; have HN2 := Lib.hid (next_at aw1 k 4 (-1) we (ini_small (by omega)) hTe.out aw_len1 aw_n3))
    | (go_at_call 16; (with_reducible refine HN2.out.mono ?_); rintro e wf ⟨rfl, hbf⟩; have bf := chain5 be hbf; have hSf : Hid (SetAt wf g aw2) := hSe.out.below hbf hSe.out.lt; have HA4 := Lib.hid (add_at aw2 aw2 g 100 10 wf (ini_small (by omega)) hSf.out aw_len2 aw_a4))
    | (go_at_call 9; (with_reducible refine HA4.out.mono ?_); rintro e wg ⟨rfl, hSg, hog⟩; have bg := chainO bf hog hg.out; have HL1 := Lib.hid (list_at aw2 g [3, 70] 2 wg hSg.out aw_len2 aw_l rfl))
    | (go_at_call 21; (with_reducible refine HL1.out.mono ?_); rintro e wh ⟨A, c, rfl, hIS, hbh⟩; have bh := chain5 bg hbh; have bi := bh.alloc bh.size (.cells (icells [3, 70]).toArray 3); have HI1 := Lib.hid (ints_any [3, 70] [3, 70] A (some ⟨wh.heap.size, 0, none⟩) 2 c 2 2 (wh.heap.size + 1) (wh.alloc (.cells (icells [3, 70]).toArray 3)) rfl rfl (Reads.more (Reads.below hIS ((Below.refl wh.heap.size wh).alloc (Nat.le_refl _) _)) (by omega)) (is_new wh [3, 70]) (by omega) (by omega)))
    | (go_at_call 20; (refine HI1.out.mono ?_); rintro e wi ⟨rfl, hbi⟩; have bj := chain5 bi hbi))
  go_ret
  exact ⟨rfl, bj⟩

end Go.Proofs.YtppjeakgabakeaaDoor
