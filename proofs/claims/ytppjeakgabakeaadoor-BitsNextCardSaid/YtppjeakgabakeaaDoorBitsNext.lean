/- BitsNext returns true for every number and every list of numbers, and leaves memory that was there as it was; the library table of math/bits lies as its text lays it (the card ties that); nothing else is assumed beyond the statement itself. -/
import Derived.Test.YtppjeakgabakeaaDoorBitsAwake
import Derived.Test.YtppjeakgabakeaaDoorBitsMath
import Derived.Test.YtppjeakgabakeaaDoorBitsLaid
import Derived.Test.YtppjeakgabakeaaDoorCards
import Derived.Test.YtppjeakgabakeaaDoorTie
import Derived.SevenTiedAt
set_option linter.unusedVariables false
namespace Go.Proofs.YtppjeakgabakeaaDoor
open Go.ChangeShapes Go.WideShapes Go.ChangeAt Go.RowKit

/-- How much is left, behind a number that came. -/
def mf (N : Nat) (f : Int) : Nat := if f < 0 then 0 else N + 1 - f.toNat
theorem mf_lt {N j : Nat} {q : Int} (hj : j < N) (h : q = -1 ∨ (j : Int) < q ∧ q < N) : mf N q < mf N (j : Int) := by
  unfold mf
  rw [if_neg (by omega : ¬ (j : Int) < 0)]
  rcases h with h | h
  · rw [if_pos (by omega)]; omega
  · rw [if_neg (by omega)]; omega
set_option maxRecDepth 100000 in
set_option maxHeartbeats 4000000 in
theorem next_good (N : Nat) (Z : List Int) (A : Option Addr) (n c : Nat) (w : World) (hN : N ≤ 4096) (HN : Hid (n = Z.length)) (hr : RI w w.heap.size A Z) (hI : ∀ x ∈ Z, InI x) (h300 : n ≤ 300) (hT : Tz w) :
    Calls Tryd.prog 4 #[.int .i64 (N : Int), .slice A n c] w fun e w' => e = .returned (.bool true) ∧ Below w.heap.size w w' := by
  obtain ⟨i0, hi0, hz0, hz1, hz2⟩ := info_parts Tryd.infoInt
  have HR := Lib.hid hr
  have HI := Lib.hid hI
  have HAw : Hid (∀ V, Below w.heap.size w V → Calls Tryd.prog 8 #[] V fun e w' => e = .returned (.bool true) ∧ Below V.heap.size V w') := fun V hb => awake5_any V (hT.below hb hT.lt)
  have HTz := Lib.hid hT
  clear hT
  have nl := Tryd.nilSet
  have ml := Tryd.notNilSet
  have n0 := fun w' => Tryd.notFalse w'
  have n1 := fun w' => Tryd.notTrue w'
  have HO := Lib.hid (bitsOf_any N w hN HTz.out)
  have g1 : decide (300 < (n : Int)) = false := decide_eq_false (by omega)
  have g2 : decide ((n : Int) > 300) = false := decide_eq_false (by omega)
  have g3 : decide (300 < n) = false := decide_eq_false (by omega)
  clear hr hI
  go_enter Tryd.func4, Tryd.ntmps4
  go_wp2_with (first
    | (go_at_call 6; (with_reducible refine HO.out.mono ?_); rintro e w1 ⟨g, rfl, hg, hS1, hb1⟩))
  clear HO g1 g2 g3
  go_loopw [7] (fun v wr => ∃ (k : Nat) (l : List Bool), k ≤ n ∧ v = .int .i64 (k : Int) ∧ Hid (l.length = N) ∧ Hid (SetAt wr g l) ∧ Below w.heap.size w wr) (fun v _ => n - (intOf v).toNat)
  case atStart => exact ⟨0, _, by omega, rfl, by show _ = _; simp, hS1, hb1⟩
  case round =>
    clear hS1 hb1
    obtain ⟨k, l, hk, rfl, HL, HS, hb⟩ := hrel
    have u0 : (0 : Int) ≤ (k : Int) := by omega
    by_cases hlt : k < n
    · have hkL : k < Z.length := by have := HN.out; omega
      have u1 : (k : Int) < (n : Int) := by omega
      have d0 : decide ((k : Int) < (n : Int)) = true := decide_eq_true u1
      obtain ⟨b, off, rfl, hbb, hcc⟩ := HR.out (by omega)
      have hz := HI.out Z[k] (List.getElem_mem _)
      have hck := hcc k hkL
      obtain ⟨z, hzz⟩ : ∃ z, z = Z[k] := ⟨_, rfl⟩
      rw [← hzz] at hck hz
      rw [← hb.cell (p := ⟨b, off + k, none⟩) hbb] at hck
      have HA := Lib.hid (bitsAdd_any l g z wr hz HS.out (by have := HL.out; omega))
      have HLA : Hid ((addB l z).1.length = N) := by
        show _ = _
        rw [← HL.out]; unfold addB
        split
        · split <;> simp
        · rfl
      clear hcc hzz hz hkL hbb
      go_wp2_with (first
        | (go_at_call 9; (with_reducible refine HA.out.mono ?_); rintro e w4 ⟨rfl, hS4, ho4⟩; have b4 := chainO hb ho4 hg.out))
      refine ⟨⟨k + 1, _, by omega, by go_num, HLA, hS4, b4⟩, ?_⟩
      simp [intOf]; omega
    · have d0 : decide ((k : Int) < (n : Int)) = false := decide_eq_false (by omega)
      have u2 : ¬ (k : Int) < (n : Int) := by omega
      have hl4 : l.length ≤ 4096 := by have := HL.out; omega
      have HL4 := Lib.hid hl4
      obtain ⟨f0, hf0⟩ : ∃ f, f = firstB l 0 true := ⟨_, rfl⟩
      have HNx := Lib.hid (next_at l g 0 f0 wr (ini_small (by omega)) HS.out hl4 hf0.symm)
      have HF0 := Lib.hid hf0
      obtain ⟨wo, rfl⟩ : ∃ wo : World, wo = wr := ⟨_, rfl⟩
      clear hf0 hl4 HR HI HN
      go_wp2_with (first
        | (go_at_call 16; (with_reducible refine HNx.out.mono ?_); rintro e w2 ⟨rfl, hb2⟩; have b2 := chain5 hb hb2; have HS2 : Hid (SetAt w2 g l) := HS.out.below hb2 HS.out.lt))
      have HG2 : Hid (g < w2.heap.size) := HS2.out.lt
      clear HNx hb2 HS hb
      go_loopw [8, 9] (fun v i wr => ∃ (k y : Nat) (f : Int), k ≤ N ∧ i = .int .i64 f ∧ Hid (f = firstB l (k : Int) true) ∧ Hid (y = (listK l k).length) ∧ y ≤ k ∧ wr.ownsRow w2.heap.size 3 1 v y (icells (listK l k)) ∧ Hid (SetAt wr g l) ∧ Below w2.heap.size w2 wr) (fun _ i _ => mf N (intOf i))
      case atStart => exact ⟨0, 0, f0, by omega, rfl, HF0.out, rfl, by omega, World.ownsRow_nil _ _ _ _, HS2, Below.refl _ _⟩
      case round =>
        clear HF0 HS2
        obtain ⟨k, y, f, hk, rfl, HF, HY, hyk, hown, HS, hb⟩ := hrel
        have hl4 := HL4.out
        have hLN := HL.out
        rcases firstB_cases l (k : Int) true with ⟨h1, _⟩ | ⟨j, h1, h2, h3, _, _⟩
        · have hf : f = -1 := HF.out.trans h1
          have HE : Hid (listB l = listK l k) := listK_end l k (by omega) h1
          subst hf
          have hown2 : wr.ownsRow w2.heap.size 3 1 u8 y (icells (listB l)) := by rw [HE.out]; exact hown
          have HYB : Hid (y = (listB l).length) := by show _ = _; rw [HE.out]; exact HY.out
          obtain ⟨A8, c8, rfl⟩ := iown_form hown2
          have HIS : Hid (IS wr wr.heap.size A8 (listB l)) := own_is (by rw [← HYB.out]; exact hown2)
          obtain ⟨q0, hq0⟩ : ∃ f, f = firstB l 0 false := ⟨_, rfl⟩
          have HGx := Lib.hid (gap_at l g 0 q0 wr (ini_small (by omega)) HS.out hl4 hq0.symm)
          have HQ0 := Lib.hid hq0
          have b3 : Below w.heap.size w wr := chain5 b2 hb
          have hy4 : y ≤ 4096 := by omega
          obtain ⟨wo3, rfl⟩ : ∃ wo : World, wo = wr := ⟨_, rfl⟩
          clear HE HF HY hown hown2 hq0 h1 hb b2 hyk hk hl4 hLN
          go_wp2_with (first
            | (go_at_call 18; (with_reducible refine HGx.out.mono ?_); rintro e w4 ⟨rfl, hb4⟩; have b4 := chain5 b3 hb4; have HS4 : Hid (SetAt w4 g l) := HS.out.below hb4 HS.out.lt; have HIS4 : Hid (IS w4 w4.heap.size A8 (listB l)) := Reads.more (Reads.below HIS.out hb4) hb4.size))
          clear HGx hb4 HS HIS b3
          go_loopw [10, 11] (fun v i wr => ∃ (k y : Nat) (f : Int), k ≤ N ∧ v = .int .i64 (y : Int) ∧ i = .int .i64 f ∧ Hid (f = firstB (notL l) (k : Int) true) ∧ Hid (y = (listK (notL l) k).length) ∧ y ≤ k ∧ Hid (SetAt wr g l) ∧ Below w4.heap.size w4 wr) (fun _ i _ => mf N (intOf i))
          case atStart => exact ⟨0, 0, q0, by omega, rfl, rfl, by show _ = _; rw [HQ0.out, firstB_not]; rfl, rfl, by omega, HS4, Below.refl _ _⟩
          case round =>
            clear HQ0 HS4
            obtain ⟨k, z, f, hk, rfl, rfl, HF, HZ, hzk, HS, hb⟩ := hrel
            have hl4 := HL4.out
            have hLN := HL.out
            rcases firstB_cases (notL l) (k : Int) true with ⟨h1, _⟩ | ⟨j, h1, h2, h3, _, _⟩
            · have hf : f = -1 := HF.out.trans h1
              subst hf
              have b5 := chain5 b4 hb
              have HIS5 : Hid (IS wr wr.heap.size A8 (listB l)) := Reads.more (Reads.below HIS4.out hb) hb.size
              have HSum : Hid (z + y = N) := by
                have e1 := listK_end (notL l) k (by rw [notL_length]; omega) h1
                have e2 := listB_not l
                have := HZ.out; have := HYB.out
                show z + y = N
                rw [e1] at e2; omega
              have CS := Lib.hid (list_at l g (listB l) y wr HS.out hl4 rfl HYB.out.symm)
              have CC : Hid (∀ V, SetAt V g l → Calls Tryd.prog 19 #[.pointer (some ⟨g, 0, none⟩)] V fun e w' => e = .returned (.int .i64 (y : Int)) ∧ Below V.heap.size V w') := fun V hV => count_at l g y V hV hl4 (by rw [HYB.out])
              have CI : Hid (∀ V A C c d, IS V V.heap.size A (listB l) → IS V V.heap.size C (listB l) → Calls Tryd.prog 20 #[.slice A y c, .slice C y d] V fun e w' => e = .returned (.bool true) ∧ Below V.heap.size V w') := fun V A C c d h1 h2 => by
                have := ints_any (listB l) (listB l) A C y c y d V.heap.size V HYB.out HYB.out h1 h2 (by omega) (by omega)
                rw [decide_eq_true rfl] at this
                exact this
              have eN : (z : Int) + (y : Int) = (N : Int) := by have := HSum.out; omega
              clear HSum HF HZ hzk hk h1 hl4 hLN
              go_wp2_with (first
                | (go_at_call 21; (with_reducible refine CS.out.mono ?_); rintro e w6 ⟨A6, c6, rfl, hI6, hb6⟩; have b6 := chain5 b5 hb6; have HS6 : Hid (SetAt w6 g l) := HS.out.below hb6 HS.out.lt; have HIS6 : Hid (IS w6 w6.heap.size A8 (listB l)) := Reads.more (Reads.below HIS5.out hb6) hb6.size; have HI6 := Lib.hid hI6; clear hI6)
                | (go_at_call 20; (with_reducible refine (CI.out w6 A8 A6 c8 c6 HIS6.out HI6.out).mono ?_); rintro e w7 ⟨rfl, hb7⟩; have b7 := chain5 b6 hb7; have HS7 : Hid (SetAt w7 g l) := HS6.out.below hb7 HS6.out.lt)
                | (go_at_call 19; (with_reducible refine (CC.out w7 HS7.out).mono ?_); rintro e w8 ⟨rfl, hb8⟩; have b8 := chain5 b7 hb8)
                | (go_at_call 8; (with_reducible refine (HAw.out _ (by assumption)).mono ?_); rintro e w9 ⟨rfl, hb9⟩; have b9 := chain5 b8 hb9))
              go_ret
              exact ⟨rfl, b9⟩
            · have hf : f = (j : Int) := HF.out.trans h1
              subst hf
              obtain ⟨hj1, hj2, hj3⟩ := listK_next (notL l) k j h1
              have HE := Lib.hid hj3
              rw [notL_length] at hj1
              obtain ⟨q, hq⟩ : ∃ q, q = firstB l ((j + 1 : Nat) : Int) false := ⟨_, rfl⟩
              have HGx : Hid (Calls Tryd.prog 18 #[.pointer (some ⟨g, 0, none⟩), .int .i64 ((j : Int) + 1)] wr fun e w' => e = .returned (.int .i64 q) ∧ Below wr.heap.size wr w') := gap_at l g ((j + 1 : Nat) : Int) q wr (ini_small (by omega)) HS.out hl4 hq.symm
              have HQ : Hid (q = firstB (notL l) ((j + 1 : Nat) : Int) true) := by show _ = _; rw [hq, firstB_not]
              have v0 : (0 : Int) ≤ (j : Int) := by omega
              have v1 : decide ((j : Int) ≥ 0) = true := decide_eq_true (by omega)
              have v2 : (z : Int) < (N : Int) := by omega
              have v3 : decide ((z : Int) < (N : Int)) = true := decide_eq_true v2
              have v4 : decide (z < N) = true := decide_eq_true (by omega)
              have hj4 : j < N := by omega
              have hqj : q = -1 ∨ (j : Int) < q ∧ q < N := by
                rcases firstB_cases l ((j + 1 : Nat) : Int) false with ⟨h5, _⟩ | ⟨m, h5, h6, h7, _, _⟩
                · exact .inl (hq.trans h5)
                · right; rw [hq, h5]; omega
              have HQJ := Lib.hid hqj
              clear hq hqj h1 h2 h3 hj3 HF hl4 hLN
              go_wp2_with (first
                | (go_at_call 18; (with_reducible refine HGx.out.mono ?_); rintro e w5 ⟨rfl, hb5⟩; have b5 : Below w4.heap.size w4 w5 := chain5 hb hb5; have HS5 : Hid (SetAt w5 g l) := HS.out.below hb5 HS.out.lt))
              refine ⟨⟨j + 1, z + 1, q, by omega, by go_num, rfl, HQ, by show _ = _; rw [HE.out, HZ.out]; simp, by omega, HS5, b5⟩, ?_⟩
              exact mf_lt hj4 HQJ.out
        · have hf : f = (j : Int) := HF.out.trans h1
          subst hf
          obtain ⟨hj1, hj2, hj3⟩ := listK_next l k j h1
          have HE := Lib.hid hj3
          obtain ⟨q, hq⟩ : ∃ q, q = firstB l ((j + 1 : Nat) : Int) true := ⟨_, rfl⟩
          have HNx : Hid (∀ V, SetAt V g l → Calls Tryd.prog 16 #[.pointer (some ⟨g, 0, none⟩), .int .i64 ((j : Int) + 1)] V fun e w' => e = .returned (.int .i64 q) ∧ Below V.heap.size V w') := fun V hV => next_at l g ((j + 1 : Nat) : Int) q V (ini_small (by omega)) hV hl4 hq.symm
          have HQ := Lib.hid hq
          have v0 : (0 : Int) ≤ (j : Int) := by omega
          have v1 : decide ((j : Int) ≥ 0) = true := decide_eq_true (by omega)
          have v2 : (y : Int) < (N : Int) := by omega
          have v3 : decide ((y : Int) < (N : Int)) = true := decide_eq_true v2
          have v4 : decide (y < N) = true := decide_eq_true (by omega)
          have hj4 : j < N := by omega
          have hqj : q = -1 ∨ (j : Int) < q ∧ q < N := by
            rcases firstB_cases l ((j + 1 : Nat) : Int) true with ⟨h5, _⟩ | ⟨m, h5, h6, h7, _, _⟩
            · exact .inl (hq.trans h5)
            · right; rw [hq, h5]; omega
          have HQJ := Lib.hid hqj
          clear hq hqj h1 h2 h3 hj3 HF hl4 hLN
          obtain ⟨A8, c8, rfl⟩ := iown_form hown
          go_wp2_with (first
            | (at_builtin; refine wpList_append_own _ rfl (.tmp 62) (.tmp 64) _ rfl w2.heap.size 3 i0 _ 1 8 Tryd.underlying37 hi0 hz0 hz1 hz2 rfl (by omega) _ y (icells (listK l k)) rfl (hown.alloc _) ⟨wr.heap.size, 0, none⟩ 1 1 [Value.int .i64 (j : Int)] rfl rfl (cell_one_new _ _ _) (by intro u hu; rw [List.mem_singleton] at hu; subst hu; rfl) (by simp only [maxLen]; omega) (by omega) (by have := hb.size; simp; omega) ?_; intro v3 w3 ho3 hg3 hat3; have b3 : Below w2.heap.size w2 w3 := (hb.alloc hb.size _).grown hg3 (by have := hb.size; simp; omega) (fun q hq => (hown.lt q hq).1); have HS3 : Hid (SetAt w3 g l) := (HS.out.below ((Below.refl wr.heap.size wr).alloc (Nat.le_refl _) _) HS.out.lt).below (B := g + 1) ⟨hg3.os, hg3.tape, hg3.output, by have := hg3.size; have := HS.out.lt; simp at *; omega, fun i hi => hg3.block i (by have := HS.out.lt; simp; omega) (fun e => by have h5 := (hown.lt i e.symm).1; have := HG2.out; omega)⟩ (by omega))
            | (go_at_call 16; (with_reducible refine (HNx.out w3 HS3.out).mono ?_); rintro e w5 ⟨rfl, hb5⟩; have b5 : Below w2.heap.size w2 w5 := b3.trans (hb5.mono b3.size); have HS5 : Hid (SetAt w5 g l) := HS3.out.below hb5 HS3.out.lt))
          have e2 : icells (listK l k) ++ [Value.int .i64 (j : Int)] = icells (listK l (j + 1)) := by rw [HE.out, icells_append]; rfl
          rw [e2] at ho3
          refine ⟨⟨j + 1, y + 1, q, by omega, rfl, HQ.out, by show _ = _; rw [HE.out, HY.out, List.length_append]; rfl, by omega, World.ownsRow.kept ho3 (row := none) ⟨hb5.os, hb5.tape, hb5.output, hb5.size, fun i hi _ => hb5.block i hi⟩ (Classical.em _), HS5, b5⟩, ?_⟩
          exact mf_lt hj4 HQJ.out

set_option maxRecDepth 100000 in
set_option maxHeartbeats 2000000 in
theorem next_any (z : Int) (Z : List Int) (A : Option Addr) (n c : Nat) (w : World) (hz : InI z) (HN : Hid (n = Z.length)) (hr : RI w w.heap.size A Z) (hI : ∀ x ∈ Z, InI x) (hT : Tz w) :
    Calls Tryd.prog 4 #[.int .i64 z, .slice A n c] w fun e w' => e = .returned (.bool true) ∧ Below w.heap.size w w' := by
  have HAw : Hid (∀ V, Below w.heap.size w V → Calls Tryd.prog 8 #[] V fun e w' => e = .returned (.bool true) ∧ Below V.heap.size V w') := fun V hb => awake5_any V (hT.below hb hT.lt)
  have HTz := Lib.hid hT
  clear hT
  have nl := Tryd.nilSet
  have nn := Tryd.nilNone
  have ml := Tryd.notNilSet
  have mn := Tryd.notNilNone
  by_cases hbad : z < 0 ∨ 4096 < z
  · have HO := Lib.hid (bitsOf_bad z w hz hbad)
    clear hbad hz hr hI
    go_enter Tryd.func4, Tryd.ntmps4
    go_wp2_with (first
      | (go_at_call 6; (with_reducible refine HO.out.mono ?_); rintro e w1 ⟨rfl, hb1⟩)
      | (go_at_call 8; (with_reducible refine (HAw.out _ (by assumption)).mono ?_); rintro e w4 ⟨rfl, hb4⟩))
    go_ret
    exact ⟨rfl, chain5 hb1 hb4⟩
  · obtain ⟨N, rfl⟩ : ∃ N : Nat, z = (N : Int) := ⟨z.toNat, by omega⟩
    have hN : N ≤ 4096 := by omega
    by_cases h300 : n ≤ 300
    · exact next_good N Z A n c w hN HN hr hI h300 HTz.out
    · have HO := Lib.hid (bitsOf_any N w hN HTz.out)
      have g1 : decide (300 < (n : Int)) = true := decide_eq_true (by omega)
      have g2 : decide ((n : Int) > 300) = true := decide_eq_true (by omega)
      have g3 : decide (300 < n) = true := decide_eq_true (by omega)
      clear hbad hz hr hI
      go_enter Tryd.func4, Tryd.ntmps4
      go_wp2_with (first
        | (go_at_call 6; (with_reducible refine HO.out.mono ?_); rintro e w1 ⟨g, rfl, hg, hS1, hb1⟩)
        | (go_at_call 8; (with_reducible refine (HAw.out _ (by assumption)).mono ?_); rintro e w4 ⟨rfl, hb4⟩))
      go_ret
      exact ⟨rfl, chain5 hb1 hb4⟩

theorem Tryd.cellsI : Tryd.prog.cellsOf 3 = 1 := by kernel_rfl
set_option maxRecDepth 100000 in
theorem next_lifted (os : Os) (started : os.Started) (H : Type) (enc : TypeId × Value → H) :
    ReturnsInHanded {} Tryd.checked os 4 .any (fun w args => (Rows.bitsNextSpec.pre enc Tryd.prog Tryd.f4 [] false w args ∧ laidMetH Tryd.prog laidZ w) ∧ sizedMet enc Tryd.prog Tryd.f4 (OpenSpec.ofChange Rows.bitsNextSpec) false w args) (Rows.bitsNextSpec.post enc Tryd.prog Tryd.f4 false true false false) := by
  refine returnsInHanded_of_change_and (C := Tryd.checked) (X := fun w _ => laidMetH Tryd.prog laidZ w) (fun _ _ _ hh h => h.of_heap hh) Tryd.own started (by kernel_rfl) Tryd.func4
    (ChangeSpec.witness_shaped (enc := enc) (C := Tryd.checked) (os := os) (X := fun w _ => laidMetH Tryd.prog laidZ w) false (World.doorLaid Tryd.prog 400 os) #[.int .i64 0, .slice none 0 0] 8 rfl (World.shaped_of_RefB (by kernel_rfl) (by kernel_rfl)) (by kernel_rfl) (by kernel_rfl) (by kernel_rfl) (doorZ_met os _)) ?_
  intro W base args ds gs before hval0 hW hcnd hsz0 hL _
  have hval : ∀ (j : Nat) t v, Tryd.f4.params[j]? = some t → args[j]? = some v → Value.okWide Tryd.prog W .any base t v := hval0
  have hW' : DataW.Whole enc Tryd.prog Tryd.f4.params.toList Rows.bitsNextSpec.vars false W args.toList ds gs before := hW
  have hWk := hW'
  obtain ⟨p, q, hA, hV, rfl, hfz, hnd⟩ := hW'
  rw [Tryd.params4] at hA hval
  obtain ⟨v0, v1, d0, d1, p0, p1, rfl, rfl, rfl, h0, h1⟩ := trodAll_two hA
  obtain ⟨rfl, rfl⟩ := trodVars_none hV
  obtain ⟨n, rfl, rfl, rfl, wn⟩ := open_int Tryd.underlying3 (hval 0 3 v0 rfl rfl) h0
  obtain ⟨A, Z, c, rfl, hr, hlc, hcm, hwf⟩ := open_intl Tryd.underlying37 Tryd.underlying3 Tryd.cellsI (hval 1 37 v1 rfl rfl) h1
  refine (next_any n Z A _ c W (ini_of_wf wn) rfl hr (fun x hx => ini_of_wf (hwf x hx)) (tz_of_laid hL)).mono fun e W' ⟨he, hb⟩ => ⟨_, he, ?_⟩
  exact law_post Tryd.laidOut hWk rfl rfl rfl rfl rfl Tryd.underlying4 (by kernel_rfl) hb
theorem next_said : Rows.BitsNextSaid :=
  OpenClaim.holds_of_wide 4 Tryd.f4 rfl rfl rfl rfl rfl rfl rfl ⟨rfl, rfl, rfl, rfl, rfl⟩ rfl rfl rfl rfl rfl (by kernel_rfl) Tryd.func4 (by kernel_rfl)
    (of_decide_eq_true (by kernel_rfl)) (by unfold Func.isWrapper; first | (rw [if_pos (by decide +kernel)]; kernel_rfl) | (rw [if_neg (by decide +kernel)]; exact ⟨rfl, rfl⟩))
    (fun os started H enc _ => next_lifted os started H enc)
theorem next_holds : Rows.BitsNextCardSaid :=
  Claim7.holds_tied_plain_at .later [] [.data] true Rows.bitsNextCard.stood.harness false
    next_said (fun _ h => by cases h) (by kernel_rfl) (fun _ h => by cases h) bitsNext_row_tie rfl ⟨rfl, rfl⟩ (by kernel_rfl) rfl
    (fun f fn hf hfn => by
      obtain rfl : f = 4 := Option.some.inj ((show Tryd.prog.funcNamed "chantry/chantrylaw05.BitsNext" = some 4 by kernel_rfl).symm.trans hf) |>.symm
      obtain rfl : fn = Tryd.f4 := (Option.some.inj (Tryd.func4.symm.trans hfn)).symm
      exact ⟨by kernel_rfl, fun j t ht => by
        rw [Tryd.params4] at ht
        have hm : t ∈ [3, 37] := by simpa using Array.mem_of_getElem? ht
        have hall : ([3, 37].all fun u => !Tryd.prog.wantsStandIn u) = true := by kernel_rfl
        exact (show Tryd.prog.wantsStandIn t = false by simpa using List.all_eq_true.1 hall t hm)⟩)
    (by kernel_rfl)

end Go.Proofs.YtppjeakgabakeaaDoor
