/- BitsClones returns true for every number and every two lists of deeds, and leaves memory that was there as it was; the library table of math/bits lies as its text lays it (the card ties that); nothing else is assumed beyond the statement itself. -/
import Derived.Test.YtppjeakgabakeaaDoorBitsClonesA
import Derived.Test.YtppjeakgabakeaaDoorBitsLaid
import Derived.Test.YtppjeakgabakeaaDoorCards
import Derived.Test.YtppjeakgabakeaaDoorTie
import Derived.SevenTiedAt
set_option linter.unusedVariables false
namespace Go.Proofs.YtppjeakgabakeaaDoor
open Go.ChangeShapes Go.WideShapes Go.ChangeAt Go.RowKit

set_option maxRecDepth 100000 in
set_option maxHeartbeats 2000000 in
theorem clones_any (z : Int) (D E : List (Int × Int)) (A C : Option Addr) (n c m d : Nat) (w : World) (hz : InI z) (HN : Hid (n = D.length)) (HM : Hid (m = E.length)) (hr : DS w w.heap.size A D) (hr2 : DS w w.heap.size C E) (hI : ∀ x ∈ D, InI x.1 ∧ InI x.2) (hI2 : ∀ x ∈ E, InI x.1 ∧ InI x.2) (hT : Tz w) :
    Calls Tryd.prog 5 #[.int .i64 z, .slice A n c, .slice C m d] w fun e w' => e = .returned (.bool true) ∧ Below w.heap.size w w' := by
  have HAw : Hid (∀ V, Below w.heap.size w V → Calls Tryd.prog 8 #[] V fun e w' => e = .returned (.bool true) ∧ Below V.heap.size V w') := fun V hb => awake5_any V (hT.below hb hT.lt)
  have HTz := Lib.hid hT
  clear hT
  have nl := Tryd.nilSet
  have nn := Tryd.nilNone
  have ml := Tryd.notNilSet
  have mn := Tryd.notNilNone
  by_cases hbad : z < 0 ∨ 4096 < z
  · have HO := Lib.hid (bitsOf_bad z w hz hbad)
    have HO2 := Lib.hid (fun V => refOf_bad z V hbad)
    clear hbad hz hr hr2 hI hI2
    go_enter Tryd.func5, Tryd.ntmps5
    go_wp2_with (first
      | (go_at_call 6; (with_reducible refine HO.out.mono ?_); rintro e w1 ⟨rfl, hb1⟩)
      | (go_at_call 7; (with_reducible refine (HO2.out _).mono ?_); rintro e w2 ⟨rfl, hb2⟩; have b2 := chain5 hb1 hb2; have b3 := b2.alloc b2.size (.cells #[.slice none 0 0] 29))
      | (go_at_call 8; (with_reducible refine (HAw.out _ (by assumption)).mono ?_); rintro e w4 ⟨rfl, hb4⟩))
    go_ret
    exact ⟨rfl, chain5 b3 hb4⟩
  · obtain ⟨N, rfl⟩ : ∃ N : Nat, z = (N : Int) := ⟨z.toNat, by omega⟩
    have hN : N ≤ 4096 := by omega
    by_cases h40 : n ≤ 40
    · by_cases h41 : m ≤ 40
      · exact clones_good N D E A C n c m d w hN HN HM hr hr2 hI hI2 h40 h41 HTz.out
      · have HO := Lib.hid (bitsOf_any N w hN HTz.out)
        have HO2 := Lib.hid (fun V => refOf_any N V hN)
        have g1 : decide (40 < (n : Int)) = false := decide_eq_false (by omega)
        have g2 : decide ((n : Int) > 40) = false := decide_eq_false (by omega)
        have g3 : decide (40 < n) = false := decide_eq_false (by omega)
        have g4 : decide (40 < (m : Int)) = true := decide_eq_true (by omega)
        have g5 : decide ((m : Int) > 40) = true := decide_eq_true (by omega)
        have g6 : decide (40 < m) = true := decide_eq_true (by omega)
        clear hbad hz hr hr2 hI hI2
        go_enter Tryd.func5, Tryd.ntmps5
        go_wp2_with (first
          | (go_at_call 6; (with_reducible refine HO.out.mono ?_); rintro e w1 ⟨g, rfl, hg, hS1, hb1⟩)
          | (go_at_call 7; (with_reducible refine (HO2.out _).mono ?_); rintro e w2 ⟨A2, rfl, hB2, hb2, hA2⟩; have b2 := chain5 hb1 hb2; have b3 := b2.alloc b2.size (.cells #[.slice A2 N N] 29))
          | (go_at_call 8; (with_reducible refine (HAw.out _ (by assumption)).mono ?_); rintro e w4 ⟨rfl, hb4⟩))
        go_ret
        exact ⟨rfl, chain5 b3 hb4⟩
    · have HO := Lib.hid (bitsOf_any N w hN HTz.out)
      have HO2 := Lib.hid (fun V => refOf_any N V hN)
      have g1 : decide (40 < (n : Int)) = true := decide_eq_true (by omega)
      have g2 : decide ((n : Int) > 40) = true := decide_eq_true (by omega)
      have g3 : decide (40 < n) = true := decide_eq_true (by omega)
      clear hbad hz hr hr2 hI hI2
      go_enter Tryd.func5, Tryd.ntmps5
      go_wp2_with (first
        | (go_at_call 6; (with_reducible refine HO.out.mono ?_); rintro e w1 ⟨g, rfl, hg, hS1, hb1⟩)
        | (go_at_call 7; (with_reducible refine (HO2.out _).mono ?_); rintro e w2 ⟨A2, rfl, hB2, hb2, hA2⟩; have b2 := chain5 hb1 hb2; have b3 := b2.alloc b2.size (.cells #[.slice A2 N N] 29))
        | (go_at_call 8; (with_reducible refine (HAw.out _ (by assumption)).mono ?_); rintro e w4 ⟨rfl, hb4⟩))
      go_ret
      exact ⟨rfl, chain5 b3 hb4⟩

set_option maxRecDepth 100000 in
theorem clones_lifted (os : Os) (started : os.Started) (H : Type) (enc : TypeId × Value → H) :
    ReturnsInHanded {} Tryd.checked os 5 .any (fun w args => (Rows.bitsClonesSpec.pre enc Tryd.prog Tryd.f5 [] false w args ∧ laidMetH Tryd.prog laidZ w) ∧ sizedMet enc Tryd.prog Tryd.f5 (OpenSpec.ofChange Rows.bitsClonesSpec) false w args) (Rows.bitsClonesSpec.post enc Tryd.prog Tryd.f5 false true false false) := by
  refine returnsInHanded_of_change_and (C := Tryd.checked) (X := fun w _ => laidMetH Tryd.prog laidZ w) (fun _ _ _ hh h => h.of_heap hh) Tryd.own started (by kernel_rfl) Tryd.func5
    (ChangeSpec.witness_shaped (enc := enc) (C := Tryd.checked) (os := os) (X := fun w _ => laidMetH Tryd.prog laidZ w) false (World.doorLaid Tryd.prog 400 os) #[.int .i64 0, .slice none 0 0, .slice none 0 0] 8 rfl (World.shaped_of_RefB (by kernel_rfl) (by kernel_rfl)) (by kernel_rfl) (by kernel_rfl) (by kernel_rfl) (doorZ_met os _)) ?_
  intro W base args ds gs before hval0 hW hcnd hsz0 hL _
  have hval : ∀ (j : Nat) t v, Tryd.f5.params[j]? = some t → args[j]? = some v → Value.okWide Tryd.prog W .any base t v := hval0
  have hW' : DataW.Whole enc Tryd.prog Tryd.f5.params.toList Rows.bitsClonesSpec.vars false W args.toList ds gs before := hW
  have hWk := hW'
  obtain ⟨p, q, hA, hV, rfl, hfz, hnd⟩ := hW'
  rw [Tryd.params5] at hA hval
  obtain ⟨v0, v1, v2, d0, d1, d2, p0, p1, p2, rfl, rfl, rfl, h0, h1, h2⟩ := trodAll_three hA
  obtain ⟨rfl, rfl⟩ := trodVars_none hV
  obtain ⟨n, rfl, rfl, rfl, wn⟩ := open_int Tryd.underlying3 (hval 0 3 v0 rfl rfl) h0
  obtain ⟨A, D, c, rfl, hr, hlc, hcm, hw⟩ := open_deeds Tryd.underlying22 Tryd.underlying34 (by kernel_rfl) rfl rfl (by kernel_rfl) (by kernel_rfl) Tryd.underlying3 Tryd.underlying3 (hval 1 22 v1 rfl rfl) h1
  obtain ⟨C, E, d, rfl, hr2, hlc2, hcm2, hw2⟩ := open_deeds Tryd.underlying22 Tryd.underlying34 (by kernel_rfl) rfl rfl (by kernel_rfl) (by kernel_rfl) Tryd.underlying3 Tryd.underlying3 (hval 2 22 v2 rfl rfl) h2
  refine (clones_any n D E A C _ c _ d W (ini_of_wf wn) rfl rfl hr hr2 hw hw2 (tz_of_laid hL)).mono fun e W' ⟨he, hb⟩ => ⟨_, he, ?_⟩
  exact law_post Tryd.laidOut hWk rfl rfl rfl rfl rfl Tryd.underlying4 (by kernel_rfl) hb
theorem clones_said : Rows.BitsClonesSaid :=
  OpenClaim.holds_of_wide 5 Tryd.f5 rfl rfl rfl rfl rfl rfl rfl ⟨rfl, rfl, rfl, rfl, rfl⟩ rfl rfl rfl rfl rfl (by kernel_rfl) Tryd.func5 (by kernel_rfl)
    (of_decide_eq_true (by kernel_rfl)) (by unfold Func.isWrapper; first | (rw [if_pos (by decide +kernel)]; kernel_rfl) | (rw [if_neg (by decide +kernel)]; exact ⟨rfl, rfl⟩))
    (fun os started H enc _ => clones_lifted os started H enc)
theorem clones_holds : Rows.BitsClonesCardSaid :=
  Claim7.holds_tied_plain_at .later [] [.data] true Rows.bitsClonesCard.stood.harness false
    clones_said (fun _ h => by cases h) (by kernel_rfl) (fun _ h => by cases h) bitsClones_row_tie rfl ⟨rfl, rfl⟩ (by kernel_rfl) rfl
    (fun f fn hf hfn => by
      obtain rfl : f = 5 := Option.some.inj ((show Tryd.prog.funcNamed "chantry/chantrylaw05.BitsClones" = some 5 by kernel_rfl).symm.trans hf) |>.symm
      obtain rfl : fn = Tryd.f5 := (Option.some.inj (Tryd.func5.symm.trans hfn)).symm
      exact ⟨by kernel_rfl, fun j t ht => by
        rw [Tryd.params5] at ht
        have hm : t ∈ [3, 22, 22] := by simpa using Array.mem_of_getElem? ht
        have hall : ([3, 22, 22].all fun u => !Tryd.prog.wantsStandIn u) = true := by kernel_rfl
        exact (show Tryd.prog.wantsStandIn t = false by simpa using List.all_eq_true.1 hall t hm)⟩)
    (by kernel_rfl)

end Go.Proofs.YtppjeakgabakeaaDoor
