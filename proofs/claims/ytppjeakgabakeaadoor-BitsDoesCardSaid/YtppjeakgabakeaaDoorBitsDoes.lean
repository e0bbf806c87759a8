/- BitsDoes returns true for every number and every list of deeds, and leaves memory that was there as it was; the library table of math/bits lies as its text lays it (the card ties that); nothing else is assumed beyond the statement itself. -/
import Derived.Test.YtppjeakgabakeaaDoorBitsDoesA
import Derived.Test.YtppjeakgabakeaaDoorBitsLaid
import Derived.Test.YtppjeakgabakeaaDoorCards
import Derived.Test.YtppjeakgabakeaaDoorTie
import Derived.SevenTiedAt
set_option linter.unusedVariables false
namespace Go.Proofs.YtppjeakgabakeaaDoor
open Go.ChangeShapes Go.WideShapes Go.ChangeAt Go.RowKit

set_option maxRecDepth 100000 in
set_option maxHeartbeats 2000000 in
theorem does_any (z : Int) (D : List (Int × Int)) (A : Option Addr) (n c : Nat) (w : World) (hz : InI z) (HN : Hid (n = D.length)) (hr : DS w w.heap.size A D) (hI : ∀ x ∈ D, InI x.1 ∧ InI x.2) (hc : n ≤ c) (hcm : c ≤ 9223372036854775807) (hT : Tz w) :
    Calls Tryd.prog 3 #[.int .i64 z, .slice A n c] w fun e w' => e = .returned (.bool true) ∧ Below w.heap.size w w' := by
  have HR := Lib.hid hr
  have HI := Lib.hid hI
  have HAw : Hid (∀ V, Below w.heap.size w V → Calls Tryd.prog 8 #[] V fun e w' => e = .returned (.bool true) ∧ Below V.heap.size V w') := fun V hb => awake5_any V (hT.below hb hT.lt)
  have HTz := Lib.hid hT
  clear hT
  have nl := Tryd.nilSet
  have nn := Tryd.nilNone
  have ml := Tryd.notNilSet
  have mn := Tryd.notNilNone
  have n0 := fun w' => Tryd.notFalse w'
  have n1 := fun w' => Tryd.notTrue w'
  clear hr hI
  by_cases hbad : z < 0 ∨ 4096 < z
  · have HO := Lib.hid (bitsOf_bad z w hz hbad)
    have HO2 := Lib.hid (fun V => refOf_bad z V hbad)
    clear hbad hz
    by_cases h60 : n ≤ 60
    · have g1 : decide (60 < (n : Int)) = false := decide_eq_false (by omega)
      have g2 : decide ((n : Int) > 60) = false := decide_eq_false (by omega)
      have g3 : decide (60 < n) = false := decide_eq_false (by omega)
      go_enter Tryd.func3, Tryd.ntmps3
      go_wp2_with (first
        | (go_at_call 6; (with_reducible refine HO.out.mono ?_); rintro e w1 ⟨rfl, hb1⟩)
        | (go_at_call 7; (with_reducible refine (HO2.out _).mono ?_); rintro e w2 ⟨rfl, hb2⟩; have b2 := chain5 hb1 hb2))
      go_loopw [9] (fun v wr => v = .int .i64 0 ∧ Below w.heap.size w wr) (fun _ _ => 0)
      case atStart => exact ⟨rfl, b2.alloc b2.size _⟩
      case round =>
        obtain ⟨rfl, hb⟩ := hrel
        by_cases h0 : 0 < n
        · have d0 : decide ((0 : Int) < (n : Int)) = true := decide_eq_true (by omega)
          have d1 : decide (0 < n) = true := decide_eq_true h0
          go_wp2_with (first
            | (go_at_call 8; (with_reducible refine (HAw.out _ (by assumption)).mono ?_); rintro e w3 ⟨rfl, hb3⟩))
          go_ret
          exact ⟨rfl, chain5 hb hb3⟩
        · have h00 : n = 0 := by omega
          clear g1 g2 g3
          subst h00
          go_wp2_with (first
            | (go_at_call 8; (with_reducible refine (HAw.out _ (by assumption)).mono ?_); rintro e w3 ⟨rfl, hb3⟩))
          go_ret
          exact ⟨rfl, chain5 hb hb3⟩
    · have g1 : decide (60 < (n : Int)) = true := decide_eq_true (by omega)
      have g2 : decide ((n : Int) > 60) = true := decide_eq_true (by omega)
      have g3 : decide (60 < n) = true := decide_eq_true (by omega)
      go_enter Tryd.func3, Tryd.ntmps3
      go_wp2_with (first
        | (go_at_call 6; (with_reducible refine HO.out.mono ?_); rintro e w1 ⟨rfl, hb1⟩)
        | (go_at_call 7; (with_reducible refine (HO2.out _).mono ?_); rintro e w2 ⟨rfl, hb2⟩; have b2 := chain5 hb1 hb2; have b3 := b2.alloc b2.size (.cells #[.slice none 0 0] 29))
        | (go_at_call 8; (with_reducible refine (HAw.out _ (by assumption)).mono ?_); rintro e w4 ⟨rfl, hb4⟩))
      go_ret
      exact ⟨rfl, chain5 b3 hb4⟩
  · obtain ⟨N, rfl⟩ : ∃ N : Nat, z = (N : Int) := ⟨z.toNat, by omega⟩
    have hN : N ≤ 4096 := by omega
    have HO := Lib.hid (bitsOf_any N w hN HTz.out)
    have HO2 := Lib.hid (fun V => refOf_any N V hN)
    clear hbad hz
    by_cases h60 : n ≤ 60
    · exact does_good N D A n c w hN HN HR.out HI.out hc hcm h60 HTz.out
    · have g1 : decide (60 < (n : Int)) = true := decide_eq_true (by omega)
      have g2 : decide ((n : Int) > 60) = true := decide_eq_true (by omega)
      have g3 : decide (60 < n) = true := decide_eq_true (by omega)
      go_enter Tryd.func3, Tryd.ntmps3
      go_wp2_with (first
        | (go_at_call 6; (with_reducible refine HO.out.mono ?_); rintro e w1 ⟨g, rfl, hg, hS1, hb1⟩)
        | (go_at_call 7; (with_reducible refine (HO2.out _).mono ?_); rintro e w2 ⟨A2, rfl, hB2, hb2, hA2⟩; have b2 := chain5 hb1 hb2; have b3 := b2.alloc b2.size (.cells #[.slice A2 N N] 29))
        | (go_at_call 8; (with_reducible refine (HAw.out _ (by assumption)).mono ?_); rintro e w4 ⟨rfl, hb4⟩))
      go_ret
      exact ⟨rfl, chain5 b3 hb4⟩

set_option maxRecDepth 100000 in
theorem does_lifted (os : Os) (started : os.Started) (H : Type) (enc : TypeId × Value → H) :
    ReturnsInHanded {} Tryd.checked os 3 .any (fun w args => (Rows.bitsDoesSpec.pre enc Tryd.prog Tryd.f3 [] false w args ∧ laidMetH Tryd.prog laidZ w) ∧ sizedMet enc Tryd.prog Tryd.f3 (OpenSpec.ofChange Rows.bitsDoesSpec) false w args) (Rows.bitsDoesSpec.post enc Tryd.prog Tryd.f3 false true false false) := by
  refine returnsInHanded_of_change_and (C := Tryd.checked) (X := fun w _ => laidMetH Tryd.prog laidZ w) (fun _ _ _ hh h => h.of_heap hh) Tryd.own started (by kernel_rfl) Tryd.func3
    (ChangeSpec.witness_shaped (enc := enc) (C := Tryd.checked) (os := os) (X := fun w _ => laidMetH Tryd.prog laidZ w) false (World.doorLaid Tryd.prog 400 os) #[.int .i64 0, .slice none 0 0] 8 rfl (World.shaped_of_RefB (by kernel_rfl) (by kernel_rfl)) (by kernel_rfl) (by kernel_rfl) (by kernel_rfl) (doorZ_met os _)) ?_
  intro W base args ds gs before hval0 hW hcnd hsz0 hL _
  have hval : ∀ (j : Nat) t v, Tryd.f3.params[j]? = some t → args[j]? = some v → Value.okWide Tryd.prog W .any base t v := hval0
  have hW' : DataW.Whole enc Tryd.prog Tryd.f3.params.toList Rows.bitsDoesSpec.vars false W args.toList ds gs before := hW
  have hWk := hW'
  obtain ⟨p, q, hA, hV, rfl, hfz, hnd⟩ := hW'
  rw [Tryd.params3] at hA hval
  obtain ⟨v0, v1, d0, d1, p0, p1, rfl, rfl, rfl, h0, h1⟩ := trodAll_two hA
  obtain ⟨rfl, rfl⟩ := trodVars_none hV
  obtain ⟨n, rfl, rfl, rfl, wn⟩ := open_int Tryd.underlying3 (hval 0 3 v0 rfl rfl) h0
  obtain ⟨A, D, c, rfl, hr, hlc, hcm, hw⟩ := open_deeds Tryd.underlying22 Tryd.underlying34 (by kernel_rfl) rfl rfl (by kernel_rfl) (by kernel_rfl) Tryd.underlying3 Tryd.underlying3 (hval 1 22 v1 rfl rfl) h1
  refine (does_any n D A _ c W (ini_of_wf wn) rfl hr hw hlc hcm (tz_of_laid hL)).mono fun e W' ⟨he, hb⟩ => ⟨_, he, ?_⟩
  exact law_post Tryd.laidOut hWk rfl rfl rfl rfl rfl Tryd.underlying4 (by kernel_rfl) hb
theorem does_said : Rows.BitsDoesSaid :=
  OpenClaim.holds_of_wide 3 Tryd.f3 rfl rfl rfl rfl rfl rfl rfl ⟨rfl, rfl, rfl, rfl, rfl⟩ rfl rfl rfl rfl rfl (by kernel_rfl) Tryd.func3 (by kernel_rfl)
    (of_decide_eq_true (by kernel_rfl)) (by unfold Func.isWrapper; first | (rw [if_pos (by decide +kernel)]; kernel_rfl) | (rw [if_neg (by decide +kernel)]; exact ⟨rfl, rfl⟩))
    (fun os started H enc _ => does_lifted os started H enc)
theorem does_holds : Rows.BitsDoesCardSaid :=
  Claim7.holds_tied_plain_at .later [] [.data] true Rows.bitsDoesCard.stood.harness false
    does_said (fun _ h => by cases h) (by kernel_rfl) (fun _ h => by cases h) bitsDoes_row_tie rfl ⟨rfl, rfl⟩ (by kernel_rfl) rfl
    (fun f fn hf hfn => by
      obtain rfl : f = 3 := Option.some.inj ((show Tryd.prog.funcNamed "chantry/chantrylaw05.BitsDoes" = some 3 by kernel_rfl).symm.trans hf) |>.symm
      obtain rfl : fn = Tryd.f3 := (Option.some.inj (Tryd.func3.symm.trans hfn)).symm
      exact ⟨by kernel_rfl, fun j t ht => by
        rw [Tryd.params3] at ht
        have hm : t ∈ [3, 22] := by simpa using Array.mem_of_getElem? ht
        have hall : ([3, 22].all fun u => !Tryd.prog.wantsStandIn u) = true := by kernel_rfl
        exact (show Tryd.prog.wantsStandIn t = false by simpa using List.all_eq_true.1 hall t hm)⟩)
    (by kernel_rfl)

end Go.Proofs.YtppjeakgabakeaaDoor
