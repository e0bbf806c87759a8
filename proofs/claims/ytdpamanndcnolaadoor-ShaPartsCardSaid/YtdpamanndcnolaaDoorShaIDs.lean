/- ShaIDs returns true for every slice of bytes, and leaves memory that was there as it was; the rounds' numbers lie as the program's text lays them (the card ties that); nothing else is assumed beyond the statement itself. -/
import Derived.Test.YtdpamanndcnolaaDoorShaAwake
import Derived.Test.YtdpamanndcnolaaDoorLaw
import Derived.Lib.LaidTab
import Derived.LaidMore
import Derived.Stop.Joined
import Derived.Test.YtdpamanndcnolaaDoorCards
import Derived.Test.YtdpamanndcnolaaDoorTie
import Derived.SevenTiedAt
set_option linter.unusedVariables false
namespace Go.Proofs.YtdpamanndcnolaaDoor
open Go.ChangeShapes Go.WideShapes Go.ChangeAt Go.RowKit

/-- The rounds' numbers, as the row lists them. -/
def laidS : List (String × DataW Unit) := [("chantry/sha.roundNumbers", Rows.laid_chantry_sha_roundNumbers)]
theorem Tryd.gRounds : Tryd.prog.globalNamed "chantry/sha.roundNumbers" = some 0 := by kernel_rfl
theorem Tryd.tRounds : (Tryd.prog.globals[0]?).map (·.type) = some 49 := by kernel_rfl
theorem Tryd.cells35 : Tryd.prog.cellsOf 35 = 1 := by kernel_rfl
theorem Tryd.cells49 : Tryd.prog.cellsOf 49 = 64 := by kernel_rfl
theorem Tryd.cells5s : Tryd.prog.cellsOf 5 = 1 := by kernel_rfl
theorem laidS_tab : laidS = [("chantry/sha.roundNumbers", Lib.tabData .u32 (kL.map fun x => (x.toNat : Int)))] := rfl
/-- The door's own heap meets the condition. -/
theorem door_met (os : Os) (args : Array Value) : laidMetH Tryd.prog laidS ((World.doorLaid Tryd.prog 400 os).forCall (fun _ _ => 0) ⟨#[], args, []⟩).memory :=
  laidMetH_of_parts3 (fuel := 8) (laidMet_of_run' 8 (by kernel_rfl) (by kernel_rfl)) (by kernel_rfl) (by kernel_rfl)
theorem tab_of_laid {W : World} (h : laidMetH Tryd.prog laidS W) : Tab W := by
  rw [MakeChecks.laidMetH_plain _ _ _ (by kernel_rfl), laidS_tab] at h
  have hI := Lib.tabIs_of_head Tryd.gRounds Tryd.tRounds Tryd.underlying49 Tryd.underlying35 Tryd.cells35 Tryd.cells49 h
  intro n hn
  rw [hI.cell Tryd.gRounds n (by simp [kL_length]; exact hn)]
  simp [List.getD, List.getElem?_eq_getElem (show n < kL.length by rw [kL_length]; exact hn)]

set_option maxRecDepth 100000 in
set_option maxHeartbeats 1000000 in
theorem ids_any (L : List UInt8) (A : Option Addr) (c : Nat) (w : World) (hr : RB w w.heap.size A L) (hT : Tab w) (hc : L.length ≤ c) (hcm : c ≤ 9223372036854775807) :
    Calls Tryd.prog 3 #[.slice A L.length c] w fun e w' => e = .returned (.bool true) ∧ Below w.heap.size w w' := by
  by_cases hl : 1000 < L.length
  · have hl' : (1000 : Int) < (L.length : Int) := by omega
    go_enter Tryd.func3, Tryd.ntmps3
    go_wp2_with (go_at_call 6; refine (awake_any _ hT).mono ?_; rintro e w' ⟨rfl, hb⟩)
    go_ret
    exact ⟨rfl, hb⟩
  obtain ⟨t, ht⟩ : ∃ t, t = text (idL L) := ⟨_, rfl⟩
  have HI : Hid (Calls Tryd.prog 7 #[.slice A L.length c] w fun e w' => e = .returned (.string t) ∧ Below w.heap.size w w') := by
    rw [ht]; exact id_any L A L.length c w.heap.size w hr (Nat.le_refl _) hT rfl (by omega) hc hcm
  have HR : Hid (∀ V, Below w.heap.size w V → Calls Tryd.prog 8 #[.slice A L.length c] V fun e w' => e = .returned (.string t) ∧ Below V.heap.size V w') := fun V hb => by
    rw [ht]; exact refID_any L A c w.heap.size V (hr.below hb) L.length rfl (by omega)
  have HTb : Hid (Tab w) := hT
  clear ht hr hT
  go_enter Tryd.func3, Tryd.ntmps3
  go_wp2_with (first
    | (go_at_call 7; (with_reducible refine HI.out.mono ?_); rintro e w1 ⟨rfl, hb1⟩)
    | (go_at_call 8; (with_reducible refine (HR.out _ hb1).mono ?_); rintro e w2 ⟨rfl, hb2⟩; have b2 : Below w.heap.size w w2 := hb1.trans (hb2.mono hb1.size))
    | (go_at_call 6; refine (awake_any _ (HTb.out.below b2)).mono ?_; rintro e w3 ⟨rfl, hb3⟩))
  go_ret
  exact ⟨rfl, b2.trans (hb3.mono b2.size)⟩

set_option maxRecDepth 100000 in
theorem ids_lifted (os : Os) (started : os.Started) (H : Type) (enc : TypeId × Value → H) :
    ReturnsInHanded {} Tryd.checked os 3 .any (fun w args => (Rows.shaIDsSpec.pre enc Tryd.prog Tryd.f3 [] false w args ∧ laidMetH Tryd.prog laidS w) ∧ sizedMet enc Tryd.prog Tryd.f3 (OpenSpec.ofChange Rows.shaIDsSpec) false w args)
      (Rows.shaIDsSpec.post enc Tryd.prog Tryd.f3 false true false false) := by
  refine returnsInHanded_of_change_and (C := Tryd.checked) (X := fun w _ => laidMetH Tryd.prog laidS w) (fun _ _ _ hh h => h.of_heap hh) Tryd.own started (by kernel_rfl) Tryd.func3
    (ChangeSpec.witness_shaped (enc := enc) (C := Tryd.checked) (os := os) (X := fun w _ => laidMetH Tryd.prog laidS w) false (World.doorLaid Tryd.prog 400 os) #[.slice none 0 0] 8 rfl (World.shaped_of_RefB (by kernel_rfl) (by kernel_rfl)) (by kernel_rfl) (by kernel_rfl) (by kernel_rfl) (door_met os _)) ?_
  intro W base args ds gs before hval0 hW hcnd hsz0 hL _
  have hval : ∀ (j : Nat) t v, Tryd.f3.params[j]? = some t → args[j]? = some v → Value.okWide Tryd.prog W .any base t v := hval0
  have hW' : DataW.Whole enc Tryd.prog Tryd.f3.params.toList Rows.shaIDsSpec.vars false W args.toList ds gs before := hW
  have hWk := hW'
  obtain ⟨p, q, hA, hV, rfl, hfz, hnd⟩ := hW'
  rw [Tryd.params3] at hA hval
  obtain ⟨v0, d0, rfl, rfl, h0⟩ := trodAll_one hA
  obtain ⟨rfl, rfl⟩ := trodVars_none hV
  obtain ⟨A, L, c, rfl, hr, hlc, hcm⟩ := open_bytes Tryd.underlying22 Tryd.underlying5 Tryd.cells5s (hval 0 22 v0 rfl rfl) h0
  refine (ids_any L A c W hr (tab_of_laid hL) hlc hcm).mono fun e W' ⟨he, hb⟩ => ⟨_, he, ?_⟩
  exact law_post Tryd.laidOut hWk rfl rfl rfl rfl rfl Tryd.underlying4 (by kernel_rfl) hb
theorem ids_said : Rows.ShaIDsSaid :=
  OpenClaim.holds_of_wide 3 Tryd.f3 rfl rfl rfl rfl rfl rfl rfl ⟨rfl, rfl, rfl, rfl, rfl⟩ rfl rfl rfl rfl rfl (by kernel_rfl) Tryd.func3 (by kernel_rfl)
    (of_decide_eq_true (by kernel_rfl)) (by unfold Func.isWrapper; first | (rw [if_pos (by decide +kernel)]; kernel_rfl) | (rw [if_neg (by decide +kernel)]; exact ⟨rfl, rfl⟩))
    (fun os started H enc _ => ids_lifted os started H enc)
theorem ids_holds : Rows.ShaIDsCardSaid :=
  Claim7.holds_tied_plain_at .later [] [.data] true Rows.shaIDsCard.stood.harness false
    ids_said (fun _ h => by cases h) (by kernel_rfl) (fun _ h => by cases h) shaIDs_row_tie rfl ⟨rfl, rfl⟩ (by kernel_rfl) rfl
    (fun f fn hf hfn => by
      obtain rfl : f = 3 := Option.some.inj ((show Tryd.prog.funcNamed "chantry/chantrylaw03.ShaIDs" = some 3 by kernel_rfl).symm.trans hf) |>.symm
      obtain rfl : fn = Tryd.f3 := (Option.some.inj (Tryd.func3.symm.trans hfn)).symm
      exact ⟨by kernel_rfl, fun j t ht => by
        rw [Tryd.params3] at ht
        have hm : t ∈ [22] := by simpa using Array.mem_of_getElem? ht
        have hall : ([22].all fun u => !Tryd.prog.wantsStandIn u) = true := by kernel_rfl
        exact (show Tryd.prog.wantsStandIn t = false by simpa using List.all_eq_true.1 hall t hm)⟩)
    (by kernel_rfl)

end Go.Proofs.YtdpamanndcnolaaDoor
