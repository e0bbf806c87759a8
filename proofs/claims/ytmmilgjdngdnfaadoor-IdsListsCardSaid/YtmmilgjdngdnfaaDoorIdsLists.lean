/- IdsLists returns true for every slice of texts and every text. -/
import Derived.Test.YtmmilgjdngdnfaaDoorIdsSets
import Derived.Test.YtmmilgjdngdnfaaDoorIdsTag
set_option linter.unusedVariables false
namespace Go.Proofs.YtmmilgjdngdnfaaDoor
open Go.ChangeShapes Go.WideShapes Go.ChangeAt Go.RowKit

set_option maxRecDepth 100000 in
set_option maxHeartbeats 2000000 in
theorem lists_any (Ls : List Bs) (x : Bs) (A : Option Addr) (n c : Nat) (w : World) (HN : Hid (n = Ls.length)) (hr : SS w w.heap.size A Ls) (hT : Tab w) (hc : n ≤ c) (hcm : c ≤ 9223372036854775807) :
    Calls Tryd.prog 3 #[.slice A n c, .string (text x)] w fun e w' => e = .returned (.bool true) ∧ Below w.heap.size w w' := by
  have HAw : Hid (∀ V, Below w.heap.size w V → Calls Tryd.prog 8 #[] V fun e w' => e = .returned (.bool true) ∧ Below V.heap.size V w') := fun V hb => awake_any V (hT.below hb)
  have HR : Hid (SS w w.heap.size A Ls) := hr
  have HTb : Hid (Tab w) := hT
  obtain ⟨t, ht⟩ : ∃ t, t = text x := ⟨_, rfl⟩
  obtain ⟨m, hm⟩ : ∃ m, m = x.length := ⟨_, rfl⟩
  have hts : t.size = m := by rw [ht, hm]; exact text_size x
  have HF1 : Hid (Calls Tryd.prog 7 #[.slice A n c] w fun e w' => e = .returned (.bool (fewL Ls)) ∧ w = w') := few_any Ls A n c _ w HN hr
  have Ht := Lib.hid ht
  rw [← ht]
  clear hr hT ht hm
  cases hf1 : fewL Ls with
  | false =>
    rw [hf1] at HF1
    clear hf1
    go_enter Tryd.func3, Tryd.ntmps3
    go_wp2_with (first
      | (go_at_call 7; (with_reducible refine HF1.out.mono ?_); rintro e w' ⟨rfl, rfl⟩)
      | (go_at_call 8; (with_reducible refine (HAw.out _ (Below.refl _ _)).mono ?_); rintro e w1 ⟨rfl, hb1⟩))
    go_ret
    exact ⟨rfl, hb1⟩
  | true =>
  have hn60 := few_len HN.out hf1
  rw [hf1] at HF1
  clear hf1
  by_cases h100 : 100 < m
  · have d0 : (100 : Int) < (m : Int) := by omega
    have d1 : decide ((100 : Int) < (m : Int)) = true := decide_eq_true d0
    have d2 : decide (100 < m) = true := decide_eq_true h100
    go_enter Tryd.func3, Tryd.ntmps3
    go_wp2_with (first
      | (go_at_call 7; (with_reducible refine HF1.out.mono ?_); rintro e w' ⟨rfl, rfl⟩)
      | (go_at_call 8; (with_reducible refine (HAw.out _ (Below.refl _ _)).mono ?_); rintro e w1 ⟨rfl, hb1⟩))
    go_ret
    exact ⟨rfl, hb1⟩
  · have d0 : (m : Int) ≤ 100 := by omega
    have d1 : decide ((100 : Int) < (m : Int)) = false := decide_eq_false (by omega)
    have d2 : decide (100 < m) = false := decide_eq_false h100
    obtain ⟨so, hso⟩ : ∃ s, s = ofL Ls := ⟨_, rfl⟩
    have lo : so.length ≤ 500 := by rw [hso]; have := ofL_length Ls; have := HN.out; omega
    obtain ⟨b1, hb1⟩ : ∃ b, b = risesL Ls := ⟨_, rfl⟩
    obtain ⟨b2, hb2⟩ : ∃ b, b = hasL Ls x := ⟨_, rfl⟩
    obtain ⟨b3, hb3⟩ : ∃ b, b = rightB x := ⟨_, rfl⟩
    have T1 : Hid (∀ V, Below w.heap.size w V → Calls Tryd.prog 9 #[.slice A n c] V fun e w' => e = .returned (idErr (tagL Ls)) ∧ Below V.heap.size V w') := fun V hb => idsTag_any Ls A n c w.heap.size V (HTb.out.below hb) HN (HR.out.below hb) (by omega) hc hcm
    have T2 : Hid (∀ V, Below w.heap.size w V → Calls Tryd.prog 10 #[.slice A n c] V fun e w' => e = .returned (idErr (tagL Ls)) ∧ Below V.heap.size V w') := fun V hb => refTag_any Ls A n c w.heap.size V HN (HR.out.below hb) (by omega)
    have R1 : Hid (∀ V, Below w.heap.size w V → Calls Tryd.prog 11 #[.slice A n c] V fun e w' => e = .returned (.bool b1) ∧ Below V.heap.size V w') := fun V hb => by rw [hb1]; exact idsRising_any Ls A n c w.heap.size V HN (HR.out.below hb) (by omega) hc hcm
    have R2 : Hid (∀ V, Below w.heap.size w V → Calls Tryd.prog 12 #[.slice A n c] V fun e w' => e = .returned (.bool b1) ∧ Below V.heap.size V w') := fun V hb => by rw [hb1]; exact refRising_any Ls A n c w.heap.size V HN (HR.out.below hb) (by omega)
    have O1 : Hid (∀ V, Below w.heap.size w V → Calls Tryd.prog 14 #[.slice A n c] V (GivesStrs so V)) := fun V hb => by rw [hso]; exact idsOf_any Ls A n c w.heap.size V HN (HR.out.below hb) (by omega) hc hcm
    have O2 : Hid (∀ V, Below w.heap.size w V → Calls Tryd.prog 15 #[.slice A n c] V (GivesStrs so V)) := fun V hb => by rw [hso]; exact refOf_any Ls A n c w.heap.size V HN (HR.out.below hb) (by omega)
    have H1 : Hid (∀ V, Below w.heap.size w V → Calls Tryd.prog 16 #[.slice A n c, .string t] V fun e w' => e = .returned (.bool b2) ∧ Below V.heap.size V w') := fun V hb => by rw [hb2, Ht.out]; exact idsHas_any Ls x A n c w.heap.size V HN (HR.out.below hb) (by omega) hc hcm
    have H2 : Hid (∀ V, Below w.heap.size w V → Calls Tryd.prog 17 #[.slice A n c, .string t] V fun e w' => e = .returned (.bool b2) ∧ V = w') := fun V hb => by rw [hb2, Ht.out]; exact refHas_any Ls x A n c w.heap.size V HN (HR.out.below hb) (by omega)
    have G1 : Hid (∀ V, Calls Tryd.prog 18 #[.string t] V fun e w' => e = .returned (.bool b3) ∧ Below V.heap.size V w') := fun V => by rw [hb3, Ht.out]; exact idsRight_any x V
    have G2 : Hid (∀ V, Calls Tryd.prog 19 #[.string t] V fun e w' => e = .returned (.bool b3) ∧ V = w') := fun V => by rw [hb3, Ht.out]; exact refRight_any x V
    have HTx : Hid (∀ (S : List Bs) (V : World) (A1 A2 : Option Addr) (n c1 c2 : Nat), n = S.length → S.length ≤ 500 → SS V V.heap.size A1 S → SS V V.heap.size A2 S → Calls Tryd.prog 13 #[.slice A1 n c1, .slice A2 n c2] V fun e w' => e = .returned (.bool true) ∧ Below V.heap.size V w') := fun S V A1 A2 n c1 c2 hn hl h1 h2 => by
      have := texts_any S S A1 A2 n c1 n c2 V.heap.size V hn hn h1 h2 (by omega) (by omega)
      rwa [decide_eq_true (show S = S from rfl)] at this
    clear hso hb1 hb2 hb3 HTb h100
    have key : ∀ (v1 : ByteArray) (e1 : Int), idErr (tagL Ls) = .tuple #[.string v1, .int .i64 e1] → Calls Tryd.prog 3 #[.slice A n c, .string t] w fun e w' => e = .returned (.bool true) ∧ Below w.heap.size w w' := by
      intro v1 e1 hq
      rw [hq] at T1 T2
      clear hq
      go_enter Tryd.func3, Tryd.ntmps3
      go_wp2_with (first
        | (go_at_call 7; (with_reducible refine HF1.out.mono ?_); rintro e w' ⟨rfl, rfl⟩)
        | (go_at_call 9; (with_reducible refine (T1.out _ (Below.refl _ _)).mono ?_); rintro e w1 ⟨rfl, hb1⟩)
        | (go_at_call 10; (with_reducible refine (T2.out _ hb1).mono ?_); rintro e w2 ⟨rfl, hb2⟩; have p2 : Below w.heap.size w w2 := hb1.trans (hb2.mono hb1.size))
        | (go_at_call 11; (with_reducible refine (R1.out _ p2).mono ?_); rintro e w3 ⟨rfl, hb3⟩; have p3 : Below w.heap.size w w3 := p2.trans (hb3.mono p2.size))
        | (go_at_call 12; (with_reducible refine (R2.out _ p3).mono ?_); rintro e w4 ⟨rfl, hb4⟩; have p4 : Below w.heap.size w w4 := p3.trans (hb4.mono p3.size))
        | (go_at_call 14; (with_reducible refine (O1.out _ p4).mono ?_); rintro e w5 ⟨A5, c5, rfl, hs5, hl5, hc5, hb5⟩; have p5 : Below w.heap.size w w5 := p4.trans (hb5.mono p4.size))
        | (go_at_call 15; (with_reducible refine (O2.out _ p5).mono ?_); rintro e w6 ⟨A6, c6, rfl, hs6, hl6, hc6, hb6⟩; have p6 : Below w.heap.size w w6 := p5.trans (hb6.mono p5.size); have X6 := HTx.out so w6 A5 A6 _ c5 c6 rfl lo ((hs5.below hb6).more hb6.size) hs6)
        | (go_at_call 13; (with_reducible refine X6.mono ?_); rintro e w7 ⟨rfl, hb7⟩; have p7 : Below w.heap.size w w7 := p6.trans (hb7.mono p6.size); clear X6)
        | (go_at_call 16; (with_reducible refine (H1.out _ p7).mono ?_); rintro e w8 ⟨rfl, hb8⟩; have p8 : Below w.heap.size w w8 := p7.trans (hb8.mono p7.size))
        | (go_at_call 17; (with_reducible refine (H2.out _ p8).mono ?_); rintro e w' ⟨rfl, rfl⟩)
        | (go_at_call 18; (with_reducible refine (G1.out _).mono ?_); rintro e w9 ⟨rfl, hb9⟩; have p9 : Below w.heap.size w w9 := p8.trans (hb9.mono p8.size))
        | (go_at_call 19; (with_reducible refine (G2.out _).mono ?_); rintro e w' ⟨rfl, rfl⟩)
        | (go_at_call 8; (with_reducible refine (HAw.out _ p9).mono ?_); rintro e w10 ⟨rfl, hb10⟩))
      go_ret
      exact ⟨rfl, p9.trans (hb10.mono p9.size)⟩
    cases hp : tagL Ls with
    | none => exact key { data := #[] } 5 (by rw [hp]; rfl)
    | some o => exact key (text o) 0 (by rw [hp]; rfl)

set_option maxRecDepth 100000 in
theorem lists_lifted (os : Os) (started : os.Started) (H : Type) (enc : TypeId × Value → H) :
    ReturnsInHanded {} Tryd.checked os 3 .any (fun w args => (Rows.idsListsSpec.pre enc Tryd.prog Tryd.f3 [] false w args ∧ laidMetH Tryd.prog laidS w) ∧ sizedMet enc Tryd.prog Tryd.f3 (OpenSpec.ofChange Rows.idsListsSpec) false w args)
      (Rows.idsListsSpec.post enc Tryd.prog Tryd.f3 false true false false) := by
  refine returnsInHanded_of_change_and (C := Tryd.checked) (X := fun w _ => laidMetH Tryd.prog laidS w) (fun _ _ _ hh h => h.of_heap hh) Tryd.own started (by kernel_rfl) Tryd.func3
    (ChangeSpec.witness_shaped (enc := enc) (C := Tryd.checked) (os := os) (X := fun w _ => laidMetH Tryd.prog laidS w) false (World.doorLaid Tryd.prog 400 os) #[.slice none 0 0, .string { data := #[] }] 8 rfl (World.shaped_of_RefB (by kernel_rfl) (by kernel_rfl)) (by kernel_rfl) (by kernel_rfl) (by kernel_rfl) (door_met os _)) ?_
  intro W base args ds gs before hval0 hW hcnd hsz0 hL _
  have hval : ∀ (j : Nat) t v, Tryd.f3.params[j]? = some t → args[j]? = some v → Value.okWide Tryd.prog W .any base t v := hval0
  have hW' : DataW.Whole enc Tryd.prog Tryd.f3.params.toList Rows.idsListsSpec.vars false W args.toList ds gs before := hW
  have hWk := hW'
  obtain ⟨p, q, hA, hV, rfl, hfz, hnd⟩ := hW'
  rw [Tryd.params3] at hA hval
  obtain ⟨v0, v1, d0, d1, p0, p1, rfl, rfl, rfl, h0, h1⟩ := trodAll_two hA
  obtain ⟨rfl, rfl⟩ := trodVars_none hV
  obtain ⟨A, Ls, c, rfl, hr, hlc, hcm⟩ := open_texts Tryd.underlying22 Tryd.underlying9 Tryd.cellsS (hval 0 22 v0 rfl rfl) h0
  obtain ⟨s, rfl, rfl, rfl, hsz⟩ := Go.ChangeMaps.open_string Tryd.underlying9 (hval 1 9 v1 rfl rfl) h1
  obtain ⟨x, rfl⟩ : ∃ x : Bs, s = text x := ⟨s.data.toList, by cases s; rfl⟩
  refine (lists_any Ls x A _ c W rfl hr (tab_of_laid hL) hlc hcm).mono fun e W' ⟨he, hb⟩ => ⟨_, he, ?_⟩
  exact law_post Tryd.laidOut hWk rfl rfl rfl rfl rfl Tryd.underlying4 (by kernel_rfl) hb
theorem lists_said : Rows.IdsListsSaid :=
  OpenClaim.holds_of_wide 3 Tryd.f3 rfl rfl rfl rfl rfl rfl rfl ⟨rfl, rfl, rfl, rfl, rfl⟩ rfl rfl rfl rfl rfl (by kernel_rfl) Tryd.func3 (by kernel_rfl)
    (of_decide_eq_true (by kernel_rfl)) (by unfold Func.isWrapper; first | (rw [if_pos (by decide +kernel)]; kernel_rfl) | (rw [if_neg (by decide +kernel)]; exact ⟨rfl, rfl⟩))
    (fun os started H enc _ => lists_lifted os started H enc)
theorem lists_holds : Rows.IdsListsCardSaid :=
  Claim7.holds_tied_plain_at .later [] [.data] true Rows.idsListsCard.stood.harness false
    lists_said (fun _ h => by cases h) (by kernel_rfl) (fun _ h => by cases h) idsLists_row_tie rfl ⟨rfl, rfl⟩ (by kernel_rfl) rfl
    (fun f fn hf hfn => by
      obtain rfl : f = 3 := Option.some.inj ((show Tryd.prog.funcNamed "chantry/chantrylaw04.IdsLists" = some 3 by kernel_rfl).symm.trans hf) |>.symm
      obtain rfl : fn = Tryd.f3 := (Option.some.inj (Tryd.func3.symm.trans hfn)).symm
      exact ⟨by kernel_rfl, fun j t ht => by
        rw [Tryd.params3] at ht
        have hm : t ∈ [22, 9] := by simpa using Array.mem_of_getElem? ht
        have hall : ([22, 9].all fun u => !Tryd.prog.wantsStandIn u) = true := by kernel_rfl
        exact (show Tryd.prog.wantsStandIn t = false by simpa using List.all_eq_true.1 hall t hm)⟩)
    (by kernel_rfl)

end Go.Proofs.YtmmilgjdngdnfaaDoor
