/- IdsTwo returns true for every two slices of texts, and leaves memory that was there as it was. -/
import Derived.Test.YtmmilgjdngdnfaaDoorIdsAwake
import Derived.Test.YtmmilgjdngdnfaaDoorIdsProg
import Derived.Test.YtmmilgjdngdnfaaDoorIdsFew
import Derived.Test.YtmmilgjdngdnfaaDoorOpenStrs
import Derived.Test.YtmmilgjdngdnfaaDoorShaLaid
import Derived.Test.YtmmilgjdngdnfaaDoorCards
import Derived.Test.YtmmilgjdngdnfaaDoorTie
import Derived.SevenTiedAt
set_option linter.unusedVariables false
namespace Go.Proofs.YtmmilgjdngdnfaaDoor
open Go.ChangeShapes Go.WideShapes Go.ChangeAt Go.RowKit

set_option maxRecDepth 100000 in
set_option maxHeartbeats 2000000 in
theorem two_any (Ls Ms : List Bs) (A C : Option Addr) (n c m d : Nat) (w : World) (HN : Hid (n = Ls.length)) (HM : Hid (m = Ms.length)) (hr : SS w w.heap.size A Ls) (hr2 : SS w w.heap.size C Ms) (hT : Tab w) (hc : n ≤ c) (hcm : c ≤ 9223372036854775807) (hd : m ≤ d) (hdm : d ≤ 9223372036854775807) :
    Calls Tryd.prog 4 #[.slice A n c, .slice C m d] w fun e w' => e = .returned (.bool true) ∧ Below w.heap.size w w' := by
  have HAw : Hid (∀ V, Below w.heap.size w V → Calls Tryd.prog 8 #[] V fun e w' => e = .returned (.bool true) ∧ Below V.heap.size V w') := fun V hb => awake_any V (hT.below hb)
  have HR : Hid (SS w w.heap.size A Ls) := hr
  have HR2 : Hid (SS w w.heap.size C Ms) := hr2
  have HF1 : Hid (Calls Tryd.prog 7 #[.slice A n c] w fun e w' => e = .returned (.bool (fewL Ls)) ∧ w = w') := few_any Ls A n c _ w HN hr
  have HF2 : Hid (Calls Tryd.prog 7 #[.slice C m d] w fun e w' => e = .returned (.bool (fewL Ms)) ∧ w = w') := few_any Ms C m d _ w HM hr2
  clear hr hr2 hT
  cases hf1 : fewL Ls with
  | false =>
    rw [hf1] at HF1
    clear hf1
    go_enter Tryd.func4, Tryd.ntmps4
    go_wp2_with (first
      | (go_at_call 7; (with_reducible refine HF1.out.mono ?_); rintro e w' ⟨rfl, rfl⟩)
      | (go_at_call 8; (with_reducible refine (HAw.out _ (Below.refl _ _)).mono ?_); rintro e w1 ⟨rfl, hb1⟩))
    go_ret
    exact ⟨rfl, hb1⟩
  | true =>
  cases hf2 : fewL Ms with
  | false =>
    rw [hf1] at HF1
    rw [hf2] at HF2
    clear hf1 hf2
    go_enter Tryd.func4, Tryd.ntmps4
    go_wp2_with (first
      | (go_at_call 7; (with_reducible refine HF1.out.mono ?_); rintro e w' ⟨rfl, rfl⟩)
      | (go_at_call 7; (with_reducible refine HF2.out.mono ?_); rintro e w' ⟨rfl, rfl⟩)
      | (go_at_call 8; (with_reducible refine (HAw.out _ (Below.refl _ _)).mono ?_); rintro e w1 ⟨rfl, hb1⟩))
    go_ret
    exact ⟨rfl, hb1⟩
  | true =>
    have hn60 : n ≤ 60 := by
      have := HN.out
      unfold fewL at hf1
      rw [Bool.and_eq_true] at hf1
      have := of_decide_eq_true hf1.1
      omega
    have hm60 : m ≤ 60 := by
      have := HM.out
      unfold fewL at hf2
      rw [Bool.and_eq_true] at hf2
      have := of_decide_eq_true hf2.1
      omega
    rw [hf1] at HF1
    rw [hf2] at HF2
    clear hf1 hf2
    have U1 : Hid (∀ V, Below w.heap.size w V → Calls Tryd.prog 20 #[.slice A n c, .slice C m d] V (GivesStrs (unionL Ls Ms) V)) := fun V hb => idsUnion_any Ls Ms A C n c m d w.heap.size V HN HM (HR.out.below hb) (HR2.out.below hb) (by omega) (by omega) hc hcm hd hdm
    have U2 : Hid (∀ V, Below w.heap.size w V → Calls Tryd.prog 21 #[.slice A n c, .slice C m d] V (GivesStrs (unionL Ls Ms) V)) := fun V hb => refUnion_any Ls Ms A C n c m d w.heap.size V HN HM (HR.out.below hb) (HR2.out.below hb) (by omega) (by omega)
    have M1 : Hid (∀ V, Below w.heap.size w V → Calls Tryd.prog 22 #[.slice A n c, .slice C m d] V (GivesStrs (meetL Ls Ms) V)) := fun V hb => idsMeet_any Ls Ms A C n c m d w.heap.size V HN HM (HR.out.below hb) (HR2.out.below hb) (by omega) (by omega) hc hcm hd hdm
    have M2 : Hid (∀ V, Below w.heap.size w V → Calls Tryd.prog 23 #[.slice A n c, .slice C m d] V (GivesStrs (meetL Ls Ms) V)) := fun V hb => refMeet_any Ls Ms A C n c m d w.heap.size V HN HM (HR.out.below hb) (HR2.out.below hb) (by omega) (by omega)
    have L1 : Hid (∀ V, Below w.heap.size w V → Calls Tryd.prog 24 #[.slice A n c, .slice C m d] V (GivesStrs (lessL Ls Ms) V)) := fun V hb => idsLess_any Ls Ms A C n c m d w.heap.size V HN HM (HR.out.below hb) (HR2.out.below hb) (by omega) (by omega) hc hcm hd hdm
    have L2 : Hid (∀ V, Below w.heap.size w V → Calls Tryd.prog 25 #[.slice A n c, .slice C m d] V (GivesStrs (lessL Ls Ms) V)) := fun V hb => refLess_any Ls Ms A C n c m d w.heap.size V HN HM (HR.out.below hb) (HR2.out.below hb) (by omega) (by omega)
    obtain ⟨su, hsu⟩ : ∃ s, s = unionL Ls Ms := ⟨_, rfl⟩
    obtain ⟨sm, hsm⟩ : ∃ s, s = meetL Ls Ms := ⟨_, rfl⟩
    obtain ⟨sl, hsl⟩ : ∃ s, s = lessL Ls Ms := ⟨_, rfl⟩
    have lu : su.length ≤ 1000 := by rw [hsu]; have := ofK_length (Ls ++ Ms) (Ls ++ Ms).length; unfold unionL ofL; rw [List.length_append] at this ⊢; have := HN.out; have := HM.out; omega
    have lm : sm.length ≤ 1000 := by rw [hsm]; have := ofK_length (Ls.filter fun x => hasL Ms x) (Ls.filter fun x => hasL Ms x).length; have h2 := List.length_filter_le (fun x => hasL Ms x) Ls; unfold meetL ofL; have := HN.out; omega
    have ll : sl.length ≤ 1000 := by rw [hsl]; have := ofK_length (Ls.filter fun x => !hasL Ms x) (Ls.filter fun x => !hasL Ms x).length; have h2 := List.length_filter_le (fun x => !hasL Ms x) Ls; unfold lessL ofL; have := HN.out; omega
    rw [← hsu] at U1 U2
    rw [← hsm] at M1 M2
    rw [← hsl] at L1 L2
    have HTx : Hid (∀ (S : List Bs) (V : World) (A1 A2 : Option Addr) (n c1 c2 : Nat), n = S.length → S.length ≤ 1000 → SS V V.heap.size A1 S → SS V V.heap.size A2 S → Calls Tryd.prog 13 #[.slice A1 n c1, .slice A2 n c2] V fun e w' => e = .returned (.bool true) ∧ Below V.heap.size V w') := fun S V A1 A2 n c1 c2 hn hl h1 h2 => by
      have := texts_any S S A1 A2 n c1 n c2 V.heap.size V hn hn h1 h2 (by omega) (by omega)
      rwa [decide_eq_true (show S = S from rfl)] at this
    clear hsu hsm hsl
    go_enter Tryd.func4, Tryd.ntmps4
    go_wp2_with (first
      | (go_at_call 7; (with_reducible refine HF1.out.mono ?_); rintro e w' ⟨rfl, rfl⟩)
      | (go_at_call 7; (with_reducible refine HF2.out.mono ?_); rintro e w' ⟨rfl, rfl⟩)
      | (go_at_call 20; (with_reducible refine (U1.out _ (Below.refl _ _)).mono ?_); rintro e w1 ⟨A1, c1, rfl, hs1, hl1, hc1, hb1⟩)
      | (go_at_call 21; (with_reducible refine (U2.out _ hb1).mono ?_); rintro e w2 ⟨A2, c2, rfl, hs2, hl2, hc2, hb2⟩; have b2 : Below w.heap.size w w2 := hb1.trans (hb2.mono hb1.size); have T2 := HTx.out su w2 A1 A2 _ c1 c2 rfl lu ((hs1.below hb2).more hb2.size) hs2)
      | (go_at_call 13; (with_reducible refine T2.mono ?_); rintro e w3 ⟨rfl, hb3⟩; have b3 : Below w.heap.size w w3 := b2.trans (hb3.mono b2.size); clear T2)
      | (go_at_call 22; (with_reducible refine (M1.out _ b3).mono ?_); rintro e w4 ⟨A4, c4, rfl, hs4, hl4, hc4, hb4⟩; have b4 : Below w.heap.size w w4 := b3.trans (hb4.mono b3.size))
      | (go_at_call 23; (with_reducible refine (M2.out _ b4).mono ?_); rintro e w5 ⟨A5, c5, rfl, hs5, hl5, hc5, hb5⟩; have b5 : Below w.heap.size w w5 := b4.trans (hb5.mono b4.size); have T5 := HTx.out sm w5 A4 A5 _ c4 c5 rfl lm ((hs4.below hb5).more hb5.size) hs5)
      | (go_at_call 13; (with_reducible refine T5.mono ?_); rintro e w6 ⟨rfl, hb6⟩; have b6 : Below w.heap.size w w6 := b5.trans (hb6.mono b5.size); clear T5)
      | (go_at_call 24; (with_reducible refine (L1.out _ b6).mono ?_); rintro e w7 ⟨A7, c7, rfl, hs7, hl7, hc7, hb7⟩; have b7 : Below w.heap.size w w7 := b6.trans (hb7.mono b6.size))
      | (go_at_call 25; (with_reducible refine (L2.out _ b7).mono ?_); rintro e w8 ⟨A8, c8, rfl, hs8, hl8, hc8, hb8⟩; have b8 : Below w.heap.size w w8 := b7.trans (hb8.mono b7.size); have T8 := HTx.out sl w8 A7 A8 _ c7 c8 rfl ll ((hs7.below hb8).more hb8.size) hs8)
      | (go_at_call 13; (with_reducible refine T8.mono ?_); rintro e w9 ⟨rfl, hb9⟩; have b9 : Below w.heap.size w w9 := b8.trans (hb9.mono b8.size); clear T8)
      | (go_at_call 8; (with_reducible refine (HAw.out _ b9).mono ?_); rintro e w10 ⟨rfl, hb10⟩))
    go_ret
    exact ⟨rfl, b9.trans (hb10.mono b9.size)⟩

theorem Tryd.cellsS : Tryd.prog.cellsOf 9 = 1 := by kernel_rfl
set_option maxRecDepth 100000 in
theorem two_lifted (os : Os) (started : os.Started) (H : Type) (enc : TypeId × Value → H) :
    ReturnsInHanded {} Tryd.checked os 4 .any (fun w args => (Rows.idsTwoSpec.pre enc Tryd.prog Tryd.f4 [] false w args ∧ laidMetH Tryd.prog laidS w) ∧ sizedMet enc Tryd.prog Tryd.f4 (OpenSpec.ofChange Rows.idsTwoSpec) false w args)
      (Rows.idsTwoSpec.post enc Tryd.prog Tryd.f4 false true false false) := by
  refine returnsInHanded_of_change_and (C := Tryd.checked) (X := fun w _ => laidMetH Tryd.prog laidS w) (fun _ _ _ hh h => h.of_heap hh) Tryd.own started (by kernel_rfl) Tryd.func4
    (ChangeSpec.witness_shaped (enc := enc) (C := Tryd.checked) (os := os) (X := fun w _ => laidMetH Tryd.prog laidS w) false (World.doorLaid Tryd.prog 400 os) #[.slice none 0 0, .slice none 0 0] 8 rfl (World.shaped_of_RefB (by kernel_rfl) (by kernel_rfl)) (by kernel_rfl) (by kernel_rfl) (by kernel_rfl) (door_met os _)) ?_
  intro W base args ds gs before hval0 hW hcnd hsz0 hL _
  have hval : ∀ (j : Nat) t v, Tryd.f4.params[j]? = some t → args[j]? = some v → Value.okWide Tryd.prog W .any base t v := hval0
  have hW' : DataW.Whole enc Tryd.prog Tryd.f4.params.toList Rows.idsTwoSpec.vars false W args.toList ds gs before := hW
  have hWk := hW'
  obtain ⟨p, q, hA, hV, rfl, hfz, hnd⟩ := hW'
  rw [Tryd.params4] at hA hval
  obtain ⟨v0, v1, d0, d1, p0, p1, rfl, rfl, rfl, h0, h1⟩ := trodAll_two hA
  obtain ⟨rfl, rfl⟩ := trodVars_none hV
  obtain ⟨A, Ls, c, rfl, hr, hlc, hcm⟩ := open_texts Tryd.underlying22 Tryd.underlying9 Tryd.cellsS (hval 0 22 v0 rfl rfl) h0
  obtain ⟨C, Ms, d, rfl, hr2, hmd, hdm⟩ := open_texts Tryd.underlying22 Tryd.underlying9 Tryd.cellsS (hval 1 22 v1 rfl rfl) h1
  refine (two_any Ls Ms A C _ c _ d W rfl rfl hr hr2 (tab_of_laid hL) hlc hcm hmd hdm).mono fun e W' ⟨he, hb⟩ => ⟨_, he, ?_⟩
  exact law_post Tryd.laidOut hWk rfl rfl rfl rfl rfl Tryd.underlying4 (by kernel_rfl) hb
theorem two_said : Rows.IdsTwoSaid :=
  OpenClaim.holds_of_wide 4 Tryd.f4 rfl rfl rfl rfl rfl rfl rfl ⟨rfl, rfl, rfl, rfl, rfl⟩ rfl rfl rfl rfl rfl (by kernel_rfl) Tryd.func4 (by kernel_rfl)
    (of_decide_eq_true (by kernel_rfl)) (by unfold Func.isWrapper; first | (rw [if_pos (by decide +kernel)]; kernel_rfl) | (rw [if_neg (by decide +kernel)]; exact ⟨rfl, rfl⟩))
    (fun os started H enc _ => two_lifted os started H enc)
theorem two_holds : Rows.IdsTwoCardSaid :=
  Claim7.holds_tied_plain_at .later [] [.data] true Rows.idsTwoCard.stood.harness false
    two_said (fun _ h => by cases h) (by kernel_rfl) (fun _ h => by cases h) idsTwo_row_tie rfl ⟨rfl, rfl⟩ (by kernel_rfl) rfl
    (fun f fn hf hfn => by
      obtain rfl : f = 4 := Option.some.inj ((show Tryd.prog.funcNamed "chantry/chantrylaw04.IdsTwo" = some 4 by kernel_rfl).symm.trans hf) |>.symm
      obtain rfl : fn = Tryd.f4 := (Option.some.inj (Tryd.func4.symm.trans hfn)).symm
      exact ⟨by kernel_rfl, fun j t ht => by
        rw [Tryd.params4] at ht
        have hm : t ∈ [22, 22] := by simpa using Array.mem_of_getElem? ht
        have hall : ([22, 22].all fun u => !Tryd.prog.wantsStandIn u) = true := by kernel_rfl
        exact (show Tryd.prog.wantsStandIn t = false by simpa using List.all_eq_true.1 hall t hm)⟩)
    (by kernel_rfl)

end Go.Proofs.YtmmilgjdngdnfaaDoor
