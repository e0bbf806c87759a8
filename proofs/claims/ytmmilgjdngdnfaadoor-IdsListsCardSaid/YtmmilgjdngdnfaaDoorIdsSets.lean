/- IdsSets returns true for every two slices of texts, and leaves memory that was there as it was. -/
import Derived.Test.YtmmilgjdngdnfaaDoorIdsTwo
set_option linter.unusedVariables false
namespace Go.Proofs.YtmmilgjdngdnfaaDoor
open Go.ChangeShapes Go.WideShapes Go.ChangeAt Go.RowKit

theorem few_len {Ls : List Bs} {n : Nat} (hn : n = Ls.length) (h : fewL Ls = true) : n ≤ 60 := by
  unfold fewL at h
  rw [Bool.and_eq_true] at h
  have := of_decide_eq_true h.1
  omega
theorem ofL_length (l : List Bs) : (ofL l).length ≤ l.length := ofK_length l _

set_option maxRecDepth 100000 in
set_option maxHeartbeats 2000000 in
theorem sets_any (Ls Ms : List Bs) (A C : Option Addr) (n c m d : Nat) (w : World) (HN : Hid (n = Ls.length)) (HM : Hid (m = Ms.length)) (hr : SS w w.heap.size A Ls) (hr2 : SS w w.heap.size C Ms) (hT : Tab w) (hc : n ≤ c) (hcm : c ≤ 9223372036854775807) (hd : m ≤ d) (hdm : d ≤ 9223372036854775807) :
    Calls Tryd.prog 6 #[.slice A n c, .slice C m d] w fun e w' => e = .returned (.bool true) ∧ Below w.heap.size w w' := by
  have HAw : Hid (∀ V, Below w.heap.size w V → Calls Tryd.prog 8 #[] V fun e w' => e = .returned (.bool true) ∧ Below V.heap.size V w') := fun V hb => awake_any V (hT.below hb)
  have HR : Hid (SS w w.heap.size A Ls) := hr
  have HR2 : Hid (SS w w.heap.size C Ms) := hr2
  have HF1 : Hid (Calls Tryd.prog 7 #[.slice A n c] w fun e w' => e = .returned (.bool (fewL Ls)) ∧ w = w') := few_any Ls A n c _ w HN hr
  have HF2 : Hid (Calls Tryd.prog 7 #[.slice C m d] w fun e w' => e = .returned (.bool (fewL Ms)) ∧ w = w') := few_any Ms C m d _ w HM hr2
  clear hr hr2 hT
  cases hf1 : fewL Ls with
  | false =>
    rw [hf1] at HF1
    clear hf1
    go_enter Tryd.func6, Tryd.ntmps6
    go_wp2_with (first
      | (go_at_call 7; (with_reducible refine HF1.out.mono ?_); rintro e w' ⟨rfl, rfl⟩)
      | (go_at_call 8; (with_reducible refine (HAw.out _ (Below.refl _ _)).mono ?_); rintro e w1 ⟨rfl, hb1⟩))
    go_ret
    exact ⟨rfl, hb1⟩
  | true =>
  cases hf2 : fewL Ms with
  | false =>
    rw [hf1] at HF1
    rw [hf2] at HF2
    clear hf1 hf2
    go_enter Tryd.func6, Tryd.ntmps6
    go_wp2_with (first
      | (go_at_call 7; (with_reducible refine HF1.out.mono ?_); rintro e w' ⟨rfl, rfl⟩)
      | (go_at_call 7; (with_reducible refine HF2.out.mono ?_); rintro e w' ⟨rfl, rfl⟩)
      | (go_at_call 8; (with_reducible refine (HAw.out _ (Below.refl _ _)).mono ?_); rintro e w1 ⟨rfl, hb1⟩))
    go_ret
    exact ⟨rfl, hb1⟩
  | true =>
    have hn60 := few_len HN.out hf1
    have hm60 := few_len HM.out hf2
    rw [hf1] at HF1
    rw [hf2] at HF2
    clear hf1 hf2
    obtain ⟨su, hsu⟩ : ∃ s, s = unionL Ls Ms := ⟨_, rfl⟩
    obtain ⟨sm, hsm⟩ : ∃ s, s = meetL Ls Ms := ⟨_, rfl⟩
    obtain ⟨sl, hsl⟩ : ∃ s, s = lessL Ls Ms := ⟨_, rfl⟩
    obtain ⟨so, hso⟩ : ∃ s, s = ofL Ls := ⟨_, rfl⟩
    have hnL := HN.out
    have hmM := HM.out
    have lu : su.length ≤ 500 := by rw [hsu]; have := ofL_length (Ls ++ Ms); unfold unionL; rw [List.length_append] at this; omega
    have lm : sm.length ≤ 500 := by rw [hsm]; have := ofL_length (Ls.filter fun x => hasL Ms x); have h2 := List.length_filter_le (fun x => hasL Ms x) Ls; unfold meetL; omega
    have ll : sl.length ≤ 500 := by rw [hsl]; have := ofL_length (Ls.filter fun x => !hasL Ms x); have h2 := List.length_filter_le (fun x => !hasL Ms x) Ls; unfold lessL; omega
    have lo : so.length ≤ 500 := by rw [hso]; have := ofL_length Ls; omega
    have U1 : Hid (∀ V, Below w.heap.size w V → Calls Tryd.prog 20 #[.slice A n c, .slice C m d] V (GivesStrs su V)) := fun V hb => by rw [hsu]; exact idsUnion_any Ls Ms A C n c m d w.heap.size V HN HM (HR.out.below hb) (HR2.out.below hb) (by omega) (by omega) hc hcm hd hdm
    have U2 : Hid (∀ V, Below w.heap.size w V → Calls Tryd.prog 20 #[.slice C m d, .slice A n c] V (GivesStrs su V)) := fun V hb => by rw [hsu, union_comm]; exact idsUnion_any Ms Ls C A m d n c w.heap.size V HM HN (HR2.out.below hb) (HR.out.below hb) (by omega) (by omega) hd hdm hc hcm
    have M1 : Hid (∀ V, Below w.heap.size w V → Calls Tryd.prog 22 #[.slice A n c, .slice C m d] V (GivesStrs sm V)) := fun V hb => by rw [hsm]; exact idsMeet_any Ls Ms A C n c m d w.heap.size V HN HM (HR.out.below hb) (HR2.out.below hb) (by omega) (by omega) hc hcm hd hdm
    have M2 : Hid (∀ V, Below w.heap.size w V → Calls Tryd.prog 22 #[.slice C m d, .slice A n c] V (GivesStrs sm V)) := fun V hb => by rw [hsm, meet_comm]; exact idsMeet_any Ms Ls C A m d n c w.heap.size V HM HN (HR2.out.below hb) (HR.out.below hb) (by omega) (by omega) hd hdm hc hcm
    have L1 : Hid (∀ V, Below w.heap.size w V → Calls Tryd.prog 24 #[.slice A n c, .slice C m d] V (GivesStrs sl V)) := fun V hb => by rw [hsl]; exact idsLess_any Ls Ms A C n c m d w.heap.size V HN HM (HR.out.below hb) (HR2.out.below hb) (by omega) (by omega) hc hcm hd hdm
    have O1 : Hid (∀ V, Below w.heap.size w V → Calls Tryd.prog 14 #[.slice A n c] V (GivesStrs so V)) := fun V hb => by rw [hso]; exact idsOf_any Ls A n c w.heap.size V HN (HR.out.below hb) (by omega) hc hcm
    have MX : Hid (∀ (V : World) (A1 A2 : Option Addr) (n1 n2 c1 c2 : Nat), n1 = sm.length → n2 = sl.length → SS V V.heap.size A1 sm → SS V V.heap.size A2 sl → n1 ≤ c1 → c1 ≤ 9223372036854775807 → n2 ≤ c2 → c2 ≤ 9223372036854775807 → Calls Tryd.prog 22 #[.slice A1 n1 c1, .slice A2 n2 c2] V (GivesStrs [] V)) := fun V A1 A2 n1 n2 c1 c2 e1 e2 h1 h2 g1 g2 g3 g4 => by
      have := idsMeet_any sm sl A1 A2 n1 c1 n2 c2 V.heap.size V e1 e2 h1 h2 (by omega) (by omega) g1 g2 g3 g4
      rwa [show meetL sm sl = [] by rw [hsm, hsl]; exact meet_less_none Ls Ms] at this
    have UX : Hid (∀ (V : World) (A1 A2 : Option Addr) (n1 n2 c1 c2 : Nat), n1 = sm.length → n2 = sl.length → SS V V.heap.size A1 sm → SS V V.heap.size A2 sl → n1 ≤ c1 → c1 ≤ 9223372036854775807 → n2 ≤ c2 → c2 ≤ 9223372036854775807 → Calls Tryd.prog 20 #[.slice A1 n1 c1, .slice A2 n2 c2] V (GivesStrs so V)) := fun V A1 A2 n1 n2 c1 c2 e1 e2 h1 h2 g1 g2 g3 g4 => by
      have := idsUnion_any sm sl A1 A2 n1 c1 n2 c2 V.heap.size V e1 e2 h1 h2 (by omega) (by omega) g1 g2 g3 g4
      rwa [show unionL sm sl = so by rw [hsm, hsl, hso]; exact meet_less_all Ls Ms] at this
    have HRi : Hid (∀ (S : List Bs) (V : World) (A1 : Option Addr) (n1 c1 : Nat), S = su ∨ S = sm ∨ S = sl → n1 = S.length → SS V V.heap.size A1 S → n1 ≤ c1 → c1 ≤ 9223372036854775807 → Calls Tryd.prog 11 #[.slice A1 n1 c1] V fun e w' => e = .returned (.bool true) ∧ Below V.heap.size V w') := fun S V A1 n1 c1 hS e1 h1 g1 g2 => by
      have hl : S.length ≤ 500 := by rcases hS with h | h | h <;> rw [h] <;> assumption
      have hrs : risesL S = true := by
        rcases hS with h | h | h
        · rw [h, hsu]; exact ofL_rises _
        · rw [h, hsm]; exact ofL_rises _
        · rw [h, hsl]; exact ofL_rises _
      have := idsRising_any S A1 n1 c1 V.heap.size V e1 h1 (by omega) g1 g2
      rwa [hrs] at this
    have HTx : Hid (∀ (S : List Bs) (V : World) (A1 A2 : Option Addr) (n c1 c2 : Nat), n = S.length → S.length ≤ 500 → SS V V.heap.size A1 S → SS V V.heap.size A2 S → Calls Tryd.prog 13 #[.slice A1 n c1, .slice A2 n c2] V fun e w' => e = .returned (.bool true) ∧ Below V.heap.size V w') := fun S V A1 A2 n c1 c2 hn hl h1 h2 => by
      have := texts_any S S A1 A2 n c1 n c2 V.heap.size V hn hn h1 h2 (by omega) (by omega)
      rwa [decide_eq_true (show S = S from rfl)] at this
    clear hsu hsm hsl hso hnL hmM
    go_enter Tryd.func6, Tryd.ntmps6
    go_wp2_with (first
      | (go_at_call 7; (with_reducible refine HF1.out.mono ?_); rintro e w' ⟨rfl, rfl⟩)
      | (go_at_call 7; (with_reducible refine HF2.out.mono ?_); rintro e w' ⟨rfl, rfl⟩)
      | (go_at_call 20; (with_reducible refine (U1.out _ (Below.refl _ _)).mono ?_); rintro e w1 ⟨A1, c1, rfl, hs1, hl1, hc1, hb1⟩)
      | (go_at_call 22; (with_reducible refine (M1.out _ hb1).mono ?_); rintro e w2 ⟨A2, c2, rfl, hs2, hl2, hc2, hb2⟩; have b2 : Below w.heap.size w w2 := hb1.trans (hb2.mono hb1.size); have p1 := (hs1.below hb2).more hb2.size)
      | (go_at_call 24; (with_reducible refine (L1.out _ b2).mono ?_); rintro e w3 ⟨A3, c3, rfl, hs3, hl3, hc3, hb3⟩; have b3 : Below w.heap.size w w3 := b2.trans (hb3.mono b2.size); have q1 := (p1.below hb3).more hb3.size; have q2 := (hs2.below hb3).more hb3.size)
      | (go_at_call 20; (with_reducible refine (U2.out _ b3).mono ?_); rintro e w4 ⟨A4, c4, rfl, hs4, hl4, hc4, hb4⟩; have b4 : Below w.heap.size w w4 := b3.trans (hb4.mono b3.size); have r1 := (q1.below hb4).more hb4.size; have r2 := (q2.below hb4).more hb4.size; have r3 := (hs3.below hb4).more hb4.size; have T4 := HTx.out su w4 A1 A4 _ c1 c4 rfl lu r1 hs4)
      | (go_at_call 13; (with_reducible refine T4.mono ?_); rintro e w5 ⟨rfl, hb5⟩; have b5 : Below w.heap.size w w5 := b4.trans (hb5.mono b4.size); have s1 := (r1.below hb5).more hb5.size; have s2 := (r2.below hb5).more hb5.size; have s3 := (r3.below hb5).more hb5.size; clear T4)
      | (go_at_call 22; (with_reducible refine (M2.out _ b5).mono ?_); rintro e w6 ⟨A6, c6, rfl, hs6, hl6, hc6, hb6⟩; have b6 : Below w.heap.size w w6 := b5.trans (hb6.mono b5.size); have t1 := (s1.below hb6).more hb6.size; have t2 := (s2.below hb6).more hb6.size; have t3 := (s3.below hb6).more hb6.size; have T6 := HTx.out sm w6 A2 A6 _ c2 c6 rfl lm t2 hs6)
      | (go_at_call 13; (with_reducible refine T6.mono ?_); rintro e w7 ⟨rfl, hb7⟩; have b7 : Below w.heap.size w w7 := b6.trans (hb7.mono b6.size); have u1 := (t1.below hb7).more hb7.size; have u2 := (t2.below hb7).more hb7.size; have u3 := (t3.below hb7).more hb7.size; have T7 := MX.out w7 A2 A3 _ _ c2 c3 rfl rfl u2 u3 hl2 hc2 hl3 hc3; clear T6)
      | (go_at_call 22; (with_reducible refine T7.mono ?_); rintro e w8 ⟨A8, c8, rfl, hs8, hl8, hc8, hb8⟩; have b8 : Below w.heap.size w w8 := b7.trans (hb8.mono b7.size); have v1 := (u1.below hb8).more hb8.size; have v2 := (u2.below hb8).more hb8.size; have v3 := (u3.below hb8).more hb8.size; have T8 := UX.out w8 A2 A3 _ _ c2 c3 rfl rfl v2 v3 hl2 hc2 hl3 hc3; clear T7)
      | (go_at_call 20; (with_reducible refine T8.mono ?_); rintro e w9 ⟨A9, c9, rfl, hs9, hl9, hc9, hb9⟩; have b9 : Below w.heap.size w w9 := b8.trans (hb9.mono b8.size); have x1 := (v1.below hb9).more hb9.size; have x2 := (v2.below hb9).more hb9.size; have x3 := (v3.below hb9).more hb9.size; clear T8)
      | (go_at_call 14; (with_reducible refine (O1.out _ b9).mono ?_); rintro e w10 ⟨A10, c10, rfl, hs10, hl10, hc10, hb10⟩; have b10 : Below w.heap.size w w10 := b9.trans (hb10.mono b9.size); have y1 := (x1.below hb10).more hb10.size; have y2 := (x2.below hb10).more hb10.size; have y3 := (x3.below hb10).more hb10.size; have T10 := HTx.out so w10 A9 A10 _ c9 c10 rfl lo ((hs9.below hb10).more hb10.size) hs10)
      | (go_at_call 13; (with_reducible refine T10.mono ?_); rintro e w11 ⟨rfl, hb11⟩; have b11 : Below w.heap.size w w11 := b10.trans (hb11.mono b10.size); have z1 := (y1.below hb11).more hb11.size; have z2 := (y2.below hb11).more hb11.size; have z3 := (y3.below hb11).more hb11.size; have T11 := HRi.out su w11 A1 _ c1 (.inl rfl) rfl z1 hl1 hc1; clear T10)
      | (go_at_call 11; (with_reducible refine T11.mono ?_); rintro e w12 ⟨rfl, hb12⟩; have b12 : Below w.heap.size w w12 := b11.trans (hb12.mono b11.size); have e2 := (z2.below hb12).more hb12.size; have e3 := (z3.below hb12).more hb12.size; have T12 := HRi.out sm w12 A2 _ c2 (.inr (.inl rfl)) rfl e2 hl2 hc2; clear T11)
      | (go_at_call 11; (with_reducible refine T12.mono ?_); rintro e w13 ⟨rfl, hb13⟩; have b13 : Below w.heap.size w w13 := b12.trans (hb13.mono b12.size); have T13 := HRi.out sl w13 A3 _ c3 (.inr (.inr rfl)) rfl ((e3.below hb13).more hb13.size) hl3 hc3; clear T12)
      | (go_at_call 11; (with_reducible refine T13.mono ?_); rintro e w14 ⟨rfl, hb14⟩; have b14 : Below w.heap.size w w14 := b13.trans (hb14.mono b13.size); clear T13)
      | (go_at_call 8; (with_reducible refine (HAw.out _ b14).mono ?_); rintro e w15 ⟨rfl, hb15⟩))
    go_ret
    exact ⟨rfl, b14.trans (hb15.mono b14.size)⟩

set_option maxRecDepth 100000 in
theorem sets_lifted (os : Os) (started : os.Started) (H : Type) (enc : TypeId × Value → H) :
    ReturnsInHanded {} Tryd.checked os 6 .any (fun w args => (Rows.idsSetsSpec.pre enc Tryd.prog Tryd.f6 [] false w args ∧ laidMetH Tryd.prog laidS w) ∧ sizedMet enc Tryd.prog Tryd.f6 (OpenSpec.ofChange Rows.idsSetsSpec) false w args)
      (Rows.idsSetsSpec.post enc Tryd.prog Tryd.f6 false true false false) := by
  refine returnsInHanded_of_change_and (C := Tryd.checked) (X := fun w _ => laidMetH Tryd.prog laidS w) (fun _ _ _ hh h => h.of_heap hh) Tryd.own started (by kernel_rfl) Tryd.func6
    (ChangeSpec.witness_shaped (enc := enc) (C := Tryd.checked) (os := os) (X := fun w _ => laidMetH Tryd.prog laidS w) false (World.doorLaid Tryd.prog 400 os) #[.slice none 0 0, .slice none 0 0] 8 rfl (World.shaped_of_RefB (by kernel_rfl) (by kernel_rfl)) (by kernel_rfl) (by kernel_rfl) (by kernel_rfl) (door_met os _)) ?_
  intro W base args ds gs before hval0 hW hcnd hsz0 hL _
  have hval : ∀ (j : Nat) t v, Tryd.f6.params[j]? = some t → args[j]? = some v → Value.okWide Tryd.prog W .any base t v := hval0
  have hW' : DataW.Whole enc Tryd.prog Tryd.f6.params.toList Rows.idsSetsSpec.vars false W args.toList ds gs before := hW
  have hWk := hW'
  obtain ⟨p, q, hA, hV, rfl, hfz, hnd⟩ := hW'
  rw [Tryd.params6] at hA hval
  obtain ⟨v0, v1, d0, d1, p0, p1, rfl, rfl, rfl, h0, h1⟩ := trodAll_two hA
  obtain ⟨rfl, rfl⟩ := trodVars_none hV
  obtain ⟨A, Ls, c, rfl, hr, hlc, hcm⟩ := open_texts Tryd.underlying22 Tryd.underlying9 Tryd.cellsS (hval 0 22 v0 rfl rfl) h0
  obtain ⟨C, Ms, d, rfl, hr2, hmd, hdm⟩ := open_texts Tryd.underlying22 Tryd.underlying9 Tryd.cellsS (hval 1 22 v1 rfl rfl) h1
  refine (sets_any Ls Ms A C _ c _ d W rfl rfl hr hr2 (tab_of_laid hL) hlc hcm hmd hdm).mono fun e W' ⟨he, hb⟩ => ⟨_, he, ?_⟩
  exact law_post Tryd.laidOut hWk rfl rfl rfl rfl rfl Tryd.underlying4 (by kernel_rfl) hb
theorem sets_said : Rows.IdsSetsSaid :=
  OpenClaim.holds_of_wide 6 Tryd.f6 rfl rfl rfl rfl rfl rfl rfl ⟨rfl, rfl, rfl, rfl, rfl⟩ rfl rfl rfl rfl rfl (by kernel_rfl) Tryd.func6 (by kernel_rfl)
    (of_decide_eq_true (by kernel_rfl)) (by unfold Func.isWrapper; first | (rw [if_pos (by decide +kernel)]; kernel_rfl) | (rw [if_neg (by decide +kernel)]; exact ⟨rfl, rfl⟩))
    (fun os started H enc _ => sets_lifted os started H enc)
theorem sets_holds : Rows.IdsSetsCardSaid :=
  Claim7.holds_tied_plain_at .later [] [.data] true Rows.idsSetsCard.stood.harness false
    sets_said (fun _ h => by cases h) (by kernel_rfl) (fun _ h => by cases h) idsSets_row_tie rfl ⟨rfl, rfl⟩ (by kernel_rfl) rfl
    (fun f fn hf hfn => by
      obtain rfl : f = 6 := Option.some.inj ((show Tryd.prog.funcNamed "chantry/chantrylaw04.IdsSets" = some 6 by kernel_rfl).symm.trans hf) |>.symm
      obtain rfl : fn = Tryd.f6 := (Option.some.inj (Tryd.func6.symm.trans hfn)).symm
      exact ⟨by kernel_rfl, fun j t ht => by
        rw [Tryd.params6] at ht
        have hm : t ∈ [22, 22] := by simpa using Array.mem_of_getElem? ht
        have hall : ([22, 22].all fun u => !Tryd.prog.wantsStandIn u) = true := by kernel_rfl
        exact (show Tryd.prog.wantsStandIn t = false by simpa using List.all_eq_true.1 hall t hm)⟩)
    (by kernel_rfl)

end Go.Proofs.YtmmilgjdngdnfaaDoor
