/- IdsHex returns true for every text. -/
import Derived.Test.YtmmilgjdngdnfaaDoorIdsAwake
import Derived.Test.YtmmilgjdngdnfaaDoorIdsProg
import Derived.Test.YtmmilgjdngdnfaaDoorOpenStrs
import Derived.Test.YtmmilgjdngdnfaaDoorShaLaid
import Derived.Test.YtmmilgjdngdnfaaDoorCards
import Derived.Test.YtmmilgjdngdnfaaDoorTie
import Derived.SevenTiedAt
set_option linter.unusedVariables false
namespace Go.Proofs.YtmmilgjdngdnfaaDoor
open Go.ChangeShapes Go.WideShapes Go.ChangeAt Go.RowKit

set_option maxRecDepth 100000 in
set_option maxHeartbeats 2000000 in
theorem hexlaw_any (L : Bs) (w : World) (hT : Tab w) :
    Calls Tryd.prog 5 #[.string (text L)] w fun e w' => e = .returned (.bool true) ∧ Below w.heap.size w w' := by
  have HAw : Hid (∀ V, Below w.heap.size w V → Calls Tryd.prog 8 #[] V fun e w' => e = .returned (.bool true) ∧ Below V.heap.size V w') := fun V hb => awake_any V (hT.below hb)
  obtain ⟨t, ht⟩ : ∃ t, t = text L := ⟨_, rfl⟩
  obtain ⟨n, hn⟩ : ∃ n, n = L.length := ⟨_, rfl⟩
  have hts : t.size = n := by rw [ht, hn]; exact text_size L
  clear hT
  by_cases h200 : 200 < n
  · have d0 : (200 : Int) < (n : Int) := by omega
    rw [← ht]
    clear ht hn
    go_enter Tryd.func5, Tryd.ntmps5
    go_wp2_with (first
      | (go_at_call 8; (with_reducible refine (HAw.out _ (Below.refl _ _)).mono ?_); rintro e w1 ⟨rfl, hb1⟩))
    go_ret
    exact ⟨rfl, hb1⟩
  · have d0 : (n : Int) ≤ 200 := by omega
    obtain ⟨s, hs⟩ : ∃ s, s = text (hexL L) := ⟨_, rfl⟩
    have P1 : Hid (∀ V, Calls Tryd.prog 26 #[.string t] V fun e w' => e = .returned (idErr (parseL L)) ∧ Below V.heap.size V w') := fun V => by rw [ht]; exact idsParse_any L V (by omega)
    have P2 : Hid (∀ V, Calls Tryd.prog 27 #[.string t] V fun e w' => e = .returned (idErr (parseL L)) ∧ Below V.heap.size V w') := fun V => by rw [ht]; exact refParse_any L V
    have H1 : Hid (∀ V, Calls Tryd.prog 28 #[.string t] V fun e w' => e = .returned (.string s) ∧ Below V.heap.size V w') := fun V => by rw [ht, hs]; exact idsHex_any L V (by omega)
    have H2 : Hid (∀ V, Calls Tryd.prog 29 #[.string t] V fun e w' => e = .returned (.string s) ∧ Below V.heap.size V w') := fun V => by rw [ht, hs]; exact refHex_any L V (by omega)
    have P3 : Hid (∀ V, Calls Tryd.prog 26 #[.string s] V fun e w' => e = .returned (idErr (if L.length = 32 then some L else none)) ∧ Below V.heap.size V w') := fun V => by rw [hs, ← parse_hex]; exact idsParse_any (hexL L) V (by rw [hexL_length]; omega)
    have R1 : Hid (∀ V, Calls Tryd.prog 18 #[.string t] V fun e w' => e = .returned (.bool (rightB L)) ∧ Below V.heap.size V w') := fun V => by rw [ht]; exact idsRight_any L V
    have Ht := Lib.hid ht
    rw [← ht]
    have key : ∀ (v1 : ByteArray) (e1 : Int), idErr (parseL L) = .tuple #[.string v1, .int .i64 e1] → ∀ (v3 : ByteArray) (e3 : Int) (b : Bool), idErr (if L.length = 32 then some L else none) = .tuple #[.string v3, .int .i64 e3] → rightB L = b → ((e3 == 0) = b) → (b = true → e3 = 0 ∧ v3 = t) → (b = false → e3 = 5) →
        Calls Tryd.prog 5 #[.string t] w fun e w' => e = .returned (.bool true) ∧ Below w.heap.size w w' := by
      intro v1 e1 hq1 v3 e3 b hq3 hb he hb1 hb2
      rw [hq1] at P1 P2
      rw [hq3] at P3
      rw [hb] at R1
      clear hq1 hq3 hb ht hn hs
      cases b with
      | true =>
        obtain ⟨rfl, rfl⟩ := hb1 rfl
        clear hb1 hb2 he
        go_enter Tryd.func5, Tryd.ntmps5
        go_wp2_with (first
          | (go_at_call 26; (with_reducible refine (P1.out _).mono ?_); rintro e w1 ⟨rfl, hb1⟩)
          | (go_at_call 27; (with_reducible refine (P2.out _).mono ?_); rintro e w2 ⟨rfl, hb2⟩; have b2 : Below w.heap.size w w2 := hb1.trans (hb2.mono hb1.size))
          | (go_at_call 28; (with_reducible refine (H1.out _).mono ?_); rintro e w3 ⟨rfl, hb3⟩; have b3 : Below w.heap.size w w3 := b2.trans (hb3.mono b2.size))
          | (go_at_call 26; (with_reducible refine (P3.out _).mono ?_); rintro e w4 ⟨rfl, hb4⟩; have b4 : Below w.heap.size w w4 := b3.trans (hb4.mono b3.size))
          | (go_at_call 29; (with_reducible refine (H2.out _).mono ?_); rintro e w5 ⟨rfl, hb5⟩; have b5 : Below w.heap.size w w5 := b4.trans (hb5.mono b4.size))
          | (go_at_call 18; (with_reducible refine (R1.out _).mono ?_); rintro e w6 ⟨rfl, hb6⟩; have b6 : Below w.heap.size w w6 := b5.trans (hb6.mono b5.size))
          | (go_at_call 8; (with_reducible refine (HAw.out _ b6).mono ?_); rintro e w7 ⟨rfl, hb7⟩))
        go_ret
        exact ⟨rfl, b6.trans (hb7.mono b6.size)⟩
      | false =>
        obtain rfl := hb2 rfl
        clear hb1 hb2 he
        go_enter Tryd.func5, Tryd.ntmps5
        go_wp2_with (first
          | (go_at_call 26; (with_reducible refine (P1.out _).mono ?_); rintro e w1 ⟨rfl, hb1⟩)
          | (go_at_call 27; (with_reducible refine (P2.out _).mono ?_); rintro e w2 ⟨rfl, hb2⟩; have b2 : Below w.heap.size w w2 := hb1.trans (hb2.mono hb1.size))
          | (go_at_call 28; (with_reducible refine (H1.out _).mono ?_); rintro e w3 ⟨rfl, hb3⟩; have b3 : Below w.heap.size w w3 := b2.trans (hb3.mono b2.size))
          | (go_at_call 26; (with_reducible refine (P3.out _).mono ?_); rintro e w4 ⟨rfl, hb4⟩; have b4 : Below w.heap.size w w4 := b3.trans (hb4.mono b3.size))
          | (go_at_call 29; (with_reducible refine (H2.out _).mono ?_); rintro e w5 ⟨rfl, hb5⟩; have b5 : Below w.heap.size w w5 := b4.trans (hb5.mono b4.size))
          | (go_at_call 18; (with_reducible refine (R1.out _).mono ?_); rintro e w6 ⟨rfl, hb6⟩; have b6 : Below w.heap.size w w6 := b5.trans (hb6.mono b5.size))
          | (go_at_call 8; (with_reducible refine (HAw.out _ b6).mono ?_); rintro e w7 ⟨rfl, hb7⟩))
        go_ret
        exact ⟨rfl, b6.trans (hb7.mono b6.size)⟩
    have h3 : ∀ (v1 : ByteArray) (e1 : Int), idErr (parseL L) = .tuple #[.string v1, .int .i64 e1] → Calls Tryd.prog 5 #[.string t] w fun e w' => e = .returned (.bool true) ∧ Below w.heap.size w w' := by
      intro v1 e1 h1
      by_cases h32 : L.length = 32
      · exact key v1 e1 h1 t 0 true (by rw [if_pos h32, Ht.out]; rfl) (by simp [rightB, h32]) rfl (fun _ => ⟨rfl, rfl⟩) (fun h => by cases h)
      · exact key v1 e1 h1 { data := #[] } 5 false (by rw [if_neg h32]; rfl) (by simp [rightB, h32]) rfl (fun h => by cases h) (fun _ => rfl)
    cases hp : parseL L with
    | none => exact h3 { data := #[] } 5 (by rw [hp]; rfl)
    | some o => exact h3 (text o) 0 (by rw [hp]; rfl)

set_option maxRecDepth 100000 in
theorem hexlaw_lifted (os : Os) (started : os.Started) (H : Type) (enc : TypeId × Value → H) :
    ReturnsInHanded {} Tryd.checked os 5 .any (fun w args => (Rows.idsHexSpec.pre enc Tryd.prog Tryd.f5 [] false w args ∧ laidMetH Tryd.prog laidS w) ∧ sizedMet enc Tryd.prog Tryd.f5 (OpenSpec.ofChange Rows.idsHexSpec) false w args)
      (Rows.idsHexSpec.post enc Tryd.prog Tryd.f5 false true false false) := by
  refine returnsInHanded_of_change_and (C := Tryd.checked) (X := fun w _ => laidMetH Tryd.prog laidS w) (fun _ _ _ hh h => h.of_heap hh) Tryd.own started (by kernel_rfl) Tryd.func5
    (ChangeSpec.witness_shaped (enc := enc) (C := Tryd.checked) (os := os) (X := fun w _ => laidMetH Tryd.prog laidS w) false (World.doorLaid Tryd.prog 400 os) #[.string { data := #[] }] 8 rfl (World.shaped_of_RefB (by kernel_rfl) (by kernel_rfl)) (by kernel_rfl) (by kernel_rfl) (by kernel_rfl) (door_met os _)) ?_
  intro W base args ds gs before hval0 hW hcnd hsz0 hL _
  have hval : ∀ (j : Nat) t v, Tryd.f5.params[j]? = some t → args[j]? = some v → Value.okWide Tryd.prog W .any base t v := hval0
  have hW' : DataW.Whole enc Tryd.prog Tryd.f5.params.toList Rows.idsHexSpec.vars false W args.toList ds gs before := hW
  have hWk := hW'
  obtain ⟨p, q, hA, hV, rfl, hfz, hnd⟩ := hW'
  rw [Tryd.params5] at hA hval
  obtain ⟨v0, d0, rfl, rfl, h0⟩ := trodAll_one hA
  obtain ⟨rfl, rfl⟩ := trodVars_none hV
  obtain ⟨s, rfl, rfl, rfl, hsz⟩ := Go.ChangeMaps.open_string Tryd.underlying9 (hval 0 9 v0 rfl rfl) h0
  obtain ⟨x, rfl⟩ : ∃ x : Bs, s = text x := ⟨s.data.toList, by cases s; rfl⟩
  refine (hexlaw_any x W (tab_of_laid hL)).mono fun e W' ⟨he, hb⟩ => ⟨_, he, ?_⟩
  exact law_post Tryd.laidOut hWk rfl rfl rfl rfl rfl Tryd.underlying4 (by kernel_rfl) hb
theorem hexlaw_said : Rows.IdsHexSaid :=
  OpenClaim.holds_of_wide 5 Tryd.f5 rfl rfl rfl rfl rfl rfl rfl ⟨rfl, rfl, rfl, rfl, rfl⟩ rfl rfl rfl rfl rfl (by kernel_rfl) Tryd.func5 (by kernel_rfl)
    (of_decide_eq_true (by kernel_rfl)) (by unfold Func.isWrapper; first | (rw [if_pos (by decide +kernel)]; kernel_rfl) | (rw [if_neg (by decide +kernel)]; exact ⟨rfl, rfl⟩))
    (fun os started H enc _ => hexlaw_lifted os started H enc)
theorem hexlaw_holds : Rows.IdsHexCardSaid :=
  Claim7.holds_tied_plain_at .later [] [.data] true Rows.idsHexCard.stood.harness false
    hexlaw_said (fun _ h => by cases h) (by kernel_rfl) (fun _ h => by cases h) idsHex_row_tie rfl ⟨rfl, rfl⟩ (by kernel_rfl) rfl
    (fun f fn hf hfn => by
      obtain rfl : f = 5 := Option.some.inj ((show Tryd.prog.funcNamed "chantry/chantrylaw04.IdsHex" = some 5 by kernel_rfl).symm.trans hf) |>.symm
      obtain rfl : fn = Tryd.f5 := (Option.some.inj (Tryd.func5.symm.trans hfn)).symm
      exact ⟨by kernel_rfl, fun j t ht => by
        rw [Tryd.params5] at ht
        have hm : t ∈ [9] := by simpa using Array.mem_of_getElem? ht
        have hall : ([9].all fun u => !Tryd.prog.wantsStandIn u) = true := by kernel_rfl
        exact (show Tryd.prog.wantsStandIn t = false by simpa using List.all_eq_true.1 hall t hm)⟩)
    (by kernel_rfl)

end Go.Proofs.YtmmilgjdngdnfaaDoor
