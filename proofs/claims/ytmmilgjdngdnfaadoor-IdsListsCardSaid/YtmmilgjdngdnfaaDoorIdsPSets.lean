/- The walks of the program's Has, Union, Meet and Less (layer 4). -/
import Derived.Test.YtmmilgjdngdnfaaDoorIdsPOf
import Derived.Test.YtmmilgjdngdnfaaDoorIdsOf
set_option linter.unusedVariables false
namespace Go.Proofs.YtmmilgjdngdnfaaDoor
open Go.RowKit

theorem text_inj {a b : Bs} (h : text a = text b) : a = b := by
  have := congrArg ByteArray.toList h
  rwa [text_toList, text_toList] at this
/-- Of either: the words of the program's own closure. -/
theorem merge_union2 {a b : List Bs} : mergeF (fun p q => p || q) (ofL a) (ofL b) = unionL a b := by
  refine up_ext (mergeF_up _ _ _ _ rfl (ofL_up a) (ofL_up b)) (ofL_up _) fun z => ?_
  rw [mergeF_mem _ z _ _ _ rfl (ofL_up a) (ofL_up b), unionL_mem]
  simp only [ofL_mem]
  by_cases h : rightB z = true <;> by_cases h2 : z ∈ a <;> by_cases h3 : z ∈ b <;> simp [h, h2, h3]
theorem contains_has (Ls : List Bs) (x : Bs) : Lib.containsS (Ls.map text) (text x) = hasL Ls x := by
  rw [Bool.eq_iff_iff, Lib.containsS_iff, hasL_iff, List.mem_map]
  constructor
  · rintro ⟨y, hy, e⟩; rw [← text_inj e]; exact hy
  · intro h; exact ⟨x, h, rfl⟩
theorem contains_any (Ls : List Bs) (x : Bs) (A : Option Addr) (n c B : Nat) (w : World) (HN : Hid (n = Ls.length)) (hr : SS w B A Ls) (hn : n ≤ 1000000) :
    Calls Tryd.prog 38 #[.slice A n c, .string (text x)] w fun e w' => e = .returned (.bool (hasL Ls x)) ∧ w' = w := by
  have hN := HN.out
  subst hN
  by_cases h0 : Ls.length = 0
  · have hl : Ls = [] := List.length_eq_zero_iff.1 h0
    subst hl
    exact Any.slices_Contains_string_empty Tryd.laysContains A c (text x) w
  · obtain ⟨b, off, rfl, hb, hc⟩ := hr.at_ (by omega)
    have h := Any.slices_Contains_string Tryd.laysContains b off Ls.length c (Ls.map text) (text x) w (by simp) (by omega) (fun j hj => by
      have hj' : j < Ls.length := by simpa using hj
      rw [hc j hj']
      simp [List.getD, List.getElem?_eq_getElem hj'])
    rw [List.take_of_length_le (by simp), contains_has] at h
    exact h
set_option maxRecDepth 100000 in
theorem idsHas_any (Ls : List Bs) (x : Bs) (A : Option Addr) (n c B : Nat) (w : World) (HN : Hid (n = Ls.length)) (hr : SS w B A Ls) (hn : n ≤ 1000) (hc : n ≤ c) (hcm : c ≤ 9223372036854775807) :
    Calls Tryd.prog 16 #[.slice A n c, .string (text x)] w fun e w' => e = .returned (.bool (hasL Ls x)) ∧ Below w.heap.size w w' := by
  have HC := Lib.hid (contains_any Ls x A n c B w HN hr (by omega))
  obtain ⟨t, ht⟩ : ∃ t, t = text x := ⟨_, rfl⟩
  rw [← ht] at HC ⊢
  clear ht hr
  go_enter Tryd.func16, Tryd.ntmps16
  go_wp2_with (first
    | (go_at_call 38; (with_reducible refine HC.out.mono ?_); rintro e w' ⟨rfl, hw⟩; subst hw))
  go_ret
  exact ⟨rfl, Below.refl _ _⟩

set_option maxRecDepth 100000 in
set_option maxHeartbeats 1000000 in
theorem idsUnion_any (Ls Ms : List Bs) (A C : Option Addr) (n c m d B : Nat) (w : World) (HN : Hid (n = Ls.length)) (HM : Hid (m = Ms.length)) (hr : SS w B A Ls) (hr2 : SS w B C Ms) (hn : n ≤ 1000) (hm : m ≤ 1000) (hc : n ≤ c) (hcm : c ≤ 9223372036854775807) (hd : m ≤ d) (hdm : d ≤ 9223372036854775807) :
    Calls Tryd.prog 20 #[.slice A n c, .slice C m d] w (GivesStrs (unionL Ls Ms) w) := by
  have HR2 := Lib.hid hr2.lt
  have HE : Hid (mergeF (fun p q => p || q) (ofL Ls) (ofL Ms) = unionL Ls Ms) := merge_union2
  obtain ⟨k1, hk1⟩ : ∃ k, k = (ofL Ls).length := ⟨_, rfl⟩
  obtain ⟨k2, hk2⟩ : ∃ k, k = (ofL Ms).length := ⟨_, rfl⟩
  have l1 : k1 ≤ 1000 := by have := ofK_length Ls Ls.length; have := HN.out; rw [hk1]; show (ofK Ls Ls.length).length ≤ _; omega
  have l2 : k2 ≤ 1000 := by have := ofK_length Ms Ms.length; have := HM.out; rw [hk2]; show (ofK Ms Ms.length).length ≤ _; omega
  have HK1 := Lib.hid hk1
  have HK2 := Lib.hid hk2
  have HO : Hid (Calls Tryd.prog 14 #[.slice A n c] w (fun e w' => ∃ A c, e = .returned (.slice A k1 c) ∧ SS w' w'.heap.size A (ofL Ls) ∧ k1 ≤ c ∧ c ≤ 9223372036854775807 ∧ Below w.heap.size w w')) := by show Calls _ _ _ _ _; rw [hk1]; exact idsOf_any Ls A n c B w HN hr hn hc hcm
  obtain ⟨R, hR⟩ : ∃ R, R = unionL Ls Ms := ⟨_, rfl⟩
  rw [← hR]
  rw [← hR] at HE
  have HO2 : Hid (∀ w1, Below w.heap.size w w1 → Calls Tryd.prog 14 #[.slice C m d] w1 (fun e w' => ∃ A c, e = .returned (.slice A k2 c) ∧ SS w' w'.heap.size A (ofL Ms) ∧ k2 ≤ c ∧ c ≤ 9223372036854775807 ∧ Below w1.heap.size w1 w')) := fun w1 h1 => by rw [hk2]; exact idsOf_any Ms C m d w.heap.size w1 HM (HR2.out.below h1) hm hd hdm
  clear hr hr2 hk1 hk2 hR
  go_enter Tryd.func20, Tryd.ntmps20
  go_wp2_with (first
    | (go_at_call 14; (with_reducible refine HO.out.mono ?_); rintro e w1 ⟨A1, c1, rfl, hS1, hl1, hc1, hb1⟩; have HS1 := Lib.hid hS1; clear hS1)
    | (go_at_call 14; (with_reducible refine (HO2.out _ hb1).mono ?_); rintro e w2 ⟨A2, c2, rfl, hS2, hl2, hc2, hb2⟩; have HSI := Lib.hid (sifted_any 40 (fun p q => p || q) enters_union (fun p q V => keepUnion_any p q V) (ofL Ls) (ofL Ms) A1 A2 k1 c1 k2 c2 w2 HK1 HK2 ((HS1.out.below hb2).more hb2.size) hS2 l1 l2 hl1 hc1 hl2 hc2); rw [HE.out] at HSI; clear hS2)
    | (go_at_call 39; (with_reducible refine HSI.out.mono ?_); rintro e w3 ⟨A3, c3, rfl, hS3, hl3, hc3, hb3⟩))
  go_ret
  exact ⟨A3, c3, rfl, hS3, hl3, hc3, (hb1.trans (hb2.mono hb1.size)).trans (hb3.mono (hb1.trans (hb2.mono hb1.size)).size)⟩

set_option maxRecDepth 100000 in
set_option maxHeartbeats 1000000 in
theorem idsMeet_any (Ls Ms : List Bs) (A C : Option Addr) (n c m d B : Nat) (w : World) (HN : Hid (n = Ls.length)) (HM : Hid (m = Ms.length)) (hr : SS w B A Ls) (hr2 : SS w B C Ms) (hn : n ≤ 1000) (hm : m ≤ 1000) (hc : n ≤ c) (hcm : c ≤ 9223372036854775807) (hd : m ≤ d) (hdm : d ≤ 9223372036854775807) :
    Calls Tryd.prog 22 #[.slice A n c, .slice C m d] w (GivesStrs (meetL Ls Ms) w) := by
  have HR2 := Lib.hid hr2.lt
  have HE : Hid (mergeF (fun p q => p && q) (ofL Ls) (ofL Ms) = meetL Ls Ms) := merge_meet
  obtain ⟨k1, hk1⟩ : ∃ k, k = (ofL Ls).length := ⟨_, rfl⟩
  obtain ⟨k2, hk2⟩ : ∃ k, k = (ofL Ms).length := ⟨_, rfl⟩
  have l1 : k1 ≤ 1000 := by have := ofK_length Ls Ls.length; have := HN.out; rw [hk1]; show (ofK Ls Ls.length).length ≤ _; omega
  have l2 : k2 ≤ 1000 := by have := ofK_length Ms Ms.length; have := HM.out; rw [hk2]; show (ofK Ms Ms.length).length ≤ _; omega
  have HK1 := Lib.hid hk1
  have HK2 := Lib.hid hk2
  have HO : Hid (Calls Tryd.prog 14 #[.slice A n c] w (fun e w' => ∃ A c, e = .returned (.slice A k1 c) ∧ SS w' w'.heap.size A (ofL Ls) ∧ k1 ≤ c ∧ c ≤ 9223372036854775807 ∧ Below w.heap.size w w')) := by show Calls _ _ _ _ _; rw [hk1]; exact idsOf_any Ls A n c B w HN hr hn hc hcm
  obtain ⟨R, hR⟩ : ∃ R, R = meetL Ls Ms := ⟨_, rfl⟩
  rw [← hR]
  rw [← hR] at HE
  have HO2 : Hid (∀ w1, Below w.heap.size w w1 → Calls Tryd.prog 14 #[.slice C m d] w1 (fun e w' => ∃ A c, e = .returned (.slice A k2 c) ∧ SS w' w'.heap.size A (ofL Ms) ∧ k2 ≤ c ∧ c ≤ 9223372036854775807 ∧ Below w1.heap.size w1 w')) := fun w1 h1 => by rw [hk2]; exact idsOf_any Ms C m d w.heap.size w1 HM (HR2.out.below h1) hm hd hdm
  clear hr hr2 hk1 hk2 hR
  go_enter Tryd.func22, Tryd.ntmps22
  go_wp2_with (first
    | (go_at_call 14; (with_reducible refine HO.out.mono ?_); rintro e w1 ⟨A1, c1, rfl, hS1, hl1, hc1, hb1⟩; have HS1 := Lib.hid hS1; clear hS1)
    | (go_at_call 14; (with_reducible refine (HO2.out _ hb1).mono ?_); rintro e w2 ⟨A2, c2, rfl, hS2, hl2, hc2, hb2⟩; have HSI := Lib.hid (sifted_any 41 (fun p q => p && q) enters_meet (fun p q V => keepMeet_any p q V) (ofL Ls) (ofL Ms) A1 A2 k1 c1 k2 c2 w2 HK1 HK2 ((HS1.out.below hb2).more hb2.size) hS2 l1 l2 hl1 hc1 hl2 hc2); rw [HE.out] at HSI; clear hS2)
    | (go_at_call 39; (with_reducible refine HSI.out.mono ?_); rintro e w3 ⟨A3, c3, rfl, hS3, hl3, hc3, hb3⟩))
  go_ret
  exact ⟨A3, c3, rfl, hS3, hl3, hc3, (hb1.trans (hb2.mono hb1.size)).trans (hb3.mono (hb1.trans (hb2.mono hb1.size)).size)⟩

set_option maxRecDepth 100000 in
set_option maxHeartbeats 1000000 in
theorem idsLess_any (Ls Ms : List Bs) (A C : Option Addr) (n c m d B : Nat) (w : World) (HN : Hid (n = Ls.length)) (HM : Hid (m = Ms.length)) (hr : SS w B A Ls) (hr2 : SS w B C Ms) (hn : n ≤ 1000) (hm : m ≤ 1000) (hc : n ≤ c) (hcm : c ≤ 9223372036854775807) (hd : m ≤ d) (hdm : d ≤ 9223372036854775807) :
    Calls Tryd.prog 24 #[.slice A n c, .slice C m d] w (GivesStrs (lessL Ls Ms) w) := by
  have HR2 := Lib.hid hr2.lt
  have HE : Hid (mergeF (fun p q => p && !q) (ofL Ls) (ofL Ms) = lessL Ls Ms) := merge_less
  obtain ⟨k1, hk1⟩ : ∃ k, k = (ofL Ls).length := ⟨_, rfl⟩
  obtain ⟨k2, hk2⟩ : ∃ k, k = (ofL Ms).length := ⟨_, rfl⟩
  have l1 : k1 ≤ 1000 := by have := ofK_length Ls Ls.length; have := HN.out; rw [hk1]; show (ofK Ls Ls.length).length ≤ _; omega
  have l2 : k2 ≤ 1000 := by have := ofK_length Ms Ms.length; have := HM.out; rw [hk2]; show (ofK Ms Ms.length).length ≤ _; omega
  have HK1 := Lib.hid hk1
  have HK2 := Lib.hid hk2
  have HO : Hid (Calls Tryd.prog 14 #[.slice A n c] w (fun e w' => ∃ A c, e = .returned (.slice A k1 c) ∧ SS w' w'.heap.size A (ofL Ls) ∧ k1 ≤ c ∧ c ≤ 9223372036854775807 ∧ Below w.heap.size w w')) := by show Calls _ _ _ _ _; rw [hk1]; exact idsOf_any Ls A n c B w HN hr hn hc hcm
  obtain ⟨R, hR⟩ : ∃ R, R = lessL Ls Ms := ⟨_, rfl⟩
  rw [← hR]
  rw [← hR] at HE
  have HO2 : Hid (∀ w1, Below w.heap.size w w1 → Calls Tryd.prog 14 #[.slice C m d] w1 (fun e w' => ∃ A c, e = .returned (.slice A k2 c) ∧ SS w' w'.heap.size A (ofL Ms) ∧ k2 ≤ c ∧ c ≤ 9223372036854775807 ∧ Below w1.heap.size w1 w')) := fun w1 h1 => by rw [hk2]; exact idsOf_any Ms C m d w.heap.size w1 HM (HR2.out.below h1) hm hd hdm
  clear hr hr2 hk1 hk2 hR
  go_enter Tryd.func24, Tryd.ntmps24
  go_wp2_with (first
    | (go_at_call 14; (with_reducible refine HO.out.mono ?_); rintro e w1 ⟨A1, c1, rfl, hS1, hl1, hc1, hb1⟩; have HS1 := Lib.hid hS1; clear hS1)
    | (go_at_call 14; (with_reducible refine (HO2.out _ hb1).mono ?_); rintro e w2 ⟨A2, c2, rfl, hS2, hl2, hc2, hb2⟩; have HSI := Lib.hid (sifted_any 42 (fun p q => p && !q) enters_less (fun p q V => keepLess_any p q V) (ofL Ls) (ofL Ms) A1 A2 k1 c1 k2 c2 w2 HK1 HK2 ((HS1.out.below hb2).more hb2.size) hS2 l1 l2 hl1 hc1 hl2 hc2); rw [HE.out] at HSI; clear hS2)
    | (go_at_call 39; (with_reducible refine HSI.out.mono ?_); rintro e w3 ⟨A3, c3, rfl, hS3, hl3, hc3, hb3⟩))
  go_ret
  exact ⟨A3, c3, rfl, hS3, hl3, hc3, (hb1.trans (hb2.mono hb1.size)).trans (hb3.mono (hb1.trans (hb2.mono hb1.size)).size)⟩

end Go.Proofs.YtmmilgjdngdnfaaDoor
