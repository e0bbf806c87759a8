/- CrcSeals returns true for every two slices of bytes, and leaves memory that was there as it was; nothing is assumed beyond the statement itself. -/
import Derived.Test.YtmmoenglnaphdaaAwake
import Derived.Test.YtmmoenglnaphdaaROpen
import Derived.Test.YtmmoenglnaphdaaLaw
import Derived.Deep.RegionHeldLaw
set_option linter.unusedVariables false
namespace Go.Proofs.Ytmmoenglnaphdaa
open Go.ChangeShapes Go.WideShapes Go.ChangeAt Go.RowKit

/-- What Open gives, as bytes and a number. -/
def openR (L : List UInt8) : List UInt8 × Nat :=
  match openL L with
  | some M => (M, 0)
  | none => ([], 12)
theorem openR_any (L : List UInt8) (A : Option Addr) (c : Nat) (w : World) (hr : RB w w.heap.size A L) (hlc : L.length ≤ c) (hc : c ≤ 9223372036854775807) (hl : L.length ≤ 1048576) :
    Calls Try.prog 13 #[.slice A L.length c] w (GivesR (openR L) w) := by
  refine (open_any L A c _ w hr hlc hc hl).mono fun e w' h => ?_
  unfold openR
  rcases ho : openL L with _ | M
  · rw [ho] at h
    exact ⟨none, 0, h.1, RB.none_ _ _, h.2⟩
  · rw [ho] at h
    obtain ⟨A', c', he, ho', hb⟩ := h
    exact ⟨A', c', he, own_rb ho', hb⟩
theorem refOpenR_any (L : List UInt8) (A : Option Addr) (c : Nat) (w : World) (hr : RB w w.heap.size A L) (hlc : L.length ≤ c) (hc : c ≤ 9223372036854775807) (hl : L.length ≤ 1048576) :
    Calls Try.prog 14 #[.slice A L.length c] w (GivesR (openR L) w) := by
  refine (refOpen_any L A c _ w hr hlc hc hl).mono fun e w' h => ?_
  unfold openR
  rcases ho : openL L with _ | M
  · rw [ho] at h
    exact ⟨none, 0, h.1, RB.none_ _ _, h.2⟩
  · rw [ho] at h
    exact h
/-- What a seal gives. -/
def GivesSeal (S : List UInt8) (w : World) (e : Ending) (w' : World) : Prop :=
  ∃ A c, e = .returned (.slice A S.length c) ∧ RB w' w'.heap.size A S ∧ S.length ≤ c ∧ c ≤ 9223372036854775807 ∧ Below w.heap.size w w'
theorem GivesOne.seal {S : List UInt8} {w w' : World} {e : Ending} (h : GivesOne S w e w') : GivesSeal S w e w' := by
  obtain ⟨A, c, he, ho, hb⟩ := h
  exact ⟨A, c, he, own_rb ho, own_le ho, own_cap ho, hb⟩

/-- What five texts are, in every world that is as this one was. -/
theorem strs5 {w w' : World} {A0 A1 A2 A3 A4 : Option Addr} {L0 L1 L2 L3 L4 : List UInt8} (f0 : RB w w.heap.size A0 L0) (f1 : RB w w.heap.size A1 L1) (f2 : RB w w.heap.size A2 L2) (f3 : RB w w.heap.size A3 L3) (f4 : RB w w.heap.size A4 L4)
    (c0 c1 c2 c3 c4 : Nat) (hb : Below w.heap.size w w') :
    (convert 22 9 (.slice A0 L0.length c0)).run Try.prog w' = .ok (.string ⟨L0.toArray⟩) w' ∧ (convert 22 9 (.slice A1 L1.length c1)).run Try.prog w' = .ok (.string ⟨L1.toArray⟩) w' ∧ (convert 22 9 (.slice A2 L2.length c2)).run Try.prog w' = .ok (.string ⟨L2.toArray⟩) w' ∧
      (convert 22 9 (.slice A3 L3.length c3)).run Try.prog w' = .ok (.string ⟨L3.toArray⟩) w' ∧ (convert 22 9 (.slice A4 L4.length c4)).run Try.prog w' = .ok (.string ⟨L4.toArray⟩) w' :=
  ⟨aw_str ((f0.below hb).more hb.size) _ c0 rfl, aw_str ((f1.below hb).more hb.size) _ c1 rfl, aw_str ((f2.below hb).more hb.size) _ c2 rfl, aw_str ((f3.below hb).more hb.size) _ c3 rfl, aw_str ((f4.below hb).more hb.size) _ c4 rfl⟩

set_option maxRecDepth 100000 in
set_option maxHeartbeats 4000000 in
theorem seals_core (L M S Y : List UInt8) (f : Nat) (A C : Option Addr) (c d : Nat) (w : World) (hr : RB w w.heap.size A L) (hr2 : RB w w.heap.size C M) (hl : ¬ 2000 < L.length) (hm : ¬ 2000 < M.length)
    (HC12 : Hid (∀ W, RB W W.heap.size A L → Calls Try.prog 12 #[.slice A L.length c] W (GivesSeal S W)))
    (HC13 : Hid (∀ W A c, RB W W.heap.size A S → S.length ≤ c → c ≤ 9223372036854775807 → Calls Try.prog 13 #[.slice A S.length c] W (GivesR (L, 0) W)))
    (HC13b : Hid (∀ W, RB W W.heap.size C M → Calls Try.prog 13 #[.slice C M.length d] W (GivesR (Y, f) W)))
    (HC14 : Hid (∀ W, RB W W.heap.size C M → Calls Try.prog 14 #[.slice C M.length d] W (GivesR (Y, f) W)))
    (HC15 : Hid (∀ W, RB W W.heap.size A L → Calls Try.prog 15 #[.slice A L.length c] W (GivesSeal S W))) :
    Calls Try.prog 4 #[.slice A L.length c, .slice C M.length d] w fun e w' => e = .returned (.bool true) ∧ Below w.heap.size w w' := by
  go_enter Try.func4, Try.ntmps4
  go_wp2_with (first
    | (go_at_call 12; (with_reducible refine (HC12.out _ hr).mono ?_); rintro e w1 ⟨A1, c1, rfl, hr1, h11, h12, hb1⟩; have g1 := (hr2.below hb1).more hb1.size)
    | (go_at_call 13; (with_reducible refine (HC13.out _ _ _ hr1 h11 h12).mono ?_); rintro e w2 ⟨A2, c2, rfl, hr3, hb2⟩; have g2 := (g1.below hb2).more hb2.size)
    | (go_at_call 13; (with_reducible refine (HC13b.out _ g2).mono ?_); rintro e w3 ⟨A3, c3, rfl, hr4, hb3⟩; have g3 := (g2.below hb3).more hb3.size)
    | (go_at_call 14; (with_reducible refine (HC14.out _ g3).mono ?_); rintro e w4 ⟨A4, c4, rfl, hr5, hb4⟩))
  have z1 := hb1.size
  have z2 := hb2.size
  have z3 := hb3.size
  have z4 := hb4.size
  have hbw : Below w.heap.size w w4 := ((hb1.trans (hb2.mono z1)).trans (hb3.mono (by omega))).trans (hb4.mono (by omega))
  have f0 := (hr.below hbw).more hbw.size
  have f1 := (hr1.below (hb2.trans ((hb3.trans (hb4.mono z3)).mono z2))).more (by omega : w1.heap.size ≤ w4.heap.size)
  have f2 := (hr3.below (hb3.trans (hb4.mono z3))).more (by omega : w2.heap.size ≤ w4.heap.size)
  have f3 := (hr4.below hb4).more z4
  have f4 := hr5
  clear hr hr2 hr1 hr3 hr4 hr5 g1 g2 g3 hb1 hb2 hb3 hb4 z1 z2 z3 z4 h11 h12
  go_region_held_law (fun w' => (convert 22 9 (.slice A L.length c)).run Try.prog w' = .ok (.string ⟨L.toArray⟩) w' ∧ (convert 22 9 (.slice A1 S.length c1)).run Try.prog w' = .ok (.string ⟨S.toArray⟩) w' ∧ (convert 22 9 (.slice A2 L.length c2)).run Try.prog w' = .ok (.string ⟨L.toArray⟩) w' ∧
      (convert 22 9 (.slice A3 Y.length c3)).run Try.prog w' = .ok (.string ⟨Y.toArray⟩) w' ∧ (convert 22 9 (.slice A4 Y.length c4)).run Try.prog w' = .ok (.string ⟨Y.toArray⟩) w')
    (first | exact strs5 f0 f1 f2 f3 f4 c c1 c2 c3 c4 (Below.refl _ _).drew | exact strs5 f0 f1 f2 f3 f4 c c1 c2 c3 c4 hb6 | exact strs5 f0 f1 f2 f3 f4 c c1 c2 c3 c4 hb5)
    (first
      | (go_at_call 15; (with_reducible refine (HC15.out _ f0.drew).mono ?_); rintro e w5 ⟨A5, c5, rfl, hr6, _, _, hb5'⟩; have hb5 : Below w4.heap.size w4 w5 := below_drew hb5'; have e5 := aw_str hr6 S.length c5 rfl)
      | (go_at_call 7; refine (awake_any _).mono ?_; rintro e w6 ⟨rfl, hb6'⟩; have hb6 : Below w4.heap.size w4 w6 := hb5.trans (hb6'.mono hb5.size)))
  go_wp2
  go_ret
  exact ⟨rfl, hbw.trans (hb6.mono hbw.size)⟩

theorem seals_any (L M : List UInt8) (A C : Option Addr) (c d : Nat) (w : World) (hr : RB w w.heap.size A L) (hr2 : RB w w.heap.size C M) (hmd : M.length ≤ d) (hd : d ≤ 9223372036854775807) :
    Calls Try.prog 4 #[.slice A L.length c, .slice C M.length d] w fun e w' => e = .returned (.bool true) ∧ Below w.heap.size w w' := by
  by_cases hl : 2000 < L.length
  · have hl' : (2000 : Int) < (L.length : Int) := by omega
    go_enter Try.func4, Try.ntmps4
    go_wp2_with (go_at_call 7; refine (awake_any _).mono ?_; rintro e w' ⟨rfl, hb⟩)
    go_ret
    exact ⟨rfl, hb⟩
  by_cases hm : 2000 < M.length
  · have hm' : (2000 : Int) < (M.length : Int) := by omega
    go_enter Try.func4, Try.ntmps4
    go_wp2_with (go_at_call 7; refine (awake_any _).mono ?_; rintro e w' ⟨rfl, hb⟩)
    go_ret
    exact ⟨rfl, hb⟩
  have hx : openR (sealL L) = (L, 0) := by unfold openR; rw [open_seal]
  refine seals_core L M (sealL L) (openR M).1 (openR M).2 A C c d w hr hr2 hl hm (fun W h => (seal_any L A c _ W h (by omega)).mono fun e w' h => GivesOne.seal h) (fun W A' c' h h1 h2 => ?_)
    (fun W h => openR_any M C d W h hmd hd (by omega)) (fun W h => refOpenR_any M C d W h hmd hd (by omega)) (fun W h => (refSeal_any L A c _ W h (by omega)).mono fun e w' h => GivesOne.seal h)
  have := openR_any (sealL L) A' c' W h h1 h2 (by rw [sealL_length]; omega)
  rwa [hx] at this

theorem Try.cells5b : Try.prog.cellsOf 5 = 1 := by kernel_rfl

set_option maxRecDepth 100000 in
theorem seals_lifted (os : Os) (started : os.Started) (H : Type) (enc : TypeId × Value → H) :
    ReturnsInHanded {} Try.checked os 4 .any (Rows.crcSealsSpec.pre6 enc Try.prog Try.f4 Rows.crcSealsRow.domain false) (Rows.crcSealsSpec.post enc Try.prog Try.f4 false true false false) := by
  refine returnsInHanded_of_change (C := Try.checked) Try.own started (by kernel_rfl) Try.func4
    (ChangeSpec.witness6 (enc := enc) (C := Try.checked) false ⟨#[], #[.slice none 0 0, .slice none 0 0], []⟩ 8 (by kernel_rfl) (by kernel_rfl) (by kernel_rfl) (by kernel_rfl)) ?_
  intro W base args ds gs before hval0 hW hcnd _
  have hval : ∀ (j : Nat) t v, Try.f4.params[j]? = some t → args[j]? = some v → Value.okWide Try.prog W .any base t v := hval0
  have hW' : DataW.Whole enc Try.prog Try.f4.params.toList Rows.crcSealsSpec.vars false W args.toList ds gs before := hW
  have hWk := hW'
  obtain ⟨p, q, hA, hV, rfl, hfz, hnd⟩ := hW'
  rw [Try.params4] at hA hval
  obtain ⟨v0, v1, d0, d1, p0, p1, rfl, rfl, rfl, h0, h1⟩ := trodAll_two hA
  obtain ⟨rfl, rfl⟩ := trodVars_none hV
  obtain ⟨A, L, c, rfl, hr, hlc, hcm⟩ := open_bytes Try.underlying22 Try.underlying5 Try.cells5b (hval 0 22 v0 rfl rfl) h0
  obtain ⟨C, M, d, rfl, hr2, hmd, hdm⟩ := open_bytes Try.underlying22 Try.underlying5 Try.cells5b (hval 1 22 v1 rfl rfl) h1
  refine (seals_any L M A C c d W hr hr2 hmd hdm).mono fun e W' ⟨he, hb⟩ => ⟨_, he, ?_⟩
  exact law_post Try.laidOut hWk rfl rfl rfl rfl rfl Try.underlying4 (by kernel_rfl) hb

theorem seals_holds : Rows.CrcSealsSaid :=
  OpenClaim.holds_of_wide 4 Try.f4 rfl rfl rfl rfl rfl rfl rfl ⟨rfl, rfl, rfl, rfl, rfl⟩ rfl rfl rfl rfl rfl (by kernel_rfl) Try.func4 (by kernel_rfl)
    (of_decide_eq_true (by kernel_rfl)) (by unfold Func.isWrapper; first | (rw [if_pos (by decide +kernel)]; kernel_rfl) | (rw [if_neg (by decide +kernel)]; exact ⟨rfl, rfl⟩))
    (fun os started H enc _ => seals_lifted os started H enc)

end Go.Proofs.Ytmmoenglnaphdaa
