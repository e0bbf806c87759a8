/- NumTakes returns true for every slice of bytes and every slice of ints, and leaves memory that was there as it was; nothing is assumed beyond the statement itself. -/
import Derived.Test.YtdiihnpnjgadeaaTakb
namespace Go.Proofs.Ytdiihnpnjgadeaa
open Go.ChangeShapes Go.WideShapes Go.ChangeAt Go.RowKit

theorem takes_any (A A2 : Option Addr) (c c2 : Nat) (L : List UInt8) (Z : List Int) (w : World) (hr : RB w w.heap.size A L) (hi : RI w w.heap.size A2 Z) (hlc : L.length ≤ c)
    (hwf : ∀ z ∈ Z, -9223372036854775808 ≤ z ∧ z ≤ 9223372036854775807) :
    Calls Try.prog 6 #[.slice A L.length c, .slice A2 Z.length c2] w fun e w' => e = .returned (.bool true) ∧ Below w.heap.size w w' := by
  by_cases hl : 1000 < L.length
  · have hd1 : decide (1000 < (L.length : Int)) = true := by simp; omega
    go_enter Try.func6, Try.ntmps6
    go_wp2_with (go_at_call 7; refine (awake_any _).mono ?_; rintro e w' ⟨rfl, hb⟩)
    go_ret
    exact ⟨rfl, hb⟩
  by_cases hz : 60 < Z.length
  · have hd1 : decide (1000 < (L.length : Int)) = false := by simp; omega
    have hd2 : decide (60 < (Z.length : Int)) = true := by simp; omega
    go_enter Try.func6, Try.ntmps6
    go_wp2_with (go_at_call 7; refine (awake_any _).mono ?_; rintro e w' ⟨rfl, hb⟩)
    go_ret
    exact ⟨rfl, hb⟩
  exact takes_core A A2 c c2 L Z w hr hi hlc (by omega) (by omega) hwf

theorem Try.cells3 : Try.prog.cellsOf 3 = 1 := by kernel_rfl
theorem Try.cells5' : Try.prog.cellsOf 5 = 1 := by kernel_rfl

set_option maxRecDepth 100000 in
theorem takes_lifted (os : Os) (started : os.Started) (H : Type) (enc : TypeId × Value → H) :
    ReturnsInHanded {} Try.checked os 6 .any (Rows.numTakesSpec.pre6 enc Try.prog Try.f6 Rows.numTakesRow.domain false) (Rows.numTakesSpec.post enc Try.prog Try.f6 false true false false) := by
  refine returnsInHanded_of_change (C := Try.checked) Try.own started (by kernel_rfl) Try.func6
    (ChangeSpec.witness6 (enc := enc) (C := Try.checked) false ⟨#[], #[.slice none 0 0, .slice none 0 0], []⟩ 8 (by kernel_rfl) (by kernel_rfl) (by kernel_rfl) (by kernel_rfl)) ?_
  intro W base args ds gs before hval0 hW hcnd _
  have hval : ∀ (j : Nat) t v, Try.f6.params[j]? = some t → args[j]? = some v → Value.okWide Try.prog W .any base t v := hval0
  have hW' : DataW.Whole enc Try.prog Try.f6.params.toList Rows.numTakesSpec.vars false W args.toList ds gs before := hW
  have hWk := hW'
  obtain ⟨p, q, hA, hV, rfl, hfz, hnd⟩ := hW'
  rw [Try.params6] at hA hval
  obtain ⟨v0, v1, d0, d1, p0, p1, rfl, rfl, rfl, h0, h1⟩ := trodAll_two hA
  obtain ⟨rfl, rfl⟩ := trodVars_none hV
  obtain ⟨A, L, c, rfl, hr, hlc, hcm⟩ := open_bytes Try.underlying22 Try.underlying5 Try.cells5' (hval 0 22 v0 rfl rfl) h0
  obtain ⟨A2, Z, c2, rfl, hi, hzc, hzm, hwz⟩ := open_intl Try.underlying40 Try.underlying3 Try.cells3 (hval 1 40 v1 rfl rfl) h1
  have hwf : ∀ z ∈ Z, -9223372036854775808 ≤ z ∧ z ≤ 9223372036854775807 := fun z hz => by
    have hw := hwz z hz
    simpa [Lit.wf, IntKind.min, IntKind.max, IntKind.signed, IntKind.bits] using hw
  refine (takes_any A A2 c c2 L Z W hr hi hlc hwf).mono fun e W' ⟨he, hb⟩ => ⟨_, he, ?_⟩
  exact law_post Try.laidOut hWk rfl rfl rfl rfl rfl Try.underlying4 (by kernel_rfl) hb

theorem takes_holds : Rows.NumTakesSaid :=
  OpenClaim.holds_of_wide 6 Try.f6 rfl rfl rfl rfl rfl rfl rfl ⟨rfl, rfl, rfl, rfl, rfl⟩ rfl rfl rfl rfl rfl (by kernel_rfl) Try.func6 (by kernel_rfl)
    (of_decide_eq_true (by kernel_rfl)) (by unfold Func.isWrapper; first | (rw [if_pos (by decide +kernel)]; kernel_rfl) | (rw [if_neg (by decide +kernel)]; exact ⟨rfl, rfl⟩))
    (fun os started H enc _ => takes_lifted os started H enc)

end Go.Proofs.Ytdiihnpnjgadeaa
