/- WalNobody returns true for every input, and leaves memory that was there as it was; nothing else is assumed beyond the statement itself. -/
import Derived.Test.YtghenhacndaelaaBu40
import Derived.Test.YtghenhacndaelaaBu01
set_option linter.unusedSimpArgs false
set_option linter.unusedVariables false
set_option maxRecDepth 100000
set_option maxHeartbeats 16000000
namespace Go.Proofs.Ytghenhacndaelaa
open Go.ChangeShapes Go.WideShapes Go.ChangeAt Go.RowKit
theorem wnobody_any (A : Option Addr) (n c : Nat) (z : Int) (w : World) (hn : n ≤ 9223372036854775807) :
    Calls Try.prog 4 #[.slice A n c, .int .i64 z] w fun e w' => e = .returned (.bool true) ∧ Below w.heap.size w w' := by
  have H1 := Lib.hid (fun w T c => wappend_none w T n c hn)
  have H2 := Lib.hid wturn_none
  have H3 := Lib.hid wreset_none
  have H4 := Lib.hid wroom_none
  have H5 := Lib.hid wused_none
  have H6 := Lib.hid wdead_none
  have H7 := Lib.hid awake13_any
  go_enter Try.func4, Try.ntmps4
  go_wp2_with (first
    | (go_at_call 12; (with_reducible refine (H1.out _ _ _).mono ?_); rintro e w1 ⟨rfl, b1⟩)
    | (go_at_call 14; (with_reducible refine (H2.out _ _).mono ?_); rintro e w2 ⟨rfl, b2⟩; have c2 := chain7 b1 b2)
    | (go_at_call 15; (with_reducible refine (H3.out _ _).mono ?_); rintro e w3 ⟨rfl, b3⟩; have c3 := chain7 c2 b3)
    | (go_at_call 16; (with_reducible refine (H4.out _).mono ?_); rintro e w4 ⟨rfl, b4⟩; have c4 := chain7 c3 b4)
    | (go_at_call 17; (with_reducible refine (H5.out _).mono ?_); rintro e w5 ⟨rfl, b5⟩; have c5 := chain7 c4 b5)
    | (go_at_call 18; (with_reducible refine (H6.out _).mono ?_); rintro e w6 ⟨rfl, b6⟩; have c6 := chain7 c5 b6)
    | (go_at_call 6; (with_reducible refine (H7.out _).mono ?_); rintro e w7 ⟨rfl, b7⟩; have c7 := chain7 c6 b7))
  go_ret
  exact ⟨rfl, c7⟩
theorem Try.cells5n : Try.prog.cellsOf 5 = 1 := by kernel_rfl
theorem wnobody_lifted (os : Os) (started : os.Started) (H : Type) (enc : TypeId × Value → H) :
    ReturnsInHanded {} Try.checked os 4 .any (Rows.walNobodySpec.pre6 enc Try.prog Try.f4 Rows.walNobodyRow.domain false) (Rows.walNobodySpec.post enc Try.prog Try.f4 false true false false) := by
  refine returnsInHanded_of_change_sized (C := Try.checked) Try.own started (by kernel_rfl) Try.func4
    (ChangeSpec.witness6 (enc := enc) (C := Try.checked) false ⟨#[], #[.slice none 0 0, .int .i64 0], []⟩ 8 (by kernel_rfl) (by kernel_rfl) (by kernel_rfl) (by kernel_rfl)) ?_
  intro W base args ds gs before hval0 hW hcnd hsz0 _
  have hval : ∀ (j : Nat) t v, Try.f4.params[j]? = some t → args[j]? = some v → Value.okWide Try.prog W .any base t v := hval0
  have hW' : DataW.Whole enc Try.prog Try.f4.params.toList Rows.walNobodySpec.vars false W args.toList ds gs before := hW
  have hWk := hW'
  clear hsz0 hval0
  obtain ⟨p, q, hA, hV, rfl, hfz, hnd⟩ := hW'
  rw [Try.params4] at hA hval
  obtain ⟨v0, v1, d0, d1, p0, p1, rfl, rfl, rfl, h0, h1⟩ := trodAll_two hA
  obtain ⟨rfl, rfl⟩ := trodVars_none hV
  obtain ⟨A, L, c, rfl, hr, hlc, hcm⟩ := open_bytes Try.underlying38 Try.underlying5 Try.cells5n (hval 0 38 v0 rfl rfl) h0
  obtain ⟨z, rfl, rfl, rfl, wz⟩ := open_int Try.underlying3 (hval 1 3 v1 rfl rfl) h1
  refine (wnobody_any A _ c z W (by unfold maxLen at hcm; omega)).mono fun e W' ⟨he, hb⟩ => ⟨_, he, ?_⟩
  exact law_post Try.laidOut hWk rfl rfl rfl rfl rfl Try.underlying4 (by kernel_rfl) hb
theorem wnobody_holds : Rows.WalNobodySaid :=
  OpenClaim.holds_of_wide 4 Try.f4 rfl rfl rfl rfl rfl rfl rfl ⟨rfl, rfl, rfl, rfl, rfl⟩ rfl rfl rfl rfl rfl (by kernel_rfl) Try.func4 (by kernel_rfl)
    (of_decide_eq_true (by kernel_rfl)) (by unfold Func.isWrapper; first | (rw [if_pos (by decide +kernel)]; kernel_rfl) | (rw [if_neg (by decide +kernel)]; exact ⟨rfl, rfl⟩))
    (fun os started H enc _ => wnobody_lifted os started H enc)
end Go.Proofs.Ytghenhacndaelaa
