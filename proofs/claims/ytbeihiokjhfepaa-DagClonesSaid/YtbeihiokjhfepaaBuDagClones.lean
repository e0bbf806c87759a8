/- DagClones returns true for every three lists of nodes, and leaves memory that was there as it was; nothing else is assumed beyond the statement itself. -/
import Derived.Test.YtbeihiokjhfepaaBu41
import Derived.Test.YtbeihiokjhfepaaBu14
import Derived.Test.YtbeihiokjhfepaaBu37
set_option linter.unusedSimpArgs false
set_option linter.unusedVariables false
set_option maxRecDepth 100000
set_option maxHeartbeats 16000000
namespace Go.Proofs.Ytbeihiokjhfepaa
open Go.ChangeShapes Go.WideShapes Go.ChangeAt Go.RowKit
theorem dagclones_lifted (os : Os) (started : os.Started) (H : Type) (enc : TypeId × Value → H) :
    ReturnsInHanded {} Try.checked os 7 .any (Rows.dagClonesSpec.pre6 enc Try.prog Try.f7 Rows.dagClonesRow.domain false) (Rows.dagClonesSpec.post enc Try.prog Try.f7 false true false false) := by
  refine returnsInHanded_of_change_sized (C := Try.checked) Try.own started (by kernel_rfl) Try.func7
    (ChangeSpec.witness6 (enc := enc) (C := Try.checked) false ⟨#[], #[.slice none 0 0, .slice none 0 0, .slice none 0 0], []⟩ 8 (by kernel_rfl) (by kernel_rfl) (by kernel_rfl) (by kernel_rfl)) ?_
  intro W base args ds gs before hval0 hW hcnd hsz0 _
  have hval : ∀ (j : Nat) t v, Try.f7.params[j]? = some t → args[j]? = some v → Value.okWide Try.prog W .any base t v := hval0
  have hW' : DataW.Whole enc Try.prog Try.f7.params.toList Rows.dagClonesSpec.vars false W args.toList ds gs before := hW
  have hWk := hW'
  clear hsz0 hval0
  obtain ⟨p, q, hA, hV, rfl, hfz, hnd⟩ := hW'
  rw [Try.params7] at hA hval
  obtain ⟨v0, v1, v2, d0, d1, d2, p0, p1, p2, rfl, rfl, rfl, h0, h1, h2⟩ := trodAll_three hA
  obtain ⟨rfl, rfl⟩ := trodVars_none hV
  obtain ⟨A, l, c, rfl, hl⟩ := open_nodes (hval 0 22 v0 rfl rfl) h0
  obtain ⟨B, la, d, rfl, hla⟩ := open_nodes (hval 1 22 v1 rfl rfl) h1
  obtain ⟨C, lb, f, rfl, hlb⟩ := open_nodes (hval 2 22 v2 rfl rfl) h2
  refine (dagclones16_any l la lb A B C _ c _ d _ f rfl hl rfl hla rfl hlb).mono fun e W' ⟨he, hb⟩ => ⟨_, he, ?_⟩
  exact law_post Try.laidOut hWk rfl rfl rfl rfl rfl Try.underlying4 (by kernel_rfl) hb
theorem dagclones_holds : Rows.DagClonesSaid :=
  OpenClaim.holds_of_wide 7 Try.f7 rfl rfl rfl rfl rfl rfl rfl ⟨rfl, rfl, rfl, rfl, rfl⟩ rfl rfl rfl rfl rfl (by kernel_rfl) Try.func7 (by kernel_rfl)
    (of_decide_eq_true (by kernel_rfl)) (by unfold Func.isWrapper; first | (rw [if_pos (by decide +kernel)]; kernel_rfl) | (rw [if_neg (by decide +kernel)]; exact ⟨rfl, rfl⟩))
    (fun os started H enc _ => dagclones_lifted os started H enc)
end Go.Proofs.Ytbeihiokjhfepaa
