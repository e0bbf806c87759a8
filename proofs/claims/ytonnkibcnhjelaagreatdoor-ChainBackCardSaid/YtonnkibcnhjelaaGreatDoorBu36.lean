/- Lemmas under the proofs of this place: ChainLaid. No statement is proved here. -/
import Derived.Test.YtonnkibcnhjelaaGreatDoorBu34
import Derived.Test.YtonnkibcnhjelaaGreatDoorRows
import Derived.LaidHandle
import Derived.LaidMore
import Derived.Stop.LaidErr
import Derived.Stop.Joined
set_option linter.unusedVariables false
namespace Go.Proofs.YtonnkibcnhjelaaGreatDoor
open Go.ChangeShapes Go.WideShapes Go.ChangeAt Go.RowKit
def laidR : List (String × DataW Unit) := [("errors.errorType", Rows.laid_errors_errorType), ("chantry/chain.errBroken", Rows.laid_chantry_chain_errBroken)]
theorem Tryz.gEt : Tryz.prog.globalNamed "errors.errorType" = some 1 := by kernel_rfl
theorem Tryz.gEb : Tryz.prog.globalNamed "chantry/chain.errBroken" = some 0 := by kernel_rfl
theorem Tryz.gEbType : (Tryz.prog.globals[0]?).map (·.type) = some 94 := by kernel_rfl
theorem Tryz.rtRow : (Tryz.prog.cutTypes.find? (·.1 == "internal/reflectlite.rtype")).map (·.2) = some 154 := by kernel_rfl
theorem Tryz.errRow : ((List.range 233).filter fun t => Tryz.prog.rowNamed t [101, 114, 114, 111, 114]) = [94] := by kernel_rfl
theorem Tryz.typesSize : Tryz.prog.types.size = 233 := by kernel_rfl
theorem Tryz.cellsEs : Tryz.prog.cellsOf 221 = 1 := by kernel_rfl
theorem Tryz.cellsStr : Tryz.prog.cellsOf 9 = 1 := by kernel_rfl
theorem Tryz.starEs : "*" ++ "errors.errorString" = "*errors.errorString" := by decide
theorem Tryz.rowEs (u : TypeId) (h : Tryz.prog.typeName? 3 u = some "*errors.errorString") : u = 200 :=
  typeName_ptr_named (nm := "errors.errorString") (by rw [Tryz.starEs]; kernel_rfl) (by kernel_rfl) (by decide) u (by rw [Tryz.starEs]; exact h)
theorem doorR_met (os : Os) (args : Array Value) : laidMetH Tryz.prog laidR ((World.doorLaid Tryz.prog 400 os).forCall (fun _ _ => 0) ⟨#[], args, []⟩).memory :=
  laidMetH_of_parts3 (fuel := 8) (laidMet_of_run' 8 (by kernel_rfl) (by kernel_rfl)) (by kernel_rfl) (by kernel_rfl)
theorem er_of_laid {W : World} (h : laidMetH Tryz.prog laidR W) : Er W := by
  have h' : laidMet Tryz.prog [("chantry/chain.errBroken", Rows.laid_chantry_chain_errBroken)] W ∧ handlesMet Tryz.prog [("errors.errorType", Rows.laid_errors_errorType)] W := h
  constructor
  · have h1 := laid_sentinel h'.1 Tryz.gEb Tryz.gEbType Tryz.underlying94 Tryz.rowEs Tryz.underlying200 Tryz.underlying221 rfl rfl Tryz.underlying9 Tryz.cellsEs Tryz.cellsStr
    obtain ⟨a, s, hv, _⟩ := h1
    exact ⟨a, by simpa using World.var?_cell Tryz.gEb hv 0⟩
  · obtain ⟨name, u, ty, e1, e2, e3, e4, e5⟩ := h'.2 _ (List.mem_singleton.2 rfl)
    have en : name = [101, 114, 114, 111, 114] := (Option.some.inj e1).symm
    subst en
    obtain rfl := Option.some.inj (Tryz.rtRow.symm.trans e2)
    have hm : ty ∈ (List.range 233).filter fun t => Tryz.prog.rowNamed t [101, 114, 114, 111, 114] := List.mem_filter.2 ⟨List.mem_range.2 (by rw [← Tryz.typesSize]; exact e3), e4⟩
    rw [Tryz.errRow] at hm
    obtain rfl := List.mem_singleton.1 hm
    have hh : typeHandle Tryz.prog 94 = .pointer (some ⟨2, 94, none⟩) := by kernel_rfl
    rw [hh] at e5
    simpa using World.var?_cell Tryz.gEt e5 0
end Go.Proofs.YtonnkibcnhjelaaGreatDoor
