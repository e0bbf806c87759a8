/- The rounds' numbers, as a row lists them, give what the walks ask; the door's own heap meets the row's condition. No statement is proved here. -/
import Derived.Test.YtmmilgjdngdnfaaDoorShaPMix
import Derived.Test.YtmmilgjdngdnfaaDoorLaw
import Derived.Test.YtmmilgjdngdnfaaDoorRows
import Derived.Lib.LaidTab
import Derived.LaidMore
import Derived.Stop.Joined
set_option linter.unusedVariables false
namespace Go.Proofs.YtmmilgjdngdnfaaDoor
open Go.ChangeShapes Go.WideShapes Go.ChangeAt Go.RowKit

/-- The rounds' numbers, as the row lists them. -/
def laidS : List (String × DataW Unit) := [("chantry/sha.roundNumbers", Rows.laid_chantry_sha_roundNumbers)]
theorem Tryd.gRounds : Tryd.prog.globalNamed "chantry/sha.roundNumbers" = some 0 := by kernel_rfl
theorem Tryd.tRounds : (Tryd.prog.globals[0]?).map (·.type) = some 67 := by kernel_rfl
theorem Tryd.cells35 : Tryd.prog.cellsOf 51 = 1 := by kernel_rfl
theorem Tryd.cells49 : Tryd.prog.cellsOf 67 = 64 := by kernel_rfl
theorem Tryd.cells5s : Tryd.prog.cellsOf 5 = 1 := by kernel_rfl
theorem laidS_tab : laidS = [("chantry/sha.roundNumbers", Lib.tabData .u32 (kL.map fun x => (x.toNat : Int)))] := rfl
/-- The door's own heap meets the condition. -/
theorem door_met (os : Os) (args : Array Value) : laidMetH Tryd.prog laidS ((World.doorLaid Tryd.prog 400 os).forCall (fun _ _ => 0) ⟨#[], args, []⟩).memory :=
  laidMetH_of_parts3 (fuel := 8) (laidMet_of_run' 8 (by kernel_rfl) (by kernel_rfl)) (by kernel_rfl) (by kernel_rfl)
theorem tab_of_laid {W : World} (h : laidMetH Tryd.prog laidS W) : Tab W := by
  rw [MakeChecks.laidMetH_plain _ _ _ (by kernel_rfl), laidS_tab] at h
  have hI := Lib.tabIs_of_head Tryd.gRounds Tryd.tRounds Tryd.underlying67 Tryd.underlying51 Tryd.cells35 Tryd.cells49 h
  intro n hn
  rw [hI.cell Tryd.gRounds n (by simp [kL_length]; exact hn)]
  simp [List.getD, List.getElem?_eq_getElem (show n < kL.length by rw [kL_length]; exact hn)]


end Go.Proofs.YtmmilgjdngdnfaaDoor
