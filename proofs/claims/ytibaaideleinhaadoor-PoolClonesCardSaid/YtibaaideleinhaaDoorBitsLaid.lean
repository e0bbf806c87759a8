/- The library's table, as a row lists it, gives what the walks of bits ask; the door's own heap meets the row's condition. No statement is proved here. -/
import Derived.Test.YtibaaideleinhaaDoorBitsSet
import Derived.Test.YtibaaideleinhaaDoorRows
import Derived.Lib.LaidTab
import Derived.LaidMore
import Derived.Stop.Joined
set_option linter.unusedVariables false
namespace Go.Proofs.YtibaaideleinhaaDoor
open Go.ChangeShapes Go.WideShapes Go.ChangeAt Go.RowKit

/-- The table, as the row lists it. -/
def laidZ : List (String × DataW Unit) := [("math/bits.deBruijn64tab", Rows.laid_math_bits_deBruijn64tab)]
theorem Tryd.gTable : Tryd.prog.globalNamed "math/bits.deBruijn64tab" = some 0 := by kernel_rfl
theorem Tryd.tTable : (Tryd.prog.globals[0]?).map (·.type) = some 78 := by kernel_rfl
theorem Tryd.cellsU8 : Tryd.prog.cellsOf 5 = 1 := by kernel_rfl
theorem Tryd.cells64U8 : Tryd.prog.cellsOf 78 = 64 := by kernel_rfl
theorem laidZ_tab : laidZ = [("math/bits.deBruijn64tab", Lib.tabData .u8 (Lib.deBruijn64tab.map fun (x : Nat) => (x : Int)))] := rfl
/-- The door's own heap meets the condition. -/
theorem doorZ_met (os : Os) (args : Array Value) : laidMetH Tryd.prog laidZ ((World.doorLaid Tryd.prog 400 os).forCall (fun _ _ => 0) ⟨#[], args, []⟩).memory :=
  laidMetH_of_parts3 (fuel := 8) (laidMet_of_run' 8 (by kernel_rfl) (by kernel_rfl)) (by kernel_rfl) (by kernel_rfl)
theorem tz_of_laid {W : World} (h : laidMetH Tryd.prog laidZ W) : Tz W := by
  rw [MakeChecks.laidMetH_plain _ _ _ (by kernel_rfl), laidZ_tab] at h
  have hI := Lib.tabIs_of_head Tryd.gTable Tryd.tTable Tryd.underlying78 Tryd.underlying5 Tryd.cellsU8 Tryd.cells64U8 h
  have hl : Lib.deBruijn64tab.length = 64 := by decide
  intro n hn
  rw [hI.cell Tryd.gTable n (by simp [hl]; exact hn)]
  simp [List.getD, List.getElem?_eq_getElem (show n < Lib.deBruijn64tab.length by rw [hl]; exact hn)]

end Go.Proofs.YtibaaideleinhaaDoor
