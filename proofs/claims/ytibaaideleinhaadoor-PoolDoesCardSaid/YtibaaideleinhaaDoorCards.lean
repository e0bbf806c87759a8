/-
  DERIVED. GIVEN WITH THE SEED: THE CARDS: each row of YtibaaideleinhaaDoorRows.lean that lists a variable, with what it lists TIED to the program's text (the seventh form; the later family's looks); each row that meets fmt, with fmt's text TOLD by the authors' own Lean function (tested against real Go, not proved from fmt's source: count such statements apart). THE CARD IS WHAT COUNTS. Prove the row's statement (the work); the ties are given (YtibaaideleinhaaDoorTie.lean); close each card by the builder's one call (the guide's Derived/Test/ToyasCard.lean, 'card_holds'). Laid BY PROGRAM, IN A SANDBOX (cutbox-door.mjs). By AI agents, Wed Nov 11 2026. No macro, syntax, notation, axiom, sorry.
-/
import Derived.Test.YtibaaideleinhaaDoorRows
import GoSem.ClaimSeven
namespace Go.Proofs.YtibaaideleinhaaDoor
namespace Rows

/-- THE TIED CARD OF 'chantrylaw11.PoolDoes'. -/
def poolDoesCard : Claim7 := { stood := { row := poolDoesRow, standIns := [], harness := (true, "51f5f941e1f5603585b1110a713aa0e66513ceea271a0a3a735eda3d6f8c480d"), looks := false }, kinds := [], alts := [], laidByText := true, laidKinds := [.data], laidTests := true, laidLooks := .later }
def PoolDoesCardSaid : Prop := Claim7.holds Tryd.pinned (.plain (OpenSpec.ofChange poolDoesSpec)) poolDoesCard

/-- THE TIED CARD OF 'chantrylaw11.PoolApart'. -/
def poolApartCard : Claim7 := { stood := { row := poolApartRow, standIns := [], harness := (true, "51f5f941e1f5603585b1110a713aa0e66513ceea271a0a3a735eda3d6f8c480d"), looks := false }, kinds := [], alts := [], laidByText := true, laidKinds := [.data], laidTests := true, laidLooks := .later }
def PoolApartCardSaid : Prop := Claim7.holds Tryd.pinned (.plain (OpenSpec.ofChange poolApartSpec)) poolApartCard

/-- THE TIED CARD OF 'chantrylaw11.PoolClones'. -/
def poolClonesCard : Claim7 := { stood := { row := poolClonesRow, standIns := [], harness := (true, "51f5f941e1f5603585b1110a713aa0e66513ceea271a0a3a735eda3d6f8c480d"), looks := false }, kinds := [], alts := [], laidByText := true, laidKinds := [.data], laidTests := true, laidLooks := .later }
def PoolClonesCardSaid : Prop := Claim7.holds Tryd.pinned (.plain (OpenSpec.ofChange poolClonesSpec)) poolClonesCard

/-- THE SECOND FORM's CARD OF 'chantrylaw11.PoolDoes'. -/
def poolDoesUptoCard : Claim7 := { stood := { row := poolDoesUptoRow, standIns := [], harness := (true, "51f5f941e1f5603585b1110a713aa0e66513ceea271a0a3a735eda3d6f8c480d"), looks := false }, kinds := [], alts := [], laidByText := true, laidKinds := [.data], laidTests := true, laidLooks := .later }
def PoolDoesUptoCardSaid : Prop := Claim7.holds Tryd.pinned (.plain (OpenSpec.upto poolDoesSpec)) poolDoesUptoCard

/-- THE SECOND FORM's CARD OF 'chantrylaw11.PoolApart'. -/
def poolApartUptoCard : Claim7 := { stood := { row := poolApartUptoRow, standIns := [], harness := (true, "51f5f941e1f5603585b1110a713aa0e66513ceea271a0a3a735eda3d6f8c480d"), looks := false }, kinds := [], alts := [], laidByText := true, laidKinds := [.data], laidTests := true, laidLooks := .later }
def PoolApartUptoCardSaid : Prop := Claim7.holds Tryd.pinned (.plain (OpenSpec.upto poolApartSpec)) poolApartUptoCard

/-- THE SECOND FORM's CARD OF 'chantrylaw11.PoolClones'. -/
def poolClonesUptoCard : Claim7 := { stood := { row := poolClonesUptoRow, standIns := [], harness := (true, "51f5f941e1f5603585b1110a713aa0e66513ceea271a0a3a735eda3d6f8c480d"), looks := false }, kinds := [], alts := [], laidByText := true, laidKinds := [.data], laidTests := true, laidLooks := .later }
def PoolClonesUptoCardSaid : Prop := Claim7.holds Tryd.pinned (.plain (OpenSpec.upto poolClonesSpec)) poolClonesUptoCard
end Rows
end Go.Proofs.YtibaaideleinhaaDoor
