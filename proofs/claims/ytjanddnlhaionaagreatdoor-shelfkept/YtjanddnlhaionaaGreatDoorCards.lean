/-
  DERIVED. GIVEN WITH THE SEED: THE CARDS: each row of YtjanddnlhaionaaGreatDoorRows.lean that lists a variable, with what it lists TIED to the program's text (the seventh form; the later family's looks); each row that meets fmt, with fmt's text TOLD by the authors' own Lean function (tested against real Go, not proved from fmt's source: count such statements apart). THE CARD IS WHAT COUNTS. Prove the row's statement (the work); the ties are given (YtjanddnlhaionaaGreatDoorTie.lean); close each card by the builder's one call (the guide's Derived/Test/ToyasCard.lean, 'card_holds'). Laid BY PROGRAM, IN A SANDBOX (cutbox-door.mjs). By AI agents, Wed Nov 11 2026. No macro, syntax, notation, axiom, sorry.
-/
import Derived.Test.YtjanddnlhaionaaGreatDoorRows
import GoSem.ClaimSeven
namespace Go.Proofs.YtjanddnlhaionaaGreatDoor
namespace Rows

/-- THE TIED CARD OF 'fastilaw07.ObjectPuts'. -/
def objectPutsCard : Claim7 := { stood := { row := objectPutsRow, standIns := [], harness := (true, "a909c6481b4db51c831398665f1bb55332ce0692f340a920a34fae66d93adc54"), looks := true }, kinds := [], alts := [], laidByText := true, laidKinds := [.data, .data], laidTests := true, laidLooks := .later }
def ObjectPutsCardSaid : Prop := Claim7.holds Tryz.pinned (.plain (OpenSpec.ofChange objectPutsSpec)) objectPutsCard

/-- THE TIED CARD OF 'fastilaw07.ObjectTakes'. -/
def objectTakesCard : Claim7 := { stood := { row := objectTakesRow, standIns := [], harness := (true, "a909c6481b4db51c831398665f1bb55332ce0692f340a920a34fae66d93adc54"), looks := true }, kinds := [], alts := [], laidByText := true, laidKinds := [.data, .data], laidTests := true, laidLooks := .later }
def ObjectTakesCardSaid : Prop := Claim7.holds Tryz.pinned (.plain (OpenSpec.ofChange objectTakesSpec)) objectTakesCard

/-- THE TIED CARD OF 'fastilaw08.ShelfPlays'. -/
def shelfPlaysCard : Claim7 := { stood := { row := shelfPlaysRow, standIns := [], harness := (true, "a909c6481b4db51c831398665f1bb55332ce0692f340a920a34fae66d93adc54"), looks := true }, kinds := [], alts := [], laidByText := true, laidKinds := [.data, .data, .data, .pinned], laidTests := true, laidLooks := .later }
def ShelfPlaysCardSaid : Prop := Claim7.holds Tryz.pinned (.plain (OpenSpec.ofChange shelfPlaysSpec)) shelfPlaysCard

/-- THE TIED CARD OF 'fastilaw08.ShelfKept'. -/
def shelfKeptCard : Claim7 := { stood := { row := shelfKeptRow, standIns := [], harness := (true, "a909c6481b4db51c831398665f1bb55332ce0692f340a920a34fae66d93adc54"), looks := true }, kinds := [], alts := [], laidByText := true, laidKinds := [.data, .data, .data, .pinned], laidTests := true, laidLooks := .later }
def ShelfKeptCardSaid : Prop := Claim7.holds Tryz.pinned (.plain (OpenSpec.ofChange shelfKeptSpec)) shelfKeptCard

/-- THE TIED CARD OF 'fastilaw08.ShelfIds'. -/
def shelfIdsCard : Claim7 := { stood := { row := shelfIdsRow, standIns := [], harness := (true, "a909c6481b4db51c831398665f1bb55332ce0692f340a920a34fae66d93adc54"), looks := true }, kinds := [], alts := [], laidByText := true, laidKinds := [.data, .data, .data, .pinned], laidTests := true, laidLooks := .later }
def ShelfIdsCardSaid : Prop := Claim7.holds Tryz.pinned (.plain (OpenSpec.ofChange shelfIdsSpec)) shelfIdsCard

/-- THE TIED CARD OF 'fastilaw08.ShelfNil'. -/
def shelfNilCard : Claim7 := { stood := { row := shelfNilRow, standIns := [], harness := (true, "a909c6481b4db51c831398665f1bb55332ce0692f340a920a34fae66d93adc54"), looks := true }, kinds := [], alts := [], laidByText := true, laidKinds := [.data, .data, .data, .pinned], laidTests := true, laidLooks := .later }
def ShelfNilCardSaid : Prop := Claim7.holds Tryz.pinned (.plain (OpenSpec.ofChange shelfNilSpec)) shelfNilCard

/-- THE SECOND FORM's CARD OF 'fastilaw07.ObjectPuts'. -/
def objectPutsUptoCard : Claim7 := { stood := { row := objectPutsUptoRow, standIns := [], harness := (true, "a909c6481b4db51c831398665f1bb55332ce0692f340a920a34fae66d93adc54"), looks := true }, kinds := [], alts := [], laidByText := true, laidKinds := [.data, .data], laidTests := true, laidLooks := .later }
def ObjectPutsUptoCardSaid : Prop := Claim7.holds Tryz.pinned (.plain (OpenSpec.upto objectPutsSpec)) objectPutsUptoCard

/-- THE SECOND FORM's CARD OF 'fastilaw07.ObjectTakes'. -/
def objectTakesUptoCard : Claim7 := { stood := { row := objectTakesUptoRow, standIns := [], harness := (true, "a909c6481b4db51c831398665f1bb55332ce0692f340a920a34fae66d93adc54"), looks := true }, kinds := [], alts := [], laidByText := true, laidKinds := [.data, .data], laidTests := true, laidLooks := .later }
def ObjectTakesUptoCardSaid : Prop := Claim7.holds Tryz.pinned (.plain (OpenSpec.upto objectTakesSpec)) objectTakesUptoCard

/-- THE SECOND FORM's CARD OF 'fastilaw08.ShelfPlays'. -/
def shelfPlaysUptoCard : Claim7 := { stood := { row := shelfPlaysUptoRow, standIns := [], harness := (true, "a909c6481b4db51c831398665f1bb55332ce0692f340a920a34fae66d93adc54"), looks := true }, kinds := [], alts := [], laidByText := true, laidKinds := [.data, .data, .data, .pinned], laidTests := true, laidLooks := .later }
def ShelfPlaysUptoCardSaid : Prop := Claim7.holds Tryz.pinned (.plain (OpenSpec.upto shelfPlaysSpec)) shelfPlaysUptoCard

/-- THE SECOND FORM's CARD OF 'fastilaw08.ShelfKept'. -/
def shelfKeptUptoCard : Claim7 := { stood := { row := shelfKeptUptoRow, standIns := [], harness := (true, "a909c6481b4db51c831398665f1bb55332ce0692f340a920a34fae66d93adc54"), looks := true }, kinds := [], alts := [], laidByText := true, laidKinds := [.data, .data, .data, .pinned], laidTests := true, laidLooks := .later }
def ShelfKeptUptoCardSaid : Prop := Claim7.holds Tryz.pinned (.plain (OpenSpec.upto shelfKeptSpec)) shelfKeptUptoCard

/-- THE SECOND FORM's CARD OF 'fastilaw08.ShelfIds'. -/
def shelfIdsUptoCard : Claim7 := { stood := { row := shelfIdsUptoRow, standIns := [], harness := (true, "a909c6481b4db51c831398665f1bb55332ce0692f340a920a34fae66d93adc54"), looks := true }, kinds := [], alts := [], laidByText := true, laidKinds := [.data, .data, .data, .pinned], laidTests := true, laidLooks := .later }
def ShelfIdsUptoCardSaid : Prop := Claim7.holds Tryz.pinned (.plain (OpenSpec.upto shelfIdsSpec)) shelfIdsUptoCard

/-- THE SECOND FORM's CARD OF 'fastilaw08.ShelfNil'. -/
def shelfNilUptoCard : Claim7 := { stood := { row := shelfNilUptoRow, standIns := [], harness := (true, "a909c6481b4db51c831398665f1bb55332ce0692f340a920a34fae66d93adc54"), looks := true }, kinds := [], alts := [], laidByText := true, laidKinds := [.data, .data, .data, .pinned], laidTests := true, laidLooks := .later }
def ShelfNilUptoCardSaid : Prop := Claim7.holds Tryz.pinned (.plain (OpenSpec.upto shelfNilSpec)) shelfNilUptoCard
end Rows
end Go.Proofs.YtjanddnlhaionaaGreatDoor
