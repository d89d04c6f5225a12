/-
  DERIVED. GIVEN WITH THE SEED: THE CARDS: each row of YtmnknijjjicdbaaDoorRows.lean that lists a variable, with what it lists TIED to the program's text (the seventh form; the later family's looks); each row that meets fmt, with fmt's text TOLD by the authors' own Lean function (tested against real Go, not proved from fmt's source: count such statements apart). THE CARD IS WHAT COUNTS. Prove the row's statement (the work); the ties are given (YtmnknijjjicdbaaDoorTie.lean); close each card by the builder's one call (the guide's Derived/Test/ToyasCard.lean, 'card_holds'). Laid BY PROGRAM, IN A SANDBOX (cutbox-door.mjs). By AI agents, Wed Nov 11 2026. No macro, syntax, notation, axiom, sorry.
-/
import Derived.Test.YtmnknijjjicdbaaDoorRows
import GoSem.ClaimSeven
namespace Go.Proofs.YtmnknijjjicdbaaDoor
namespace Rows

/-- THE TIED CARD OF 'fastilaw07.ObjectBack'. -/
def objectBackCard : Claim7 := { stood := { row := objectBackRow, standIns := [], harness := (true, "e6e4be13313ef0ce35e7c8711118e41e673584ad1a0447b0ae6aa3b8eea10dbd"), looks := true }, kinds := [], alts := [], laidByText := true, laidKinds := [.data, .data], laidTests := true, laidLooks := .later }
def ObjectBackCardSaid : Prop := Claim7.holds Tryd.pinned (.plain (OpenSpec.ofChange objectBackSpec)) objectBackCard

/-- THE TIED CARD OF 'fastilaw07.ObjectRows'. -/
def objectRowsCard : Claim7 := { stood := { row := objectRowsRow, standIns := [], harness := (true, "e6e4be13313ef0ce35e7c8711118e41e673584ad1a0447b0ae6aa3b8eea10dbd"), looks := true }, kinds := [], alts := [], laidByText := true, laidKinds := [.data, .data], laidTests := true, laidLooks := .later }
def ObjectRowsCardSaid : Prop := Claim7.holds Tryd.pinned (.plain (OpenSpec.ofChange objectRowsSpec)) objectRowsCard

/-- THE SECOND FORM's CARD OF 'fastilaw07.ObjectBack'. -/
def objectBackUptoCard : Claim7 := { stood := { row := objectBackUptoRow, standIns := [], harness := (true, "e6e4be13313ef0ce35e7c8711118e41e673584ad1a0447b0ae6aa3b8eea10dbd"), looks := true }, kinds := [], alts := [], laidByText := true, laidKinds := [.data, .data], laidTests := true, laidLooks := .later }
def ObjectBackUptoCardSaid : Prop := Claim7.holds Tryd.pinned (.plain (OpenSpec.upto objectBackSpec)) objectBackUptoCard

/-- THE SECOND FORM's CARD OF 'fastilaw07.ObjectRows'. -/
def objectRowsUptoCard : Claim7 := { stood := { row := objectRowsUptoRow, standIns := [], harness := (true, "e6e4be13313ef0ce35e7c8711118e41e673584ad1a0447b0ae6aa3b8eea10dbd"), looks := true }, kinds := [], alts := [], laidByText := true, laidKinds := [.data, .data], laidTests := true, laidLooks := .later }
def ObjectRowsUptoCardSaid : Prop := Claim7.holds Tryd.pinned (.plain (OpenSpec.upto objectRowsSpec)) objectRowsUptoCard
end Rows
end Go.Proofs.YtmnknijjjicdbaaDoor
