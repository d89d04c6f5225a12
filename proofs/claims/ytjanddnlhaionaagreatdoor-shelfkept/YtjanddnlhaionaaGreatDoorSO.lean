/-
  few, of one act; what of no drum is opened. No condition.
-/
import Derived.Test.YtjanddnlhaionaaGreatDoorSN
namespace Go.Proofs.YtjanddnlhaionaaGreatDoor
open Go.RowKit
open L4 (C LAt LIn LNF Wf Box)
open L2 (Row)

/-- One act, with an object and zeros, in a row of its own. -/
def actCells (kd : Int) (label : ByteArray) (r k p : Value) (st : Int) (note root : ByteArray) : Array Value := #[.int .i64 0, .int .i64 0, .int .i64 kd, .string label, r, k, p, .int .i64 st, .string note, .string root, .int .i64 0, .int .i64 0, .string ⟨#[]⟩, .slice none 0 0, .slice none 0 0]
end Go.Proofs.YtjanddnlhaionaaGreatDoor
