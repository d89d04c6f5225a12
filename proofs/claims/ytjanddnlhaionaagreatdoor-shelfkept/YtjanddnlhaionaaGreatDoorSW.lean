/-
  A row of objects, read. No condition.
-/
import Derived.Test.YtjanddnlhaionaaGreatDoorPx1
import Derived.Test.YtjanddnlhaionaaGreatDoorL2x2
import Derived.Test.YtjanddnlhaionaaGreatDoorSU
namespace Go.Proofs.YtjanddnlhaionaaGreatDoor
open Go.RowKit Go.ChangeShapes Go.WideShapes Go.Deep
open L2 (Row)

section
variable {H : Type} {enc : TypeId × Value → H} {w : World} {held : Bool}
theorem obj_cells {cs : List Value} {fuel : Nat} {x : DataW H × List MemPlace} (h : DataW.trod enc Tryz.prog w 0 (fun _ => true) held fuel 27 cs = some x) :
    ∃ (o : Ob) (r k p : Value), cs = [.int .i64 o.k, .string o.label, r, k, p, .int .i64 o.stamp, .string o.note, .string o.root] ∧ ObAt w r k p o := by
  obtain ⟨d, pl⟩ := x
  obtain ⟨kd, label, rows, kids, parents, stamp, note, root, r, k, q, e, ho⟩ := open_obj (v := .agg cs.toArray) ⟨_, rfl⟩ (⟨fuel, h⟩ : DataW.Trod enc Tryz.prog w 0 (fun _ => true) held 27 (.agg cs.toArray) d pl)
  refine ⟨⟨kd, label, rows, kids, parents, stamp, note, root⟩, r, k, q, ?_, ho⟩
  injection e with e
  have := congrArg Array.toList e
  simpa using this
end
end Go.Proofs.YtjanddnlhaionaaGreatDoor
