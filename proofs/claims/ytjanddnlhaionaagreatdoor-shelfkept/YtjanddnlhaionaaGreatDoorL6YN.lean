/-
  Contracts of SameTexts and begins. No condition.
-/
import Derived.Test.YtjanddnlhaionaaGreatDoorL6YM
namespace Go.Proofs.YtjanddnlhaionaaGreatDoor.L6
open Go.RowKit

/-- A row of strings of one's own. -/
def StrsAt (w : World) (v : Value) (l : List ByteArray) : Prop := w.ownsRow 0 9 1 v l.length (strs l)
set_option maxRecDepth 100000 in
theorem StrsAt.below {w w' : World} {v : Value} {l : List ByteArray} (h : StrsAt w v l) (hb : Below w.heap.size w w') : StrsAt w' v l := row_keep h (fun k hk => hb.block k (row_lt h hk))
set_option maxRecDepth 100000 in
theorem StrsAt.drewN {w : World} {v : Value} {l : List ByteArray} (h : StrsAt w v l) (n : Nat) : StrsAt (w.drewN n) v l := row_keep h (fun _ _ => rfl)
set_option maxRecDepth 100000 in
theorem StrsAt.nil (w : World) : StrsAt w (.slice none 0 0) [] := World.ownsRow_nil _ _ _ _
set_option maxRecDepth 100000 in
theorem StrsAt.cell {w : World} {g n c : Nat} {l : List ByteArray} (h : StrsAt w (.slice (some ⟨g, 0, none⟩) n c) l) (i : Nat) (hi : i < l.length) : w.cell? ⟨g, i, none⟩ = some (.string l[i]) := by
  have := World.ownsRow.cells (g := g) h (by
    rcases h.2 with ⟨e, _⟩ | ⟨g', c', cur, e, _⟩
    · cases e
    · cases e; rfl) i (.string l[i]) (by simp [strs, hi])
  have hplain : (⟨g, 0, none⟩ : Addr).add i = ⟨g, i, none⟩ := by unfold Addr.add; split <;> simp_all
  rw [hplain] at this
  exact this
set_option maxRecDepth 100000 in
theorem str_eq (s t : ByteArray) : (s.toList == t.toList) = decide (s = t) := by
  rw [Bool.eq_iff_iff, beq_iff_eq, decide_eq_true_eq]
  constructor
  · intro h
    rw [ByteArray.toList_eq, ByteArray.toList_eq] at h
    cases s; cases t
    simp at h
    rw [h]
  · intro h; rw [h]
def eqTo (a b : List ByteArray) (k : Nat) : Prop := a.take k = b.take k

end Go.Proofs.YtjanddnlhaionaaGreatDoor.L6
