/-
  Contracts of exists, add, Len, Fresh, Room, Batches. No condition but on lengths.
-/
import Derived.Test.YtjanddnlhaionaaGreatDoorSB
import Derived.Test.YtjanddnlhaionaaGreatDoorOx0
namespace Go.Proofs.YtjanddnlhaionaaGreatDoor
open Go.RowKit

theorem MAt.look85 {w : World} {b c : Nat} {m : MP} (h : MAt Tryz.prog 9 w b m c) (s : ByteArray) (hk : s.size ≤ maxLen) :
    (Instr.lookup 85 (.map (some b)) (.string s) true).run Tryz.prog w = .ok (.tuple #[.string ((m s).getD ⟨#[]⟩), .bool (m s).isSome]) w ∧ (Instr.lookup 85 (.map (some b)) (.string s) false).run Tryz.prog w = .ok (.string ((m s).getD ⟨#[]⟩)) w :=
  MAt.look (by kernel_rfl) (by kernel_rfl) (by kernel_rfl) h s hk
theorem MAt.store85 {w : World} {b c : Nat} {m : MP} (h : MAt Tryz.prog 9 w b m c) (hc : c < maxLen) (s v : ByteArray) (hk : s.size ≤ maxLen) (hv : v.size ≤ maxLen) :
    ∃ w', (Instr.mapUpdate 85 (.map (some b)) (.string s) (.string v)).run Tryz.prog w = .ok () w' ∧ MAt Tryz.prog 9 w' b (upd m s v) (if (m s).isSome then c else c + 1) ∧ w.mapTurned w' b :=
  MAt.store (by kernel_rfl) (by kernel_rfl) h hc s v hk hv
theorem MAt.drop85 {w : World} {b c : Nat} {m : MP} (h : MAt Tryz.prog 9 w b m c) (s : ByteArray) (hk : s.size ≤ maxLen) (t : TypeId) :
    ∃ w', (Builtin.delete_ #[85, 9] t #[.map (some b), .string s]).run Tryz.prog w = .ok (.tuple #[]) w' ∧ MAt Tryz.prog 9 w' b (era m s) (if (m s).isSome then c - 1 else c) ∧ w.mapTurned w' b :=
  MAt.drop (by kernel_rfl) (by kernel_rfl) h s hk t
theorem MAt.len85 {w : World} {b c : Nat} {m : MP} (h : MAt Tryz.prog 9 w b m c) (t : TypeId) : (Builtin.len_ #[85] t #[.map (some b)]).run Tryz.prog w = .ok (.int .i64 (c : Int)) w :=
  MAt.len (by kernel_rfl) h t

section
variable {w0 w : World} {sb mb bt bl b : Nat} {fv : Value} {d : L6.D} {s : Sf}
theorem exists76 (h : SfAt w0 w sb mb fv bt bl b d s) : Calls Tryz.prog 76 #[.pointer (some ⟨sb, 0, none⟩)] w fun e w' => e = .returned (.bool true) ∧ w = w' := by
  have c := h.cells.1
  clear h
  go_enter Tryz.func76, Tryz.ntmps76
  go_wp2
  go_ret
  exact ⟨rfl, rfl⟩
/-- No shelf. -/
def SNot (p : Value) (w : World) : Prop := Calls Tryz.prog 76 #[p] w fun e w' => e = .returned (.bool false) ∧ w = w'
theorem len39 (h : SfAt w0 w sb mb fv bt bl b d s) : Calls Tryz.prog 39 #[.pointer (some ⟨sb, 0, none⟩)] w fun e w' => e = .returned (.int .i64 (s.c : Int)) ∧ w = w' := by
  have HE := Lib.hid (exists76 h)
  obtain ⟨-, c1, -, -⟩ := h.cells
  have hm := fun t => h.map.len85 t
  clear h
  go_enter Tryz.func39, Tryz.ntmps39
  go_wp2_with (go_at_call 76; refine HE.out.mono ?_; rintro e w' ⟨rfl, rfl⟩)
  go_ret
  exact ⟨rfl, rfl⟩
theorem fresh42 (h : SfAt w0 w sb mb fv bt bl b d s) : Calls Tryz.prog 42 #[.pointer (some ⟨sb, 0, none⟩)] w fun e w' => e = .returned (.int .i64 (s.fresh.length : Int)) ∧ w = w' := by
  have HE := Lib.hid (exists76 h)
  obtain ⟨-, -, c2, -⟩ := h.cells
  obtain ⟨A, cap, rfl⟩ := L6.row_slice h.fr
  clear h
  go_enter Tryz.func42, Tryz.ntmps42
  go_wp2_with (go_at_call 76; refine HE.out.mono ?_; rintro e w' ⟨rfl, rfl⟩)
  go_ret
  exact ⟨rfl, rfl⟩
theorem batches44 (h : SfAt w0 w sb mb fv bt bl b d s) : Calls Tryz.prog 44 #[.pointer (some ⟨sb, 0, none⟩)] w fun e w' => e = .returned (.int .i64 (s.t.count : Int)) ∧ w = w' := by
  have HE := Lib.hid (exists76 h)
  have HL := Lib.hid (L6.lenT h.tn)
  obtain ⟨c0, -, -, -⟩ := h.cells
  clear h
  go_enter Tryz.func44, Tryz.ntmps44
  go_wp2_with (first | (go_at_call 76; refine HE.out.mono ?_; rintro e w' ⟨rfl, rfl⟩) | (go_at_call 85; refine HL.out.mono ?_; rintro e w' ⟨rfl, rfl⟩))
  go_ret
  exact ⟨rfl, rfl⟩
end

/-! ### What is no shelf -/
end Go.Proofs.YtjanddnlhaionaaGreatDoor
