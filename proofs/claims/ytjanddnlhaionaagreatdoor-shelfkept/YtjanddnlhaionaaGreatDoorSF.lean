/-
  Contracts of exists, add, Len, Fresh, Room, Batches. No condition but on lengths.
-/
import Derived.Test.YtjanddnlhaionaaGreatDoorSB
import Derived.Test.YtjanddnlhaionaaGreatDoorOA
namespace Go.Proofs.YtjanddnlhaionaaGreatDoor
open Go.RowKit

theorem MAt.look85 {w : World} {b c : Nat} {m : MP} (h : MAt Tryz.prog 9 w b m c) (s : ByteArray) (hk : s.size ≤ maxLen) :
    (Instr.lookup 85 (.map (some b)) (.string s) true).run Tryz.prog w = .ok (.tuple #[.string ((m s).getD ⟨#[]⟩), .bool (m s).isSome]) w ∧ (Instr.lookup 85 (.map (some b)) (.string s) false).run Tryz.prog w = .ok (.string ((m s).getD ⟨#[]⟩)) w :=
  MAt.look (by kernel_rfl) (by kernel_rfl) (by kernel_rfl) h s hk
theorem MAt.store85 {w : World} {b c : Nat} {m : MP} (h : MAt Tryz.prog 9 w b m c) (hc : c < maxLen) (s v : ByteArray) (hk : s.size ≤ maxLen) (hv : v.size ≤ maxLen) :
    ∃ w', (Instr.mapUpdate 85 (.map (some b)) (.string s) (.string v)).run Tryz.prog w = .ok () w' ∧ MAt Tryz.prog 9 w' b (upd m s v) (if (m s).isSome then c else c + 1) ∧ w.mapTurned w' b :=
  MAt.store (by kernel_rfl) (by kernel_rfl) h hc s v hk hv
theorem MAt.drop85 {w : World} {b c : Nat} {m : MP} (h : MAt Tryz.prog 9 w b m c) (s : ByteArray) (hk : s.size ≤ maxLen) (t : TypeId) :
    ∃ w', (Builtin.delete_ #[85, 9] t #[.map (some b), .string s]).run Tryz.prog w = .ok (.tuple #[]) w' ∧ MAt Tryz.prog 9 w' b (era m s) (if (m s).isSome then c - 1 else c) ∧ w.mapTurned w' b :=
  MAt.drop (by kernel_rfl) (by kernel_rfl) h s hk t
theorem MAt.len85 {w : World} {b c : Nat} {m : MP} (h : MAt Tryz.prog 9 w b m c) (t : TypeId) : (Builtin.len_ #[85] t #[.map (some b)]).run Tryz.prog w = .ok (.int .i64 (c : Int)) w :=
  MAt.len (by kernel_rfl) h t

section
variable {w0 w : World} {sb mb bt bl b : Nat} {fv : Value} {d : L6.D} {s : Sf}
theorem exists76 (h : SfAt w0 w sb mb fv bt bl b d s) : Calls Tryz.prog 76 #[.pointer (some ⟨sb, 0, none⟩)] w fun e w' => e = .returned (.bool true) ∧ w = w' := by
  have c := h.cells.1
  clear h
  go_enter Tryz.func76, Tryz.ntmps76
  go_wp2
  go_ret
  exact ⟨rfl, rfl⟩
/-- No shelf. -/
def SNot (p : Value) (w : World) : Prop := Calls Tryz.prog 76 #[p] w fun e w' => e = .returned (.bool false) ∧ w = w'
theorem sNot_nil (w : World) : SNot (.pointer none) w := by
  unfold SNot
  go_enter Tryz.func76, Tryz.ntmps76
  go_wp2
  go_ret
  exact ⟨rfl, rfl⟩
theorem sNot_zero (w : World) (b : Nat) (h : w.cell? ⟨b, 0, none⟩ = some (.pointer none)) : SNot (.pointer (some ⟨b, 0, none⟩)) w := by
  unfold SNot
  go_enter Tryz.func76, Tryz.ntmps76
  go_wp2
  go_ret
  exact ⟨rfl, rfl⟩
theorem len39 (h : SfAt w0 w sb mb fv bt bl b d s) : Calls Tryz.prog 39 #[.pointer (some ⟨sb, 0, none⟩)] w fun e w' => e = .returned (.int .i64 (s.c : Int)) ∧ w = w' := by
  have HE := Lib.hid (exists76 h)
  obtain ⟨-, c1, -, -⟩ := h.cells
  have hm := fun t => h.map.len85 t
  clear h
  go_enter Tryz.func39, Tryz.ntmps39
  go_wp2_with (go_at_call 76; refine HE.out.mono ?_; rintro e w' ⟨rfl, rfl⟩)
  go_ret
  exact ⟨rfl, rfl⟩
theorem fresh42 (h : SfAt w0 w sb mb fv bt bl b d s) : Calls Tryz.prog 42 #[.pointer (some ⟨sb, 0, none⟩)] w fun e w' => e = .returned (.int .i64 (s.fresh.length : Int)) ∧ w = w' := by
  have HE := Lib.hid (exists76 h)
  obtain ⟨-, -, c2, -⟩ := h.cells
  obtain ⟨A, cap, rfl⟩ := L6.row_slice h.fr
  clear h
  go_enter Tryz.func42, Tryz.ntmps42
  go_wp2_with (go_at_call 76; refine HE.out.mono ?_; rintro e w' ⟨rfl, rfl⟩)
  go_ret
  exact ⟨rfl, rfl⟩
theorem batches44 (h : SfAt w0 w sb mb fv bt bl b d s) : Calls Tryz.prog 44 #[.pointer (some ⟨sb, 0, none⟩)] w fun e w' => e = .returned (.int .i64 (s.t.count : Int)) ∧ w = w' := by
  have HE := Lib.hid (exists76 h)
  have HL := Lib.hid (L6.lenT h.tn)
  obtain ⟨c0, -, -, -⟩ := h.cells
  clear h
  go_enter Tryz.func44, Tryz.ntmps44
  go_wp2_with (first | (go_at_call 76; refine HE.out.mono ?_; rintro e w' ⟨rfl, rfl⟩) | (go_at_call 85; refine HL.out.mono ?_; rintro e w' ⟨rfl, rfl⟩))
  go_ret
  exact ⟨rfl, rfl⟩
theorem room43 (h : SfAt w0 w sb mb fv bt bl b d s) : Calls Tryz.prog 43 #[.pointer (some ⟨sb, 0, none⟩)] w fun e w' => e = .returned (.int .i64 ((d.S.length - s.t.pos : Nat) : Int)) ∧ Below w.heap.size w w' := by
  have HE := Lib.hid (exists76 h)
  have HL := Lib.hid (L6.roomT h.tn)
  obtain ⟨c0, -, -, -⟩ := h.cells
  clear h
  generalize d.S.length - s.t.pos = n at *
  go_enter Tryz.func43, Tryz.ntmps43
  go_wp2_with (first | (go_at_call 76; refine HE.out.mono ?_; rintro e w' ⟨rfl, rfl⟩) | (go_at_call 84; refine HL.out.mono ?_; rintro e w' ⟨rfl, hb⟩; have HB := Lib.hid hb; clear hb))
  go_ret
  exact ⟨rfl, HB.out⟩
end

/-! ### What is no shelf -/
theorem len39_no {p : Value} {w : World} (h : SNot p w) : Calls Tryz.prog 39 #[p] w fun e w' => e = .returned (.int .i64 0) ∧ w = w' := by
  have HE := Lib.hid h
  clear h
  go_enter Tryz.func39, Tryz.ntmps39
  go_wp2_with (go_at_call 76; refine HE.out.mono ?_; rintro e w' ⟨rfl, rfl⟩)
  go_ret
  exact ⟨rfl, rfl⟩
theorem fresh42_no {p : Value} {w : World} (h : SNot p w) : Calls Tryz.prog 42 #[p] w fun e w' => e = .returned (.int .i64 0) ∧ w = w' := by
  have HE := Lib.hid h
  clear h
  go_enter Tryz.func42, Tryz.ntmps42
  go_wp2_with (go_at_call 76; refine HE.out.mono ?_; rintro e w' ⟨rfl, rfl⟩)
  go_ret
  exact ⟨rfl, rfl⟩
theorem room43_no {p : Value} {w : World} (h : SNot p w) : Calls Tryz.prog 43 #[p] w fun e w' => e = .returned (.int .i64 0) ∧ w = w' := by
  have HE := Lib.hid h
  clear h
  go_enter Tryz.func43, Tryz.ntmps43
  go_wp2_with (go_at_call 76; refine HE.out.mono ?_; rintro e w' ⟨rfl, rfl⟩)
  go_ret
  exact ⟨rfl, rfl⟩
theorem batches44_no {p : Value} {w : World} (h : SNot p w) : Calls Tryz.prog 44 #[p] w fun e w' => e = .returned (.int .i64 0) ∧ w = w' := by
  have HE := Lib.hid h
  clear h
  go_enter Tryz.func44, Tryz.ntmps44
  go_wp2_with (go_at_call 76; refine HE.out.mono ?_; rintro e w' ⟨rfl, rfl⟩)
  go_ret
  exact ⟨rfl, rfl⟩
theorem drop35_no {p : Value} {w : World} (h : SNot p w) : Calls Tryz.prog 35 #[p] w fun e w' => e = .returned (.int .i64 0) ∧ w = w' := by
  have HE := Lib.hid h
  clear h
  go_enter Tryz.func35, Tryz.ntmps35
  go_wp2_with (go_at_call 76; refine HE.out.mono ?_; rintro e w' ⟨rfl, rfl⟩)
  go_ret
  exact ⟨rfl, rfl⟩
theorem commit34_no {p : Value} {w : World} (h : ∀ w', Below w.heap.size w w' → SNot p w') (ck cn : Int) (cs : ByteArray) (u : Value) : Calls Tryz.prog 34 #[p, .agg #[.int .i64 ck, .int .i64 cn, .string cs, u]] w fun e w' => e = .returned (.int .i64 1) ∧ Below w.heap.size w w' := by
  have hb : Below w.heap.size w (w.alloc (.cells #[.int .i64 ck, .int .i64 cn, .string cs, u] 38)) := (Below.refl _ _).alloc (Nat.le_refl _) _
  have HE := Lib.hid (h _ hb)
  have HB := Lib.hid hb
  clear h hb
  go_enter Tryz.func34, Tryz.ntmps34
  go_wp2_with (go_at_call 76; refine HE.out.mono ?_; rintro e w' ⟨rfl, rfl⟩)
  go_ret
  exact ⟨rfl, HB.out⟩
theorem put38_no {p : Value} {w : World} (h : ∀ w', Below w.heap.size w w' → SNot p w') (kd : Int) (label : ByteArray) (st : Int) (note root : ByteArray) (r k q : Value) : Calls Tryz.prog 38 #[p, .agg #[.int .i64 kd, .string label, r, k, q, .int .i64 st, .string note, .string root]] w fun e w' => e = .returned (.tuple #[.string ⟨#[]⟩, .int .i64 1]) ∧ Below w.heap.size w w' := by
  have hb : Below w.heap.size w (w.alloc (.cells #[.int .i64 kd, .string label, r, k, q, .int .i64 st, .string note, .string root] 27)) := (Below.refl _ _).alloc (Nat.le_refl _) _
  have HE := Lib.hid (h _ hb)
  have HB := Lib.hid hb
  clear h hb
  go_enter Tryz.func38, Tryz.ntmps38
  go_wp2_with (go_at_call 76; refine HE.out.mono ?_; rintro e w' ⟨rfl, rfl⟩)
  go_ret2
  exact ⟨rfl, HB.out⟩
end Go.Proofs.YtjanddnlhaionaaGreatDoor
