/-
  The contracts of readText, readKid, and of a shape's value. No condition.
-/
import Derived.Test.YtjanddnlhaionaaGreatDoorOT
namespace Go.Proofs.YtjanddnlhaionaaGreatDoor
open Go.RowKit
open L4 (C LAt)
open L2 (Row Vl RowsAt rowsOK valOK)

set_option maxRecDepth 100000 in
set_option maxHeartbeats 1000000 in
theorem readText65 (d : Nat) (ck cn : Int) (cs : ByteArray) (cl : List C) (u : Value) (w : World) (h : LAt w w.heap.size d u cl) :
    Calls Tryz.prog 159 #[.agg #[.int .i64 ck, .int .i64 cn, .string cs, u]] w fun e w' => e = .returned (.tuple #[.string (txtV (shOf (.mk ck cn cs cl))), .bool (isTxt (shOf (.mk ck cn cs cl)))]) ∧ Below w.heap.size w w' := by
  have hB : Below w.heap.size w (w.alloc (.cells #[.int .i64 ck, .int .i64 cn, .string cs, u] 38)) := (Below.refl _ _).alloc (Nat.le_refl _) _
  have HB := Lib.hid hB
  have HS := Lib.hid (shapeOf29 d ck cn cs cl u w.heap.size (w.alloc (.cells #[.int .i64 ck, .int .i64 cn, .string cs, u] 38)) hB.size (h.below hB))
  generalize shOf (.mk ck cn cs cl) = sh at HS ⊢
  obtain ⟨A0, c0, rfl⟩ := h.slice
  obtain ⟨t, ht⟩ : ∃ t, txtV sh = t := ⟨_, rfl⟩
  obtain ⟨q, hq⟩ : ∃ q, isTxt sh = q := ⟨_, rfl⟩
  rw [ht, hq]
  have HT := Lib.hid ht
  have HQ := Lib.hid hq
  clear h hB ht hq
  go_enter Tryz.func159, Tryz.ntmps159
  go_wp2_with fail
  refine HS.out.mono ?_
  rintro _ w2 ⟨v, rfl, hv, hb2⟩
  have HB2 := Lib.hid (HB.out.trans (hb2.mono HB.out.size))
  have ha := as_txt hv
  rw [HT.out, HQ.out] at ha
  clear hb2 hv HS HB HT HQ
  go_wp2
  go_ret2
  exact ⟨rfl, HB2.out⟩

set_option maxRecDepth 100000 in
theorem size41 : (Tryz.prog.info? 91).map (·.size) = some 3 := by kernel_rfl
set_option maxRecDepth 100000 in
theorem size43 : (Tryz.prog.info? 93).map (·.size) = some 5 := by kernel_rfl
set_option maxRecDepth 100000 in
theorem size55 : (Tryz.prog.info? 95).map (·.size) = some 2 := by kernel_rfl

def valC (v : Vl) : Value := .agg #[.int .i64 v.1, .int .i64 v.2.1, .string v.2.2]
def ValTo (w : World) (v : Vl) (e : Ending) (w' : World) : Prop := e = .returned (.agg #[.int .i64 v.1, .int .i64 v.2.1, .string v.2.2]) ∧ Below w.heap.size w w'
set_option maxRecDepth 100000 in
theorem value100 (n : Int) (w : World) : Calls Tryz.prog 256 #[.int .i64 n] w (ValTo w (1, n, ⟨#[]⟩)) := by
  go_enter Tryz.func256, Tryz.ntmps256
  go_wp2_with fail
  refine bodyPost_ret (results_cell_row (p := 2) (ty := 91) rfl _ _ w.heap.size 91 #[.int .i64 1, .int .i64 n, .string ⟨#[]⟩] (0, 0) _ rfl ?hg Tryz.underlying91 rfl size41) rfl ?_
  case hg => exact heap_alloc_new w _
  exact ⟨rfl, (Below.refl _ w).alloc (Nat.le_refl _) _⟩
set_option maxRecDepth 100000 in
theorem value101 (s : ByteArray) (w : World) : Calls Tryz.prog 257 #[.string s] w (ValTo w (2, 0, s)) := by
  go_enter Tryz.func257, Tryz.ntmps257
  go_wp2_with fail
  refine bodyPost_ret (results_cell_row (p := 2) (ty := 91) rfl _ _ w.heap.size 91 #[.int .i64 2, .int .i64 0, .string s] (0, 0) _ rfl ?hg Tryz.underlying91 rfl size41) rfl ?_
  case hg => exact heap_alloc_new w _
  exact ⟨rfl, (Below.refl _ w).alloc (Nat.le_refl _) _⟩
set_option maxRecDepth 100000 in
theorem value99 (A : Option Addr) (n c : Nat) (w : World) : Calls Tryz.prog 255 #[.slice A n c] w (ValTo w (0, 0, ⟨#[]⟩)) := by
  go_enter Tryz.func255, Tryz.ntmps255
  go_wp2_with fail
  refine bodyPost_ret (results_cell_row (p := 2) (ty := 91) rfl _ _ w.heap.size 91 #[.int .i64 0, .int .i64 0, .string ⟨#[]⟩] (0, 0) _ rfl ?hg Tryz.underlying91 rfl size41) rfl ?_
  case hg => exact heap_alloc_new w _
  exact ⟨rfl, (Below.refl _ w).alloc (Nat.le_refl _) _⟩
set_option maxRecDepth 100000 in
theorem meth_n (n : Int) (w : World) : (method 441 183 (.int .i64 n) "fasti/object.value").run Tryz.prog w = .ok (256, .int .i64 n) w := by kernel_rfl
set_option maxRecDepth 100000 in
theorem meth_t (s : ByteArray) (w : World) : (method 441 184 (.string s) "fasti/object.value").run Tryz.prog w = .ok (257, .string s) w := by kernel_rfl
set_option maxRecDepth 100000 in
theorem meth_l (A : Option Addr) (n c : Nat) (w : World) : (method 441 180 (.slice A n c) "fasti/object.value").run Tryz.prog w = .ok (255, .slice A n c) w := by kernel_rfl

set_option maxRecDepth 100000 in
/-- Values of shapes: the three that readRow looks into, the two that readKid does. -/
theorem shs_get {w : World} {B d n : Nat} {v : Value} {L : List Sh} (h : ShsAt w B d v L) (hn : L.length = n) (h0 : 0 < n) : ∃ b o cap, v = .slice (some ⟨b, o, none⟩) n cap ∧ b < B ∧ ∀ i (hi : i < n), ∃ u, w.cell? ⟨b, o + i, none⟩ = some u ∧ ShAt w B d u (L[i]'(by omega)) := by
  obtain ⟨A, cap, rfl, h1, h2, h3⟩ := h
  obtain ⟨b, o, rfl, hb, hr⟩ := h3 (by omega)
  exact ⟨b, o, cap, by rw [hn], hb, fun i hi => hr i (by omega)⟩
set_option maxRecDepth 100000 in
theorem wrap_u8 {n : Int} (h0 : 0 ≤ n) (h1 : n ≤ 255) : IntKind.u8.wrap n = n := IntWalk.u8_in n (by omega)
end Go.Proofs.YtjanddnlhaionaaGreatDoor
