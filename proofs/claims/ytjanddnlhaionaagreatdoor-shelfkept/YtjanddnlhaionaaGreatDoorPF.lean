/-
  The contract of the document's Same at two objects that are one as data. No condition.
-/
import Derived.Test.YtjanddnlhaionaaGreatDoorOE
namespace Go.Proofs.YtjanddnlhaionaaGreatDoor
open Go.RowKit
open L4 (C LAt putS)
open L2 (Row Vl RowsAt rowsOK valOK)

/-- Two objects, each in a block of its own. -/
structure Two (w : World) (o : Ob) (r k p r' k' p' : Value) (W : World) : Prop where
  a : Obj1 w o r k p W
  c0 : W.cell? ⟨w.heap.size + 1, 0, none⟩ = some (.int .i64 o.k)
  c1 : W.cell? ⟨w.heap.size + 1, 1, none⟩ = some (.string o.label)
  c2 : W.cell? ⟨w.heap.size + 1, 2, none⟩ = some r'
  c3 : W.cell? ⟨w.heap.size + 1, 3, none⟩ = some k'
  c4 : W.cell? ⟨w.heap.size + 1, 4, none⟩ = some p'
  c5 : W.cell? ⟨w.heap.size + 1, 5, none⟩ = some (.int .i64 o.stamp)
  c6 : W.cell? ⟨w.heap.size + 1, 6, none⟩ = some (.string o.note)
  c7 : W.cell? ⟨w.heap.size + 1, 7, none⟩ = some (.string o.root)
  lt : w.heap.size + 1 < W.heap.size
set_option maxRecDepth 100000 in
theorem Two.start (w : World) (o : Ob) (r k p r' k' p' : Value) : Two w o r k p r' k' p' ((w.alloc (.cells (obVs o r k p) 27)).alloc (.cells (obVs o r' k' p') 27)) :=
  ⟨(Obj1.start w o r k p).step ((Below.refl _ _).alloc (Nat.le_refl _) _), by simp [obVs, go_sem], by simp [obVs, go_sem], by simp [obVs, go_sem], by simp [obVs, go_sem], by simp [obVs, go_sem], by simp [obVs, go_sem], by simp [obVs, go_sem], by simp [obVs, go_sem], by simp⟩
set_option maxRecDepth 100000 in
theorem Two.step {w : World} {o : Ob} {r k p r' k' p' : Value} {W W' : World} (h : Two w o r k p r' k' p' W) (hb : Below W.heap.size W W') : Two w o r k p r' k' p' W' := by
  have hq : ∀ j, W'.cell? ⟨w.heap.size + 1, j, none⟩ = W.cell? ⟨w.heap.size + 1, j, none⟩ := fun j => hb.cell (p := ⟨w.heap.size + 1, j, none⟩) h.lt
  exact ⟨h.a.step hb, (hq _).trans h.c0, (hq _).trans h.c1, (hq _).trans h.c2, (hq _).trans h.c3, (hq _).trans h.c4, (hq _).trans h.c5, (hq _).trans h.c6, (hq _).trans h.c7, Nat.lt_of_lt_of_le h.lt hb.size⟩

/-- A world from which draws were made, and no more. -/
def Drawn (w w' : World) : Prop := ∃ m, w' = w.drewN m
set_option maxRecDepth 100000 in
theorem Drawn.cell {w w' : World} (h : Drawn w w') (a : Addr) : w'.cell? a = w.cell? a := by obtain ⟨m, rfl⟩ := h; rfl
set_option maxRecDepth 100000 in
theorem Drawn.more {w w' : World} (h : Drawn w w') (n : Nat) : Drawn w (w'.drewN n) := by obtain ⟨m, rfl⟩ := h; exact ⟨m + n, World.drewN_drewN _ _ _⟩
set_option maxRecDepth 100000 in
theorem Drawn.below {w0 w w' : World} {B : Nat} (h : Drawn w w') (hb : Below B w0 w) : Below B w0 w' := by obtain ⟨m, rfl⟩ := h; exact L4.below_drewN hb _
set_option maxRecDepth 100000 in
theorem neqKid (f : Int) (id : ByteArray) (w : World) : (binOp .neq 95 (.agg #[.int .u8 f, .string id]) (.agg #[.int .u8 f, .string id])).run Tryz.prog w = .ok (.bool false) w := by simp [go_sem]

set_option maxRecDepth 100000 in
set_option maxHeartbeats 4000000 in
theorem same10 (kd : Int) (label : ByteArray) (rows : List Row) (kids : List Kd) (parents : List ByteArray) (stamp : Int) (note root : ByteArray) (r k p r' k' p' : Value) (w : World) (h : ObAt w r k p ⟨kd, label, rows, kids, parents, stamp, note, root⟩) (h' : ObAt w r' k' p' ⟨kd, label, rows, kids, parents, stamp, note, root⟩) :
    Calls Tryz.prog 22 #[.agg #[.int .i64 kd, .string label, r, k, p, .int .i64 stamp, .string note, .string root], .agg #[.int .i64 kd, .string label, r', k', p', .int .i64 stamp, .string note, .string root]] w fun e w' => e = .returned (.bool true) ∧ Below w.heap.size w w' := by
  have HT := Lib.hid (Two.start w ⟨kd, label, rows, kids, parents, stamp, note, root⟩ r k p r' k' p')
  have hb := HT.out.a.below
  have HS := Lib.hid (L2.same17 rows rows r r' _ (h.step hb).rows (h'.step hb).rows)
  have hd : decide (rows = rows) = true := decide_eq_true rfl
  rw [hd] at HS
  obtain ⟨A1, c1, e1, -, -, -⟩ := h.rows
  obtain ⟨A1', c1', e1', -, -, -⟩ := h'.rows
  obtain ⟨A2, c2, e2, k1, k2, k3⟩ := h.kids
  obtain ⟨A2', c2', e2', k1', k2', k3'⟩ := h'.kids
  obtain ⟨A3, c3, e3, p1, p2, p3⟩ := h.parents
  obtain ⟨A3', c3', e3', p1', p2', p3'⟩ := h'.parents
  simp only at e1 e1' e2 e2' e3 e3' k1 k1' k2 k2' k3 k3' p1 p1' p2 p2' p3 p3'
  subst e1 e1' e2 e2' e3 e3'
  unfold maxLen at k2 k2' p2 p2'
  have HK := Lib.hid k3
  have HK' := Lib.hid k3'
  have HP := Lib.hid p3
  have HP' := Lib.hid p3'
  unfold obVs at HT HS
  simp only at HT HS
  clear k3 k3' p3 p3' h h' hb hd
  go_enter Tryz.func22, Tryz.ntmps22
  go_wp2_with fail
  refine HS.out.mono ?_
  rintro _ w2 ⟨rfl, hb2⟩
  have HT2 := Lib.hid (HT.out.step hb2)
  obtain ⟨⟨a0, a1, a2, a3, a4, a5, a6, a7, -, -⟩, b0, b1, b2, b3, b4, b5, b6, b7, -⟩ := HT2.out
  simp only at a0 a1 a5 a6 a7 b0 b1 b5 b6 b7
  have HB2 := Lib.hid HT2.out.a.below
  clear hb2 HS HT a0 a1 a2 a5 a6 a7 b0 b1 b2 b5 b6 b7
  go_wp2_with fail
  go_loopw [5] (fun s5 wr => ∃ j : Nat, j ≤ kids.length ∧ s5 = .int .i64 j ∧ Drawn w2 wr) (fun s5 _ => kids.length - (intOf s5).toNat)
  case atStart => exact ⟨0, Nat.zero_le _, rfl, 0, rfl⟩
  case round =>
    obtain ⟨j, hj, rfl, hm⟩ := hrel
    have a3' := (hm.cell ⟨w.heap.size, 3, none⟩).trans a3
    have b3' := (hm.cell ⟨w.heap.size + 1, 3, none⟩).trans b3
    by_cases hlt : j < kids.length
    · obtain ⟨b, o, rfl, hb, hr⟩ := HK.out (by omega)
      obtain ⟨b', o', rfl, hb', hr'⟩ := HK'.out (by omega)
      have x0 := (hm.cell ⟨b, o + j * 2, none⟩).trans ((HB2.out.cell (p := ⟨b, o + j * 2, none⟩) hb).trans (hr j hlt).c0)
      have x1 := (hm.cell ⟨b, o + j * 2 + 1, none⟩).trans ((HB2.out.cell (p := ⟨b, o + j * 2 + 1, none⟩) hb).trans (hr j hlt).c1)
      have y0 := (hm.cell ⟨b', o' + j * 2, none⟩).trans ((HB2.out.cell (p := ⟨b', o' + j * 2, none⟩) hb').trans (hr' j hlt).c0)
      have y1 := (hm.cell ⟨b', o' + j * 2 + 1, none⟩).trans ((HB2.out.cell (p := ⟨b', o' + j * 2 + 1, none⟩) hb').trans (hr' j hlt).c1)
      clear hr hr'
      generalize kids[j].f = f at x0 y0
      generalize kids[j].id = id at x1 y1
      have hi0 : (0 : Int) ≤ (j : Int) := by omega
      have hi1 : (j : Int) < (kids.length : Int) := by omega
      have hne := neqKid f id
      go_wp2_with fail
      go_quiet (fail)
      go_wp2
      go_roundw
      case rel => exact ⟨j + 1, by omega, by go_num, hm.more _⟩
      case measure => simp [intOf]; omega
    · clear HK HK'
      have a4' := (hm.cell ⟨w.heap.size, 4, none⟩).trans a4
      go_wp2_with fail
      clear a3 b3 a3' b3' a4'
      go_loopw [6] (fun s6 wr => ∃ j : Nat, j ≤ parents.length ∧ s6 = .int .i64 j ∧ Drawn w2 wr) (fun s6 _ => parents.length - (intOf s6).toNat)
      case atStart => exact ⟨0, Nat.zero_le _, rfl, hm⟩
      case round =>
        obtain ⟨j2, hj2, rfl, hm2⟩ := hrel
        have a4' := (hm2.cell ⟨w.heap.size, 4, none⟩).trans a4
        have b4' := (hm2.cell ⟨w.heap.size + 1, 4, none⟩).trans b4
        by_cases hlt2 : j2 < parents.length
        · obtain ⟨b, o, rfl, hb, hr⟩ := HP.out (by omega)
          obtain ⟨b', o', rfl, hb', hr'⟩ := HP'.out (by omega)
          have x0 := (hm2.cell ⟨b, o + j2, none⟩).trans ((HB2.out.cell (p := ⟨b, o + j2, none⟩) hb).trans (hr j2 hlt2))
          have y0 := (hm2.cell ⟨b', o' + j2, none⟩).trans ((HB2.out.cell (p := ⟨b', o' + j2, none⟩) hb').trans (hr' j2 hlt2))
          clear hr hr'
          generalize parents[j2] = f at x0 y0
          have hi0 : (0 : Int) ≤ (j2 : Int) := by omega
          have hi1 : (j2 : Int) < (parents.length : Int) := by omega
          go_wp2_with fail
          go_quiet (fail)
          go_wp2
          go_roundw
          case rel => exact ⟨j2 + 1, by omega, by go_num, hm2.more _⟩
          case measure => simp [intOf]; omega
        · go_wp2
          go_ret
          exact ⟨rfl, hm2.below HB2.out⟩
end Go.Proofs.YtjanddnlhaionaaGreatDoor
