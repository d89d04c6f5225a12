/-
  The contract of ObjectBack. No condition but the package's tables.
-/
import Derived.Test.YtmnknijjjicdbaaDoorPG
namespace Go.Proofs.YtmnknijjjicdbaaDoor
open Go.RowKit
open L4 (C LAt putS takeM encC okC)
open L2 (Row Vl RowsAt rowsOK valOK)
open L3 (St Tabs digestM)

theorem obj_cells {w3 : World} {B : Nat} {x0 x1 x2 x3 x4 x5 x6 x7 : Value} (h : w3.heap[B]? = some (.cells #[x0, x1, x2, x3, x4, x5, x6, x7] 27 (0, 0))) :
    w3.cell? ⟨B, 0, none⟩ = some x0 ∧ w3.cell? ⟨B, 1, none⟩ = some x1 ∧ w3.cell? ⟨B, 2, none⟩ = some x2 ∧ w3.cell? ⟨B, 3, none⟩ = some x3 ∧ w3.cell? ⟨B, 4, none⟩ = some x4 ∧ w3.cell? ⟨B, 5, none⟩ = some x5 ∧ w3.cell? ⟨B, 6, none⟩ = some x6 ∧ w3.cell? ⟨B, 7, none⟩ = some x7 :=
  ⟨cell_of_row w3 B 0 _ 27 (0, 0) h, cell_of_row w3 B 1 _ 27 (0, 0) h, cell_of_row w3 B 2 _ 27 (0, 0) h, cell_of_row w3 B 3 _ 27 (0, 0) h, cell_of_row w3 B 4 _ 27 (0, 0) h, cell_of_row w3 B 5 _ 27 (0, 0) h, cell_of_row w3 B 6 _ 27 (0, 0) h, cell_of_row w3 B 7 _ 27 (0, 0) h⟩

set_option maxRecDepth 100000 in
set_option maxHeartbeats 20000000 in
theorem back3 (K : List Int) (I : St) (kd : Int) (label : ByteArray) (rows : List Row) (kids : List Kd) (parents : List ByteArray) (stamp : Int) (note root : ByteArray) (r k p : Value) (s : ByteArray) (w : World) (h : ObAt w r k p ⟨kd, label, rows, kids, parents, stamp, note, root⟩) (hT : Tabs K I w) :
    Calls Tryd.prog 3 #[.agg #[.int .i64 kd, .string label, r, k, p, .int .i64 stamp, .string note, .string root], .string s] w fun e w' => e = .returned (.bool true) ∧ Below w.heap.size w w' := by
  have h2 := hT.two
  have hB : Below w.heap.size w (w.alloc (.cells #[.int .i64 kd, .string label, r, k, p, .int .i64 stamp, .string note, .string root] 27)) := (Below.refl _ _).alloc (Nat.le_refl _) _
  have HB := Lib.hid hB
  have HROW := Lib.hid (heap_alloc_new w (.cells #[.int .i64 kd, .string label, r, k, p, .int .i64 stamp, .string note, .string root] 27))
  have HSML := Lib.hid (small5 kd label rows kids parents stamp note root r k p (w.alloc (.cells #[.int .i64 kd, .string label, r, k, p, .int .i64 stamp, .string note, .string root] 27)) (h.step hB))
  have HLV := Lib.hid (fun w2 (hb : Below w.heap.size w w2) => lives6 K I w2 (hT.below hb h2))
  have HPUT := Lib.hid (fun w2 (hb : Below w.heap.size w w2) => put7 kd label rows kids parents stamp note root r k p w2 (h.step hb))
  have HIDC := Lib.hid (fun w2 (hb : Below w.heap.size w w2) => id9 K I kd label rows kids parents stamp note root r k p w2 (h.step hb) (hT.below hb h2))
  have HSAME := Lib.hid (fun w2 (hb : Below w.heap.size w w2) r' k' p' h' => same10 kd label rows kids parents stamp note root r k p r' k' p' w2 (h.step hb) h')
  have HSUM := Lib.hid (fun w2 (hb : Below w.heap.size w w2) S (hs : S.size ≤ 900000) => L3.sum9 K I S w2 (hT.below hb h2) hs)
  have HTK := Lib.hid (fun hok => obj_take (o := ⟨kd, label, rows, kids, parents, stamp, note, root⟩) hok h.num h.kids.bounds)
  have HSZ := Lib.hid (objS_size (o := ⟨kd, label, rows, kids, parents, stamp, note, root⟩) h.num h.kids.bounds)
  obtain ⟨o, ho⟩ : ∃ o, (⟨kd, label, rows, kids, parents, stamp, note, root⟩ : Ob) = o := ⟨_, rfl⟩
  have HOO := Lib.hid ho
  rw [ho] at HPUT HIDC HSAME HTK HSZ
  unfold objI objE at HIDC
  unfold objE at HPUT
  obtain ⟨A1, c1, e1, -, -, -⟩ := h.rows
  obtain ⟨A2, c2, e2, -, -, -⟩ := h.kids
  obtain ⟨A3, c3, e3, -, -, -⟩ := h.parents
  simp only at e1 e2 e3
  subst e1 e2 e3
  clear h hT h2 hB ho
  go_enter Tryd.func3, Tryd.ntmps3
  go_wp2_with fail
  refine HSML.out.mono ?_
  rintro _ w2 ⟨q, rfl, hb2⟩
  have HB2 := Lib.hid (HB.out.trans (hb2.mono HB.out.size))
  have HR2 := Lib.hid ((hb2.block w.heap.size (by simp)).trans HROW.out)
  have HL2 : Hid (w.heap.size < w2.heap.size) := by have := hb2.size; simp at this; unfold Hid; omega
  clear hb2 HSML HB HROW
  cases q with
  | false =>
    have HV := Lib.hid (HLV.out w2 HB2.out)
    go_wp2_with (go_at_call 6; refine HV.out.mono ?_; rintro _ w3 ⟨rfl, hb3⟩)
    go_ret
    exact ⟨rfl, HB2.out.trans (hb3.mono HB2.out.size)⟩
  | true =>
  cases h8 : decide ((8000 : Int) < (s.size : Int)) with
  | true =>
    have HV := Lib.hid (HLV.out w2 HB2.out)
    go_wp2_with (go_at_call 6; refine HV.out.mono ?_; rintro _ w3 ⟨rfl, hb3⟩)
    go_ret
    exact ⟨rfl, HB2.out.trans (hb3.mono HB2.out.size)⟩
  | false =>
    have hs8 : s.size ≤ 8000 := by simp at h8; omega
    have HTS := Lib.hid (fun w2 => take8 s w2 (by omega))
    obtain ⟨⟨⟨pk, pl, pr, pkk, pp, pst, pn, prt⟩, ez⟩, hpz⟩ : ∃ x, takeOM s = x := ⟨_, rfl⟩
    have HPZ := Lib.hid hpz
    rw [hpz] at HTS
    clear hpz hs8
    obtain ⟨y0, y1, y2, y3, y4, y5, y6, y7⟩ := obj_cells HR2.out
    have HP2 := Lib.hid (HPUT.out w2 HB2.out)
    have key : ∃ ok, objOK o = ok := ⟨_, rfl⟩
    obtain ⟨ok, hok⟩ := key
    rw [hok] at HP2 HIDC
    cases ok with
    | false =>
      have HP2' : Hid (Calls Tryd.prog 7 #[.agg #[.int .i64 kd, .string label, .slice A1 rows.length c1, .slice A2 kids.length c2, .slice A3 parents.length c3, .int .i64 stamp, .string note, .string root]] w2 fun e w' => e = .returned (.tuple #[.string (objS o), .int .i64 2]) ∧ Below w2.heap.size w2 w') := HP2.out
      clear HP2 hok HPUT HTK HIDC HSAME HSUM HSZ
      go_wp2_with fail
      refine HP2'.out.mono ?_
      rintro _ wz ⟨rfl, hbz⟩
      have HBZ := Lib.hid (HB2.out.trans (hbz.mono HB2.out.size))
      clear hbz HP2' HB2 HR2 HL2 y0 y1 y2 y3 y4 y5 y6 y7
      go_wp2_with fail
      refine (HTS.out _).mono ?_
      rintro _ w5 ⟨hb5, B1, m1, d1, B2, m2, d2, B3, m3, d3, rfl, hat⟩
      have hb6 : Below w5.heap.size w5 (w5.alloc (.cells #[.int .i64 pk, .string pl, .slice B1 m1 d1, .slice B2 m2 d2, .slice B3 m3 d3, .int .i64 pst, .string pn, .string prt] 27)) := (Below.refl _ _).alloc (Nat.le_refl _) _
      have HB5 := Lib.hid (HBZ.out.trans (hb5.mono HBZ.out.size))
      have HB6 := Lib.hid (HB5.out.trans (hb6.mono HB5.out.size))
      have HAT6 := Lib.hid (hat.step hb6)
      have HROW6 := Lib.hid (heap_alloc_new w5 (.cells #[.int .i64 pk, .string pl, .slice B1 m1 d1, .slice B2 m2 d2, .slice B3 m3 d3, .int .i64 pst, .string pn, .string prt] 27))
      clear hat hb5 hb6 HTS
      simp only at HAT6
      cases hez : (ez != 0) with
      | true =>
        have hz := take_zero HPZ.out (by intro h; rw [h] at hez; cases hez)
        unfold zeroO at hz
        injection hz with z0 z1 z2 z3 z4 z5 z6 z7
        subst z0 z1 z2 z3 z4 z5 z6 z7
        have HSM := Lib.hid (same10 0 ⟨#[]⟩ [] [] [] 0 ⟨#[]⟩ ⟨#[]⟩ _ _ _ _ _ _ _ HAT6.out (zero_at _))
        clear HPZ HAT6
        go_wp2_with fail
        refine HSM.out.mono ?_
        rintro _ w7 ⟨rfl, hb7⟩
        have HB7 := Lib.hid (HB6.out.trans (hb7.mono HB6.out.size))
        have HV := Lib.hid (HLV.out w7 HB7.out)
        clear hb7 HSM HLV
        go_wp2_with (go_at_call 6; refine HV.out.mono ?_; rintro _ w8 ⟨rfl, hb8⟩)
        go_ret
        exact ⟨rfl, HB7.out.trans (hb8.mono HB7.out.size)⟩
      | false =>
        have hez0 : ez = 0 := by simpa using hez
        subst hez0
        obtain ⟨hokz, hSz⟩ := take_back HPZ.out
        have hput := put7 pk pl pr pkk pp pst pn prt _ _ _ _ HAT6.out
        unfold objE at hput
        rw [hokz, hSz] at hput
        have HPZ7 : Hid (Calls Tryd.prog 7 #[.agg #[.int .i64 pk, .string pl, .slice B1 m1 d1, .slice B2 m2 d2, .slice B3 m3 d3, .int .i64 pst, .string pn, .string prt]] (w5.alloc (.cells #[.int .i64 pk, .string pl, .slice B1 m1 d1, .slice B2 m2 d2, .slice B3 m3 d3, .int .i64 pst, .string pn, .string prt] 27)) fun e w' => e = .returned (.tuple #[.string s, .int .i64 0]) ∧ Below (w5.alloc (.cells #[.int .i64 pk, .string pl, .slice B1 m1 d1, .slice B2 m2 d2, .slice B3 m3 d3, .int .i64 pst, .string pn, .string prt] 27)).heap.size (w5.alloc (.cells #[.int .i64 pk, .string pl, .slice B1 m1 d1, .slice B2 m2 d2, .slice B3 m3 d3, .int .i64 pst, .string pn, .string prt] 27)) w') := hput
        have HOKZ := Lib.hid hokz
        clear hput hokz hSz HPZ
        go_wp2_with fail
        refine HPZ7.out.mono ?_
        rintro _ w7 ⟨rfl, hb7⟩
        have HB7 := Lib.hid (HB6.out.trans (hb7.mono HB6.out.size))
        obtain ⟨x0, x1, x2, x3, x4, x5, x6, x7⟩ := obj_cells ((hb7.block w5.heap.size (by simp)).trans HROW6.out)
        have hck := check12 pk pl pr pkk pp pst pn prt _ _ _ w7 (HAT6.out.step hb7)
        rw [HOKZ.out] at hck
        have HCK : Hid (Calls Tryd.prog 12 #[.agg #[.int .i64 pk, .string pl, .slice B1 m1 d1, .slice B2 m2 d2, .slice B3 m3 d3, .int .i64 pst, .string pn, .string prt]] w7 fun e w' => e = .returned (.int .i64 0) ∧ Below w7.heap.size w7 w') := hck
        clear hb7 HPZ7 hck HAT6 HROW6 HOKZ
        go_wp2_with fail
        refine HCK.out.mono ?_
        rintro _ w8 ⟨rfl, hb8⟩
        have HB8 := Lib.hid (HB7.out.trans (hb8.mono HB7.out.size))
        have HV := Lib.hid (HLV.out w8 HB8.out)
        clear hb8 HCK HLV x0 x1 x2 x3 x4 x5 x6 x7
        go_wp2_with (go_at_call 6; refine HV.out.mono ?_; rintro _ w9 ⟨rfl, hb9⟩)
        go_ret
        exact ⟨rfl, HB8.out.trans (hb9.mono HB8.out.size)⟩
    | true =>
      have HP2' : Hid (Calls Tryd.prog 7 #[.agg #[.int .i64 kd, .string label, .slice A1 rows.length c1, .slice A2 kids.length c2, .slice A3 parents.length c3, .int .i64 stamp, .string note, .string root]] w2 fun e w' => e = .returned (.tuple #[.string (objS o), .int .i64 0]) ∧ Below w2.heap.size w2 w') := HP2.out
      have HTK2 : Hid (∀ w3, Calls Tryd.prog 8 #[.string (objS o)] w3 (TakeOTo w3 (o, 0))) := fun w3 => by
        have := take8 (objS o) w3 (by have := HSZ.out; omega)
        rw [HTK.out hok] at this
        exact this
      have HIDC2 : Hid (∀ w3, Below w.heap.size w w3 → Calls Tryd.prog 9 #[.agg #[.int .i64 kd, .string label, .slice A1 rows.length c1, .slice A2 kids.length c2, .slice A3 parents.length c3, .int .i64 stamp, .string note, .string root]] w3 fun e w' => e = .returned (.tuple #[.string (idOf K I (objS o)), .int .i64 0]) ∧ Below w3.heap.size w3 w') := HIDC.out
      have HSUM2 : Hid (∀ w3, Below w.heap.size w w3 → Calls Tryd.prog 11 #[.string (objS o)] w3 fun e w' => e = .returned (.string (idOf K I (objS o))) ∧ Below w3.heap.size w3 w') := fun w3 hb => HSUM.out w3 hb _ HSZ.out
      clear HP2 hok HPUT HTK HIDC HSUM HSZ
      generalize objS o = S at HP2' HTK2 HIDC2 HSUM2
      generalize idOf K I S = J at HIDC2 HSUM2
      have ho2 := HOO.out
      subst ho2
      go_wp2_with fail
      refine HP2'.out.mono ?_
      rintro _ w3 ⟨rfl, hb3⟩
      have HB3 := Lib.hid (HB2.out.trans (hb3.mono HB2.out.size))
      have HR3 := Lib.hid ((hb3.block _ HL2.out).trans HR2.out)
      have HL3 : Hid (w.heap.size < w3.heap.size) := Nat.lt_of_lt_of_le HL2.out hb3.size
      clear hb3 HP2' HB2 HR2 HL2 y0 y1 y2 y3 y4 y5 y6 y7
      go_wp2_with fail
      refine (HTK2.out _).mono ?_
      rintro _ w4 ⟨hb4, E1, l1, f1, E2, l2, f2, E3, l3, f3, rfl, hat4⟩
      simp only at hat4 ⊢
      have hb4' : Below w4.heap.size w4 (w4.alloc (.cells #[.int .i64 kd, .string label, .slice E1 l1 f1, .slice E2 l2 f2, .slice E3 l3 f3, .int .i64 stamp, .string note, .string root] 27)) := (Below.refl _ _).alloc (Nat.le_refl _) _
      have HB4 := Lib.hid (HB3.out.trans (hb4.mono HB3.out.size))
      have HB4' := Lib.hid (HB4.out.trans (hb4'.mono HB4.out.size))
      have HR4 := Lib.hid ((hb4'.block _ (Nat.lt_of_lt_of_le HL3.out hb4.size)).trans ((hb4.block _ HL3.out).trans HR3.out))
      have HL4 : Hid (w.heap.size < (w4.alloc (.cells #[.int .i64 kd, .string label, .slice E1 l1 f1, .slice E2 l2 f2, .slice E3 l3 f3, .int .i64 stamp, .string note, .string root] 27)).heap.size) := Nat.lt_of_lt_of_le HL3.out (Nat.le_trans hb4.size hb4'.size)
      have HAT4 := Lib.hid (hat4.step hb4')
      have HN4 := Lib.hid (heap_alloc_new w4 (.cells #[.int .i64 kd, .string label, .slice E1 l1 f1, .slice E2 l2 f2, .slice E3 l3 f3, .int .i64 stamp, .string note, .string root] 27))
      obtain ⟨y0, y1, y2, y3, y4, y5, y6, y7⟩ := obj_cells HR4.out
      have HI4 := Lib.hid (HIDC2.out _ HB4'.out)
      clear hb4 hb4' hat4 HTK2 HB3 HR3 HL3 HIDC2
      go_wp2_with fail
      refine HI4.out.mono ?_
      rintro _ wy ⟨rfl, hby⟩
      have HBY := Lib.hid (HB4'.out.trans (hby.mono HB4'.out.size))
      have HRY := Lib.hid ((hby.block _ HL4.out).trans HR4.out)
      have HNY := Lib.hid ((hby.block w4.heap.size (by simp)).trans HN4.out)
      have HSM4 := Lib.hid (HSAME.out wy HBY.out _ _ _ (HAT4.out.step hby))
      clear y0 y1 y2 y3 y4 y5 y6 y7
      obtain ⟨y0, y1, y2, y3, y4, y5, y6, y7⟩ := obj_cells HRY.out
      obtain ⟨u0, u1, u2, u3, u4, u5, u6, u7⟩ := obj_cells HNY.out
      clear hby HI4 HAT4 HB4 HB4' HR4 HL4 HN4 HSAME
      go_wp2_with fail
      refine HSM4.out.mono ?_
      rintro _ wx ⟨rfl, hbx⟩
      have HBX := Lib.hid (HBY.out.trans (hbx.mono HBY.out.size))
      have HS4 := Lib.hid (HSUM2.out wx HBX.out)
      clear hbx HSM4 HSUM2 HBY HRY HNY y0 y1 y2 y3 y4 y5 y6 y7 u0 u1 u2 u3 u4 u5 u6 u7
      go_wp2_with fail
      refine HS4.out.mono ?_
      rintro _ wz ⟨rfl, hbz⟩
      have HBZ := Lib.hid (HBX.out.trans (hbz.mono HBX.out.size))
      clear hbz HS4 HBX
      go_wp2_with fail
      refine (HTS.out _).mono ?_
      rintro _ w5 ⟨hb5, B1, m1, d1, B2, m2, d2, B3, m3, d3, rfl, hat⟩
      have hb6 : Below w5.heap.size w5 (w5.alloc (.cells #[.int .i64 pk, .string pl, .slice B1 m1 d1, .slice B2 m2 d2, .slice B3 m3 d3, .int .i64 pst, .string pn, .string prt] 27)) := (Below.refl _ _).alloc (Nat.le_refl _) _
      have HB5 := Lib.hid (HBZ.out.trans (hb5.mono HBZ.out.size))
      have HB6 := Lib.hid (HB5.out.trans (hb6.mono HB5.out.size))
      have HAT6 := Lib.hid (hat.step hb6)
      have HROW6 := Lib.hid (heap_alloc_new w5 (.cells #[.int .i64 pk, .string pl, .slice B1 m1 d1, .slice B2 m2 d2, .slice B3 m3 d3, .int .i64 pst, .string pn, .string prt] 27))
      clear hat hb5 hb6 HTS
      simp only at HAT6
      cases hez : (ez != 0) with
      | true =>
        have hz := take_zero HPZ.out (by intro h; rw [h] at hez; cases hez)
        unfold zeroO at hz
        injection hz with z0 z1 z2 z3 z4 z5 z6 z7
        subst z0 z1 z2 z3 z4 z5 z6 z7
        have HSM := Lib.hid (same10 0 ⟨#[]⟩ [] [] [] 0 ⟨#[]⟩ ⟨#[]⟩ _ _ _ _ _ _ _ HAT6.out (zero_at _))
        clear HPZ HAT6
        go_wp2_with fail
        refine HSM.out.mono ?_
        rintro _ w7 ⟨rfl, hb7⟩
        have HB7 := Lib.hid (HB6.out.trans (hb7.mono HB6.out.size))
        have HV := Lib.hid (HLV.out w7 HB7.out)
        clear hb7 HSM HLV
        go_wp2_with (go_at_call 6; refine HV.out.mono ?_; rintro _ w8 ⟨rfl, hb8⟩)
        go_ret
        exact ⟨rfl, HB7.out.trans (hb8.mono HB7.out.size)⟩
      | false =>
        have hez0 : ez = 0 := by simpa using hez
        subst hez0
        obtain ⟨hokz, hSz⟩ := take_back HPZ.out
        have hput := put7 pk pl pr pkk pp pst pn prt _ _ _ _ HAT6.out
        unfold objE at hput
        rw [hokz, hSz] at hput
        have HPZ7 : Hid (Calls Tryd.prog 7 #[.agg #[.int .i64 pk, .string pl, .slice B1 m1 d1, .slice B2 m2 d2, .slice B3 m3 d3, .int .i64 pst, .string pn, .string prt]] (w5.alloc (.cells #[.int .i64 pk, .string pl, .slice B1 m1 d1, .slice B2 m2 d2, .slice B3 m3 d3, .int .i64 pst, .string pn, .string prt] 27)) fun e w' => e = .returned (.tuple #[.string s, .int .i64 0]) ∧ Below (w5.alloc (.cells #[.int .i64 pk, .string pl, .slice B1 m1 d1, .slice B2 m2 d2, .slice B3 m3 d3, .int .i64 pst, .string pn, .string prt] 27)).heap.size (w5.alloc (.cells #[.int .i64 pk, .string pl, .slice B1 m1 d1, .slice B2 m2 d2, .slice B3 m3 d3, .int .i64 pst, .string pn, .string prt] 27)) w') := hput
        have HOKZ := Lib.hid hokz
        clear hput hokz hSz HPZ
        go_wp2_with fail
        refine HPZ7.out.mono ?_
        rintro _ w7 ⟨rfl, hb7⟩
        have HB7 := Lib.hid (HB6.out.trans (hb7.mono HB6.out.size))
        obtain ⟨x0, x1, x2, x3, x4, x5, x6, x7⟩ := obj_cells ((hb7.block w5.heap.size (by simp)).trans HROW6.out)
        have hck := check12 pk pl pr pkk pp pst pn prt _ _ _ w7 (HAT6.out.step hb7)
        rw [HOKZ.out] at hck
        have HCK : Hid (Calls Tryd.prog 12 #[.agg #[.int .i64 pk, .string pl, .slice B1 m1 d1, .slice B2 m2 d2, .slice B3 m3 d3, .int .i64 pst, .string pn, .string prt]] w7 fun e w' => e = .returned (.int .i64 0) ∧ Below w7.heap.size w7 w') := hck
        clear hb7 HPZ7 hck HAT6 HROW6 HOKZ
        go_wp2_with fail
        refine HCK.out.mono ?_
        rintro _ w8 ⟨rfl, hb8⟩
        have HB8 := Lib.hid (HB7.out.trans (hb8.mono HB7.out.size))
        have HV := Lib.hid (HLV.out w8 HB8.out)
        clear hb8 HCK HLV x0 x1 x2 x3 x4 x5 x6 x7
        go_wp2_with (go_at_call 6; refine HV.out.mono ?_; rintro _ w9 ⟨rfl, hb9⟩)
        go_ret
        exact ⟨rfl, HB8.out.trans (hb9.mono HB8.out.size)⟩
end Go.Proofs.YtmnknijjjicdbaaDoor
