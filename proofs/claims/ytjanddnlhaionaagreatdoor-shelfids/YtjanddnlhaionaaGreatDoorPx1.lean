/-
  The contract of Id; that of the law's small: it answers. No condition but the package's tables. The contract of the document's Same at two objects that are one as data. No condition. The round trip, plain; the contract of the law's lives. No condition but the package's tables.
-/
import Derived.Test.YtjanddnlhaionaaGreatDoorOx3
import Derived.Test.YtjanddnlhaionaaGreatDoorL3x1
import Derived.Test.YtjanddnlhaionaaGreatDoorOx0
import Derived.Test.YtjanddnlhaionaaGreatDoorPx0
set_option maxRecDepth 100000
namespace Go.Proofs.YtjanddnlhaionaaGreatDoor
open Go.RowKit
open L4 (C LAt putS)
open L2 (Row Vl RowsAt rowsOK valOK)
open L3 (St Tabs digestM)

def idOf (K : List Int) (I : St) (s : ByteArray) : ByteArray := ⟨(digestM K I s.data.toList).toArray⟩
def objI (K : List Int) (I : St) (o : Ob) : ByteArray := if objOK o then idOf K I (objS o) else ⟨#[]⟩

theorem objS_size {o : Ob} (hn : ∀ r ∈ o.rows, -9223372036854775808 ≤ r.2.2.2.1 ∧ r.2.2.2.1 ≤ 9223372036854775807) (hf : ∀ k ∈ o.kids, 0 ≤ k.f ∧ k.f ≤ 255) : (objS o).size ≤ 900000 := by
  unfold objS
  cases hok : objOK o with
  | false => show (0 : Nat) ≤ _; omega
  | true =>
    have hk : o.kids.length ≤ 500 := by
      rcases obj_p hok with q | q
      · have := kids_256 q.kids hf; omega
      · rw [q.kids]; simp
    have hg := obj_good hok hn hf hk
    show (putS (cellOf o)).size ≤ 900000
    unfold putS
    rw [if_pos hg.ok]
    exact hg.enc

set_option maxHeartbeats 2000000 in
theorem id9 (K : List Int) (I : St) (kd : Int) (label : ByteArray) (rows : List Row) (kids : List Kd) (parents : List ByteArray) (stamp : Int) (note root : ByteArray) (r k p : Value) (w : World) (h : ObAt w r k p ⟨kd, label, rows, kids, parents, stamp, note, root⟩) (hT : Tabs K I w) :
    Calls Tryz.prog 13 #[.agg #[.int .i64 kd, .string label, r, k, p, .int .i64 stamp, .string note, .string root]] w fun e w' => e = .returned (.tuple #[.string (objI K I ⟨kd, label, rows, kids, parents, stamp, note, root⟩), .int .i64 (objE ⟨kd, label, rows, kids, parents, stamp, note, root⟩)]) ∧ Below w.heap.size w w' := by
  have HO := Lib.hid (Obj1.start w ⟨kd, label, rows, kids, parents, stamp, note, root⟩ r k p)
  have h' : ObAt (w.alloc (.cells #[.int .i64 kd, .string label, r, k, p, .int .i64 stamp, .string note, .string root] 27)) r k p ⟨kd, label, rows, kids, parents, stamp, note, root⟩ := h.step HO.out.below
  have HP := Lib.hid (put7 kd label rows kids parents stamp note root r k p (w.alloc (.cells #[.int .i64 kd, .string label, r, k, p, .int .i64 stamp, .string note, .string root] 27)) h')
  have hsz := objS_size (o := ⟨kd, label, rows, kids, parents, stamp, note, root⟩) h.num h.kids.bounds
  have h2 := hT.two
  have HSU := Lib.hid (fun w2 (hb : Below w.heap.size w w2) => L3.sum9 K I (objS ⟨kd, label, rows, kids, parents, stamp, note, root⟩) w2 (hT.below hb h2) hsz)
  obtain ⟨o, ho⟩ : ∃ o, (⟨kd, label, rows, kids, parents, stamp, note, root⟩ : Ob) = o := ⟨_, rfl⟩
  rw [ho] at HP HSU ⊢
  unfold objI
  generalize objS o = S at HP HSU ⊢
  cases hok : objOK o with
  | false =>
    have he : objE o = 2 := by unfold objE; rw [hok]; rfl
    rw [he] at HP ⊢
    clear HSU hok he h h' h2 hT hsz ho
    show Calls _ _ _ _ fun e w' => e = .returned (.tuple #[.string ⟨#[]⟩, .int .i64 2]) ∧ _
    go_enter Tryz.func13, Tryz.ntmps13
    go_wp2_with (go_at_call 11; refine HP.out.mono ?_; rintro e w2 ⟨rfl, hb⟩)
    go_ret2
    exact ⟨rfl, (HO.out.step hb).below⟩
  | true =>
    have he : objE o = 0 := by unfold objE; rw [hok]; rfl
    rw [he] at HP ⊢
    show Calls _ _ _ _ fun e w' => e = .returned (.tuple #[.string (idOf K I S), .int .i64 0]) ∧ _
    obtain ⟨i, hi⟩ : ∃ i, idOf K I S = i := ⟨_, rfl⟩
    rw [hi]
    have HI : Hid (({ data := (digestM K I S.data.toList).toArray } : ByteArray) = i) := hi
    clear hok he h h' h2 hT hsz ho hi
    go_enter Tryz.func13, Tryz.ntmps13
    go_wp2_with fail
    refine HP.out.mono ?_
    rintro e w2 ⟨rfl, hb⟩
    have HO2 := Lib.hid (HO.out.step hb)
    have hS := HSU.out w2 HO2.out.below
    rw [HI.out] at hS
    have HS2 := Lib.hid hS
    clear hb HSU HP HO hS
    go_wp2_with (go_at_call 50; refine HS2.out.mono ?_; rintro e w3 ⟨rfl, hb3⟩)
    go_ret2
    exact ⟨rfl, (HO2.out.step hb3).below⟩

def AnyBool (w : World) (e : Ending) (w' : World) : Prop := ∃ q, e = .returned (.bool q) ∧ Below w.heap.size w w'
set_option maxHeartbeats 4000000 in
theorem small5 (kd : Int) (label : ByteArray) (rows : List Row) (kids : List Kd) (parents : List ByteArray) (stamp : Int) (note root : ByteArray) (r k p : Value) (w : World) (h : ObAt w r k p ⟨kd, label, rows, kids, parents, stamp, note, root⟩) :
    Calls Tryz.prog 9 #[.agg #[.int .i64 kd, .string label, r, k, p, .int .i64 stamp, .string note, .string root]] w (AnyBool w) := by
  have HO := Lib.hid (Obj1.start w ⟨kd, label, rows, kids, parents, stamp, note, root⟩ r k p)
  have hB : Below w.heap.size w (w.alloc (.cells #[.int .i64 kd, .string label, r, k, p, .int .i64 stamp, .string note, .string root] 27)) := (Below.refl _ _).alloc (Nat.le_refl _) _
  have HB := Lib.hid hB
  obtain ⟨A1, c1, e1, r1, r2, r3⟩ := h.rows
  obtain ⟨A2, c2, e2, k1, k2, k3⟩ := h.kids
  obtain ⟨A3, c3, e3, p1, p2, p3⟩ := h.parents
  simp only at e1 e2 e3 r1 r2 r3 k1 k2 k3 p1 p2 p3
  subst e1 e2 e3
  have H1 := Lib.hid r3
  have H2 := Lib.hid k3
  have H3 := Lib.hid p3
  unfold maxLen at r2 k2 p2
  clear r3 k3 p3 h hB
  cases t1 : decide ((500 : Int) < wrap64 (wrap64 ((label.size : Int) + (note.size : Int)) + (root.size : Int))) with
  | true =>
    go_enter Tryz.func9, Tryz.ntmps9
    go_wp2_with fail
    go_ret
    exact ⟨_, rfl, HB.out⟩
  | false =>
  cases t2 : decide ((80 : Int) < (rows.length : Int)) with
  | true =>
    go_enter Tryz.func9, Tryz.ntmps9
    go_wp2_with fail
    go_ret
    exact ⟨_, rfl, HB.out⟩
  | false =>
  cases t3 : decide ((300 : Int) < (kids.length : Int)) with
  | true =>
    go_enter Tryz.func9, Tryz.ntmps9
    go_wp2_with fail
    go_ret
    exact ⟨_, rfl, HB.out⟩
  | false =>
  cases t4 : decide ((10 : Int) < (parents.length : Int)) with
  | true =>
    go_enter Tryz.func9, Tryz.ntmps9
    go_wp2_with fail
    go_ret
    exact ⟨_, rfl, HB.out⟩
  | false =>
    go_enter Tryz.func9, Tryz.ntmps9
    go_wp2_with fail
    go_loop [3] (fun i => ∃ k : Nat, k ≤ rows.length ∧ i = .int .i64 k) (fun i => rows.length - (intOf i).toNat)
    case atStart => exact ⟨0, Nat.zero_le _, rfl⟩
    case round =>
      obtain ⟨j, hj, rfl⟩ := hrel
      by_cases hlt : j < rows.length
      · obtain ⟨b, o, rfl, hb, hr⟩ := H1.out (by omega)
        have c4 := (HB.out.cell (p := ⟨b, o + j * 5 + 4, none⟩) hb).trans (hr j hlt).c4
        generalize rows[j].2.2.2.2 = s at c4
        clear hr
        cases hs : decide ((200 : Int) < (s.size : Int)) with
        | true =>
          go_wp2
          go_ret
          exact ⟨_, rfl, HB.out⟩
        | false =>
          go_wp2
          go_round
          case rel => exact ⟨j + 1, by omega, by go_num⟩
          case measure => simp [intOf]; omega
      · clear H1
        go_wp2_with fail
        go_loop [4] (fun i => ∃ k : Nat, k ≤ kids.length ∧ i = .int .i64 k) (fun i => kids.length - (intOf i).toNat)
        case atStart => exact ⟨0, Nat.zero_le _, rfl⟩
        case round =>
          obtain ⟨j2, hj2, rfl⟩ := hrel
          by_cases hlt2 : j2 < kids.length
          · obtain ⟨b, o, rfl, hb, hr⟩ := H2.out (by omega)
            have c4 := (HB.out.cell (p := ⟨b, o + j2 * 2 + 1, none⟩) hb).trans (hr j2 hlt2).c1
            generalize kids[j2].id = s at c4
            clear hr
            cases hs : decide ((100 : Int) < (s.size : Int)) with
            | true =>
              go_wp2
              go_ret
              exact ⟨_, rfl, HB.out⟩
            | false =>
              go_wp2
              go_round
              case rel => exact ⟨j2 + 1, by omega, by go_num⟩
              case measure => simp [intOf]; omega
          · clear H2
            go_wp2_with fail
            go_loop [5] (fun i => ∃ k : Nat, k ≤ parents.length ∧ i = .int .i64 k) (fun i => parents.length - (intOf i).toNat)
            case atStart => exact ⟨0, Nat.zero_le _, rfl⟩
            case round =>
              obtain ⟨j3, hj3, rfl⟩ := hrel
              by_cases hlt3 : j3 < parents.length
              · obtain ⟨b, o, rfl, hb, hr⟩ := H3.out (by omega)
                have c4 := (HB.out.cell (p := ⟨b, o + j3, none⟩) hb).trans (hr j3 hlt3)
                generalize parents[j3] = s at c4
                clear hr
                cases hs : decide ((100 : Int) < (s.size : Int)) with
                | true =>
                  go_wp2
                  go_ret
                  exact ⟨_, rfl, HB.out⟩
                | false =>
                  go_wp2
                  go_round
                  case rel => exact ⟨j3 + 1, by omega, by go_num⟩
                  case measure => simp [intOf]; omega
              · go_wp2
                go_ret
                exact ⟨_, rfl, HB.out⟩
end Go.Proofs.YtjanddnlhaionaaGreatDoor
namespace Go.Proofs.YtjanddnlhaionaaGreatDoor
open Go.RowKit
open L4 (C LAt putS)
open L2 (Row Vl RowsAt rowsOK valOK)

/-- Two objects, each in a block of its own. -/
structure Two (w : World) (o : Ob) (r k p r' k' p' : Value) (W : World) : Prop where
  a : Obj1 w o r k p W
  c0 : W.cell? ⟨w.heap.size + 1, 0, none⟩ = some (.int .i64 o.k)
  c1 : W.cell? ⟨w.heap.size + 1, 1, none⟩ = some (.string o.label)
  c2 : W.cell? ⟨w.heap.size + 1, 2, none⟩ = some r'
  c3 : W.cell? ⟨w.heap.size + 1, 3, none⟩ = some k'
  c4 : W.cell? ⟨w.heap.size + 1, 4, none⟩ = some p'
  c5 : W.cell? ⟨w.heap.size + 1, 5, none⟩ = some (.int .i64 o.stamp)
  c6 : W.cell? ⟨w.heap.size + 1, 6, none⟩ = some (.string o.note)
  c7 : W.cell? ⟨w.heap.size + 1, 7, none⟩ = some (.string o.root)
  lt : w.heap.size + 1 < W.heap.size
theorem Two.start (w : World) (o : Ob) (r k p r' k' p' : Value) : Two w o r k p r' k' p' ((w.alloc (.cells (obVs o r k p) 27)).alloc (.cells (obVs o r' k' p') 27)) :=
  ⟨(Obj1.start w o r k p).step ((Below.refl _ _).alloc (Nat.le_refl _) _), by simp [obVs, go_sem], by simp [obVs, go_sem], by simp [obVs, go_sem], by simp [obVs, go_sem], by simp [obVs, go_sem], by simp [obVs, go_sem], by simp [obVs, go_sem], by simp [obVs, go_sem], by simp⟩
theorem Two.step {w : World} {o : Ob} {r k p r' k' p' : Value} {W W' : World} (h : Two w o r k p r' k' p' W) (hb : Below W.heap.size W W') : Two w o r k p r' k' p' W' := by
  have hq : ∀ j, W'.cell? ⟨w.heap.size + 1, j, none⟩ = W.cell? ⟨w.heap.size + 1, j, none⟩ := fun j => hb.cell (p := ⟨w.heap.size + 1, j, none⟩) h.lt
  exact ⟨h.a.step hb, (hq _).trans h.c0, (hq _).trans h.c1, (hq _).trans h.c2, (hq _).trans h.c3, (hq _).trans h.c4, (hq _).trans h.c5, (hq _).trans h.c6, (hq _).trans h.c7, Nat.lt_of_lt_of_le h.lt hb.size⟩

/-- A world from which draws were made, and no more. -/
def Drawn (w w' : World) : Prop := ∃ m, w' = w.drewN m
theorem Drawn.cell {w w' : World} (h : Drawn w w') (a : Addr) : w'.cell? a = w.cell? a := by obtain ⟨m, rfl⟩ := h; rfl
theorem Drawn.more {w w' : World} (h : Drawn w w') (n : Nat) : Drawn w (w'.drewN n) := by obtain ⟨m, rfl⟩ := h; exact ⟨m + n, World.drewN_drewN _ _ _⟩
theorem Drawn.below {w0 w w' : World} {B : Nat} (h : Drawn w w') (hb : Below B w0 w) : Below B w0 w' := by obtain ⟨m, rfl⟩ := h; exact L4.below_drewN hb _
theorem neqKid (f : Int) (id : ByteArray) (w : World) : (binOp .neq 95 (.agg #[.int .u8 f, .string id]) (.agg #[.int .u8 f, .string id])).run Tryz.prog w = .ok (.bool false) w := by simp [go_sem]

set_option maxHeartbeats 4000000 in
theorem same10 (kd : Int) (label : ByteArray) (rows : List Row) (kids : List Kd) (parents : List ByteArray) (stamp : Int) (note root : ByteArray) (r k p r' k' p' : Value) (w : World) (h : ObAt w r k p ⟨kd, label, rows, kids, parents, stamp, note, root⟩) (h' : ObAt w r' k' p' ⟨kd, label, rows, kids, parents, stamp, note, root⟩) :
    Calls Tryz.prog 22 #[.agg #[.int .i64 kd, .string label, r, k, p, .int .i64 stamp, .string note, .string root], .agg #[.int .i64 kd, .string label, r', k', p', .int .i64 stamp, .string note, .string root]] w fun e w' => e = .returned (.bool true) ∧ Below w.heap.size w w' := by
  have HT := Lib.hid (Two.start w ⟨kd, label, rows, kids, parents, stamp, note, root⟩ r k p r' k' p')
  have hb := HT.out.a.below
  have HS := Lib.hid (L2.same17 rows rows r r' _ (h.step hb).rows (h'.step hb).rows)
  have hd : decide (rows = rows) = true := decide_eq_true rfl
  rw [hd] at HS
  obtain ⟨A1, c1, e1, -, -, -⟩ := h.rows
  obtain ⟨A1', c1', e1', -, -, -⟩ := h'.rows
  obtain ⟨A2, c2, e2, k1, k2, k3⟩ := h.kids
  obtain ⟨A2', c2', e2', k1', k2', k3'⟩ := h'.kids
  obtain ⟨A3, c3, e3, p1, p2, p3⟩ := h.parents
  obtain ⟨A3', c3', e3', p1', p2', p3'⟩ := h'.parents
  simp only at e1 e1' e2 e2' e3 e3' k1 k1' k2 k2' k3 k3' p1 p1' p2 p2' p3 p3'
  subst e1 e1' e2 e2' e3 e3'
  unfold maxLen at k2 k2' p2 p2'
  have HK := Lib.hid k3
  have HK' := Lib.hid k3'
  have HP := Lib.hid p3
  have HP' := Lib.hid p3'
  unfold obVs at HT HS
  simp only at HT HS
  clear k3 k3' p3 p3' h h' hb hd
  go_enter Tryz.func22, Tryz.ntmps22
  go_wp2_with fail
  refine HS.out.mono ?_
  rintro _ w2 ⟨rfl, hb2⟩
  have HT2 := Lib.hid (HT.out.step hb2)
  obtain ⟨⟨a0, a1, a2, a3, a4, a5, a6, a7, -, -⟩, b0, b1, b2, b3, b4, b5, b6, b7, -⟩ := HT2.out
  simp only at a0 a1 a5 a6 a7 b0 b1 b5 b6 b7
  have HB2 := Lib.hid HT2.out.a.below
  clear hb2 HS HT a0 a1 a2 a5 a6 a7 b0 b1 b2 b5 b6 b7
  go_wp2_with fail
  go_loopw [5] (fun s5 wr => ∃ j : Nat, j ≤ kids.length ∧ s5 = .int .i64 j ∧ Drawn w2 wr) (fun s5 _ => kids.length - (intOf s5).toNat)
  case atStart => exact ⟨0, Nat.zero_le _, rfl, 0, rfl⟩
  case round =>
    obtain ⟨j, hj, rfl, hm⟩ := hrel
    have a3' := (hm.cell ⟨w.heap.size, 3, none⟩).trans a3
    have b3' := (hm.cell ⟨w.heap.size + 1, 3, none⟩).trans b3
    by_cases hlt : j < kids.length
    · obtain ⟨b, o, rfl, hb, hr⟩ := HK.out (by omega)
      obtain ⟨b', o', rfl, hb', hr'⟩ := HK'.out (by omega)
      have x0 := (hm.cell ⟨b, o + j * 2, none⟩).trans ((HB2.out.cell (p := ⟨b, o + j * 2, none⟩) hb).trans (hr j hlt).c0)
      have x1 := (hm.cell ⟨b, o + j * 2 + 1, none⟩).trans ((HB2.out.cell (p := ⟨b, o + j * 2 + 1, none⟩) hb).trans (hr j hlt).c1)
      have y0 := (hm.cell ⟨b', o' + j * 2, none⟩).trans ((HB2.out.cell (p := ⟨b', o' + j * 2, none⟩) hb').trans (hr' j hlt).c0)
      have y1 := (hm.cell ⟨b', o' + j * 2 + 1, none⟩).trans ((HB2.out.cell (p := ⟨b', o' + j * 2 + 1, none⟩) hb').trans (hr' j hlt).c1)
      clear hr hr'
      generalize kids[j].f = f at x0 y0
      generalize kids[j].id = id at x1 y1
      have hi0 : (0 : Int) ≤ (j : Int) := by omega
      have hi1 : (j : Int) < (kids.length : Int) := by omega
      have hne := neqKid f id
      go_wp2_with fail
      go_quiet (fail)
      go_wp2
      go_roundw
      case rel => exact ⟨j + 1, by omega, by go_num, hm.more _⟩
      case measure => simp [intOf]; omega
    · clear HK HK'
      have a4' := (hm.cell ⟨w.heap.size, 4, none⟩).trans a4
      go_wp2_with fail
      clear a3 b3 a3' b3' a4'
      go_loopw [6] (fun s6 wr => ∃ j : Nat, j ≤ parents.length ∧ s6 = .int .i64 j ∧ Drawn w2 wr) (fun s6 _ => parents.length - (intOf s6).toNat)
      case atStart => exact ⟨0, Nat.zero_le _, rfl, hm⟩
      case round =>
        obtain ⟨j2, hj2, rfl, hm2⟩ := hrel
        have a4' := (hm2.cell ⟨w.heap.size, 4, none⟩).trans a4
        have b4' := (hm2.cell ⟨w.heap.size + 1, 4, none⟩).trans b4
        by_cases hlt2 : j2 < parents.length
        · obtain ⟨b, o, rfl, hb, hr⟩ := HP.out (by omega)
          obtain ⟨b', o', rfl, hb', hr'⟩ := HP'.out (by omega)
          have x0 := (hm2.cell ⟨b, o + j2, none⟩).trans ((HB2.out.cell (p := ⟨b, o + j2, none⟩) hb).trans (hr j2 hlt2))
          have y0 := (hm2.cell ⟨b', o' + j2, none⟩).trans ((HB2.out.cell (p := ⟨b', o' + j2, none⟩) hb').trans (hr' j2 hlt2))
          clear hr hr'
          generalize parents[j2] = f at x0 y0
          have hi0 : (0 : Int) ≤ (j2 : Int) := by omega
          have hi1 : (j2 : Int) < (parents.length : Int) := by omega
          go_wp2_with fail
          go_quiet (fail)
          go_wp2
          go_roundw
          case rel => exact ⟨j2 + 1, by omega, by go_num, hm2.more _⟩
          case measure => simp [intOf]; omega
        · go_wp2
          go_ret
          exact ⟨rfl, hm2.below HB2.out⟩
end Go.Proofs.YtjanddnlhaionaaGreatDoor
namespace Go.Proofs.YtjanddnlhaionaaGreatDoor
open Go.RowKit
open L4 (C LAt putS takeM encC okC)
open L2 (Row Vl RowsAt rowsOK valOK)
open L3 (St Tabs digestM)

theorem obj_take {o : Ob} (hok : objOK o = true) (hn : ∀ r ∈ o.rows, -9223372036854775808 ≤ r.2.2.2.1 ∧ r.2.2.2.1 ≤ 9223372036854775807) (hf : ∀ k ∈ o.kids, 0 ≤ k.f ∧ k.f ≤ 255) : takeOM (objS o) = (o, 0) := by
  have hk : o.kids.length ≤ 500 := by
    rcases obj_p hok with q | q
    · have := kids_256 q.kids hf; omega
    · rw [q.kids]; simp
  have hg := obj_good hok hn hf hk
  have ht := L4.take_put hg.ok hg.fit
  unfold objS
  rw [hok]
  show takeOM (putS (cellOf o)) = (o, 0)
  unfold takeOM
  rw [ht]
  simp only
  rw [if_pos trivial, obj_read hok hf]
  simp only
  rw [hok]; rfl
theorem take_back {s : ByteArray} {p : Ob} (h : takeOM s = (p, 0)) : objOK p = true ∧ objS p = s := by
  unfold takeOM at h
  by_cases h1 : (takeM s).2 = 0
  · rw [if_pos h1] at h
    have ht : takeM s = ((takeM s).1, 0) := Prod.ext rfl h1
    obtain ⟨a, b, c⟩ := take_ok ht
    cases hm : objM (takeM s).1 with
    | none => rw [hm] at h; injection h with _ h; cases h
    | some o =>
      rw [hm] at h
      simp only at h
      cases hok : objOK o with
      | false => rw [hok] at h; injection h with _ h; cases h
      | true =>
        rw [hok] at h
        injection h with h _
        subst h
        refine ⟨hok, ?_⟩
        unfold objS
        rw [hok]
        show putS (cellOf o) = s
        rw [← (obj_back hm hok).1]
        exact c
  · rw [if_neg h1] at h
    injection h with _ h
    exact absurd h h1
theorem take_zero {s : ByteArray} {p : Ob} {e : Int} (h : takeOM s = (p, e)) (he : e ≠ 0) : p = zeroO := by
  unfold takeOM at h
  by_cases h1 : (takeM s).2 = 0
  · rw [if_pos h1] at h
    cases hm : objM (takeM s).1 with
    | none => rw [hm] at h; injection h with h _; exact h.symm
    | some o =>
      rw [hm] at h
      simp only at h
      cases hok : objOK o with
      | false => rw [hok] at h; injection h with h _; exact h.symm
      | true => rw [hok] at h; injection h with _ h; exact absurd h.symm he
  · rw [if_neg h1] at h
    injection h with h _
    exact h.symm

def exOb : Ob := ⟨1, ⟨#[]⟩, [], [], [], 0, ⟨#[]⟩, ⟨#[]⟩⟩
theorem ex_ok : objOK exOb = true := by
  unfold objOK nodeOK exOb
  simp only [empty_list]
  rfl
theorem ex_nr : ∀ r ∈ exOb.rows, -9223372036854775808 ≤ r.2.2.2.1 ∧ r.2.2.2.1 ≤ 9223372036854775807 := by intro r hr; cases hr
theorem ex_kf : ∀ k ∈ exOb.kids, 0 ≤ k.f ∧ k.f ≤ 255 := by intro r hr; cases hr
theorem ex_enc : encC 16 (cellOf exOb) = [65, 4, 17, 1, 48, 64, 64] := by decide +kernel
theorem ex_put : objS exOb = ⟨#[65, 4, 17, 1, 48, 64, 64]⟩ := by
  have hg := obj_good ex_ok ex_nr ex_kf (by decide)
  unfold objS
  rw [ex_ok]
  show putS (cellOf exOb) = _
  unfold putS
  rw [if_pos hg.ok, ex_enc]
theorem ex_take : takeOM ⟨#[65, 4, 17, 1, 48, 64, 64]⟩ = (exOb, 0) := by rw [← ex_put]; exact obj_take ex_ok ex_nr ex_kf
theorem ex_at (w : World) : ObAt w (.slice none 0 0) (.slice none 0 0) (.slice none 0 0) exOb :=
  ⟨rowsNil _ _, KidsAt.nil _ _, TxtsAt.nil _ _, by show (-9223372036854775808 : Int) ≤ 0; omega, by show (0 : Int) ≤ _; omega, by intro r hr; cases hr⟩
theorem id_size (K : List Int) (I : St) (s : ByteArray) : (idOf K I s).size = 32 := by
  unfold idOf
  show (digestM K I s.data.toList).toArray.size = 32
  rw [List.size_toArray, L3.digestM_length]

set_option maxHeartbeats 4000000 in
theorem lives6 (K : List Int) (I : St) (w : World) (hT : Tabs K I w) : Calls Tryz.prog 10 #[] w fun e w' => e = .returned (.bool true) ∧ Below w.heap.size w w' := by
  have HP : Hid (Calls Tryz.prog 11 #[.agg #[.int .i64 1, .string ⟨#[]⟩, .slice none 0 0, .slice none 0 0, .slice none 0 0, .int .i64 0, .string ⟨#[]⟩, .string ⟨#[]⟩]] w fun e w' => e = .returned (.tuple #[.string ⟨#[65, 4, 17, 1, 48, 64, 64]⟩, .int .i64 0]) ∧ Below w.heap.size w w') := by
    have := put7 1 ⟨#[]⟩ [] [] [] 0 ⟨#[]⟩ ⟨#[]⟩ (.slice none 0 0) (.slice none 0 0) (.slice none 0 0) w (ex_at w)
    have e1 : objS ⟨1, ⟨#[]⟩, [], [], [], 0, ⟨#[]⟩, ⟨#[]⟩⟩ = ⟨#[65, 4, 17, 1, 48, 64, 64]⟩ := ex_put
    have e2 : objE ⟨1, ⟨#[]⟩, [], [], [], 0, ⟨#[]⟩, ⟨#[]⟩⟩ = 0 := by unfold objE; rw [show objOK ⟨1, ⟨#[]⟩, [], [], [], 0, ⟨#[]⟩, ⟨#[]⟩⟩ = true from ex_ok]; rfl
    rw [e1, e2] at this
    exact this
  have HTK := Lib.hid (fun w2 => take8 ⟨#[65, 4, 17, 1, 48, 64, 64]⟩ w2 (by decide))
  rw [ex_take] at HTK
  have h2 := hT.two
  obtain ⟨i, hi⟩ : ∃ i, objI K I exOb = i := ⟨_, rfl⟩
  have hsz : i.size = 32 := by rw [← hi]; unfold objI; rw [ex_ok]; exact id_size K I _
  have HID : Hid (∀ (w2 : World) (r k p : Value), Below w.heap.size w w2 → ObAt w2 r k p exOb → Calls Tryz.prog 13 #[.agg #[.int .i64 1, .string ⟨#[]⟩, r, k, p, .int .i64 0, .string ⟨#[]⟩, .string ⟨#[]⟩]] w2 fun e w' => e = .returned (.tuple #[.string i, .int .i64 0]) ∧ Below w2.heap.size w2 w') := by
    intro w2 r k p hb ho
    have := id9 K I 1 ⟨#[]⟩ [] [] [] 0 ⟨#[]⟩ ⟨#[]⟩ r k p w2 ho (hT.below hb h2)
    have e1 : objI K I ⟨1, ⟨#[]⟩, [], [], [], 0, ⟨#[]⟩, ⟨#[]⟩⟩ = i := hi
    have e2 : objE ⟨1, ⟨#[]⟩, [], [], [], 0, ⟨#[]⟩, ⟨#[]⟩⟩ = 0 := by unfold objE; rw [show objOK ⟨1, ⟨#[]⟩, [], [], [], 0, ⟨#[]⟩, ⟨#[]⟩⟩ = true from ex_ok]; rfl
    rw [e1, e2] at this
    exact this
  have HSM : Hid (∀ (w2 : World) (r k p : Value), ObAt w2 r k p exOb → Calls Tryz.prog 22 #[.agg #[.int .i64 1, .string ⟨#[]⟩, r, k, p, .int .i64 0, .string ⟨#[]⟩, .string ⟨#[]⟩], .agg #[.int .i64 1, .string ⟨#[]⟩, .slice none 0 0, .slice none 0 0, .slice none 0 0, .int .i64 0, .string ⟨#[]⟩, .string ⟨#[]⟩]] w2 fun e w' => e = .returned (.bool true) ∧ Below w2.heap.size w2 w') :=
    fun w2 r k p ho => same10 1 ⟨#[]⟩ [] [] [] 0 ⟨#[]⟩ ⟨#[]⟩ r k p _ _ _ w2 ho (ex_at w2)
  clear hi hT h2
  go_enter Tryz.func10, Tryz.ntmps10
  go_wp2_with fail
  refine HP.out.mono ?_
  rintro _ w1 ⟨rfl, hb1⟩
  have HB1 := Lib.hid hb1
  clear hb1 HP
  go_wp2_with fail
  refine (HTK.out _).mono ?_
  rintro _ w2 ⟨hb2, A1, n1, c1, A2, n2, c2, A3, n3, c3, rfl, hat⟩
  have hba : Below w2.heap.size w2 (w2.alloc (.cells #[.int .i64 1, .string ⟨#[]⟩, .slice A1 n1 c1, .slice A2 n2 c2, .slice A3 n3 c3, .int .i64 0, .string ⟨#[]⟩, .string ⟨#[]⟩] 27)) := (Below.refl _ _).alloc (Nat.le_refl _) _
  have HB2 := Lib.hid (HB1.out.trans (hb2.mono HB1.out.size))
  have HBA := Lib.hid (HB2.out.trans (hba.mono HB2.out.size))
  have HAT := Lib.hid (hat.step hba)
  have HI := Lib.hid (HID.out _ _ _ _ HBA.out HAT.out)
  have HA0 := Lib.hid (heap_alloc_new w2 (.cells #[.int .i64 1, .string ⟨#[]⟩, .slice A1 n1 c1, .slice A2 n2 c2, .slice A3 n3 c3, .int .i64 0, .string ⟨#[]⟩, .string ⟨#[]⟩] 27))
  clear hb2 hat hba HTK HB1 HID
  unfold exOb
  simp only
  go_wp2_with fail
  refine HI.out.mono ?_
  rintro _ w3 ⟨rfl, hb3⟩
  have HB3 := Lib.hid (HBA.out.trans (hb3.mono HBA.out.size))
  have HAT3 := Lib.hid (HAT.out.step hb3)
  have hr3 := (hb3.block w2.heap.size (by simp)).trans HA0.out
  have y0 := cell_of_row w3 w2.heap.size 0 _ 27 (0, 0) hr3
  have y1 := cell_of_row w3 w2.heap.size 1 _ 27 (0, 0) hr3
  have y2 := cell_of_row w3 w2.heap.size 2 _ 27 (0, 0) hr3
  have y3 := cell_of_row w3 w2.heap.size 3 _ 27 (0, 0) hr3
  have y4 := cell_of_row w3 w2.heap.size 4 _ 27 (0, 0) hr3
  have y5 := cell_of_row w3 w2.heap.size 5 _ 27 (0, 0) hr3
  have y6 := cell_of_row w3 w2.heap.size 6 _ 27 (0, 0) hr3
  have y7 := cell_of_row w3 w2.heap.size 7 _ 27 (0, 0) hr3
  have HS := Lib.hid (HSM.out w3 _ _ _ HAT3.out)
  clear hb3 hr3 HAT HAT3 HI HSM HA0 HBA HB2
  go_wp2_with (go_at_call 22; refine HS.out.mono ?_; rintro _ w4 ⟨rfl, hb4⟩)
  go_ret
  exact ⟨rfl, HB3.out.trans (hb4.mono HB3.out.size)⟩
end Go.Proofs.YtjanddnlhaionaaGreatDoor
