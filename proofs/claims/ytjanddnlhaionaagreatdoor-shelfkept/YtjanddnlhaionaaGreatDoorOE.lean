/-
  Contracts of isNode, isCommit, Check. No condition.
-/
import Derived.Test.YtjanddnlhaionaaGreatDoorOD
namespace Go.Proofs.YtjanddnlhaionaaGreatDoor
open Go.RowKit
open L4 (C)
open L2 (Row Vl RowsAt rowsOK valOK)

/-- An object in a block of its own, and what lay. -/
structure Obj1 (w : World) (o : Ob) (r k p : Value) (w' : World) : Prop where
  c0 : w'.cell? ⟨w.heap.size, 0, none⟩ = some (.int .i64 o.k)
  c1 : w'.cell? ⟨w.heap.size, 1, none⟩ = some (.string o.label)
  c2 : w'.cell? ⟨w.heap.size, 2, none⟩ = some r
  c3 : w'.cell? ⟨w.heap.size, 3, none⟩ = some k
  c4 : w'.cell? ⟨w.heap.size, 4, none⟩ = some p
  c5 : w'.cell? ⟨w.heap.size, 5, none⟩ = some (.int .i64 o.stamp)
  c6 : w'.cell? ⟨w.heap.size, 6, none⟩ = some (.string o.note)
  c7 : w'.cell? ⟨w.heap.size, 7, none⟩ = some (.string o.root)
  lt : w.heap.size < w'.heap.size
  below : Below w.heap.size w w'
set_option maxRecDepth 100000 in
theorem Obj1.start (w : World) (o : Ob) (r k p : Value) : Obj1 w o r k p (w.alloc (.cells (obVs o r k p) 27)) :=
  ⟨by simp [go_sem, obVs], by simp [go_sem, obVs], by simp [go_sem, obVs], by simp [go_sem, obVs], by simp [go_sem, obVs], by simp [go_sem, obVs], by simp [go_sem, obVs], by simp [go_sem, obVs], by simp, (Below.refl _ _).alloc (Nat.le_refl _) _⟩
set_option maxRecDepth 100000 in
theorem Obj1.step {w : World} {o : Ob} {r k p : Value} {w1 w2 : World} (h : Obj1 w o r k p w1) (hb : Below w1.heap.size w1 w2) : Obj1 w o r k p w2 :=
  ⟨(hb.cell (p := ⟨w.heap.size, 0, none⟩) h.lt).trans h.c0, (hb.cell (p := ⟨w.heap.size, 1, none⟩) h.lt).trans h.c1, (hb.cell (p := ⟨w.heap.size, 2, none⟩) h.lt).trans h.c2, (hb.cell (p := ⟨w.heap.size, 3, none⟩) h.lt).trans h.c3, (hb.cell (p := ⟨w.heap.size, 4, none⟩) h.lt).trans h.c4, (hb.cell (p := ⟨w.heap.size, 5, none⟩) h.lt).trans h.c5, (hb.cell (p := ⟨w.heap.size, 6, none⟩) h.lt).trans h.c6, (hb.cell (p := ⟨w.heap.size, 7, none⟩) h.lt).trans h.c7, Nat.lt_of_lt_of_le h.lt hb.size, h.below.trans (hb.mono (Nat.le_of_lt h.lt))⟩

set_option maxRecDepth 100000 in
set_option maxHeartbeats 4000000 in
theorem isNode23 (ok : Int) (label : ByteArray) (rows : List Row) (kids : List Kd) (parents : List ByteArray) (stamp : Int) (note root : ByteArray) (r k p : Value) (w : World) (h : ObAt w r k p ⟨ok, label, rows, kids, parents, stamp, note, root⟩) :
    Calls Tryz.prog 57 #[.agg #[.int .i64 ok, .string label, r, k, p, .int .i64 stamp, .string note, .string root]] w fun e w' => e = .returned (.bool (nodeOK ⟨ok, label, rows, kids, parents, stamp, note, root⟩)) ∧ Below w.heap.size w w' := by
  obtain ⟨q, hq⟩ : ∃ q, nodeOK ⟨ok, label, rows, kids, parents, stamp, note, root⟩ = q := ⟨_, rfl⟩
  rw [hq]
  have HQ : Hid (((ok == 1) && ((((parents.length : Int) == 0) && ((stamp == 0) && (note.toList.isEmpty && root.toList.isEmpty))) && (decide ((label.size : Int) ≤ 24) && (rowsOK rows && kidsOK kids)))) = q) := hq
  clear hq
  have HO := Lib.hid (Obj1.start w ⟨ok, label, rows, kids, parents, stamp, note, root⟩ r k p)
  have h' := h.step HO.out.below
  have HR := Lib.hid (L2.check18 rows r _ h'.rows)
  have HK := Lib.hid fun w2 hb => areKids46 kids k w2 (h'.kids.step hb)
  obtain ⟨A, cap, hp, -, -, -⟩ := h.parents
  simp only at hp
  subst hp
  clear h h'
  generalize rowsOK rows = q1 at HR HQ
  generalize kidsOK kids = q2 at HK HQ
  cases a0 : ((parents.length : Int) == 0) with
  | false =>
    have hq : q = false := by rw [← HQ.out, a0]; simp
    subst hq
    clear HQ HK HR
    cases a1 : (ok == 1) <;> (go_enter Tryz.func57, Tryz.ntmps57; go_wp2; go_ret; exact ⟨rfl, HO.out.below⟩)
  | true =>
  cases a2 : (stamp == 0) with
  | false =>
    have hq : q = false := by rw [← HQ.out, a0, a2]; simp
    subst hq
    clear HQ HK HR
    cases a1 : (ok == 1) <;> (go_enter Tryz.func57, Tryz.ntmps57; go_wp2; go_ret; exact ⟨rfl, HO.out.below⟩)
  | true =>
  cases a3 : note.toList.isEmpty with
  | false =>
    have hq : q = false := by rw [← HQ.out, a0, a2, a3]; simp
    subst hq
    clear HQ HK HR
    cases a1 : (ok == 1) <;> (go_enter Tryz.func57, Tryz.ntmps57; go_wp2; go_ret; exact ⟨rfl, HO.out.below⟩)
  | true =>
  cases a4 : root.toList.isEmpty with
  | false =>
    have hq : q = false := by rw [← HQ.out, a0, a2, a3, a4]; simp
    subst hq
    clear HQ HK HR
    cases a1 : (ok == 1) <;> (go_enter Tryz.func57, Tryz.ntmps57; go_wp2; go_ret; exact ⟨rfl, HO.out.below⟩)
  | true =>
  cases a1 : (ok == 1) with
  | false =>
    have hq : q = false := by rw [← HQ.out, a1]; simp
    subst hq
    clear HQ HK HR
    go_enter Tryz.func57, Tryz.ntmps57
    go_wp2
    go_ret
    exact ⟨rfl, HO.out.below⟩
  | true =>
  cases a5 : decide ((label.size : Int) ≤ 24) with
  | false =>
    have hq : q = false := by rw [← HQ.out, a0, a1, a2, a3, a4, a5]; simp
    subst hq
    clear HQ HK HR
    go_enter Tryz.func57, Tryz.ntmps57
    go_wp2
    go_ret
    exact ⟨rfl, HO.out.below⟩
  | true =>
  cases q1 with
  | false =>
    have hq : q = false := by rw [← HQ.out]; simp
    subst hq
    clear HQ HK
    go_enter Tryz.func57, Tryz.ntmps57
    go_wp2_with (go_at_call 52; refine HR.out.mono ?_; rintro e w2 ⟨rfl, hb⟩)
    go_ret
    exact ⟨rfl, (HO.out.step hb).below⟩
  | true =>
    have hq : q = q2 := by rw [← HQ.out, a0, a1, a2, a3, a4, a5]; simp
    subst hq
    clear HQ
    go_enter Tryz.func57, Tryz.ntmps57
    go_wp2_with fail
    refine HR.out.mono ?_
    rintro e w2 ⟨rfl, hb⟩
    have HK2 := Lib.hid (HK.out w2 hb)
    have HO2 := Lib.hid (HO.out.step hb)
    have c3 := HO2.out.c3
    clear hb HK HR HO
    go_wp2_with (go_at_call 111; refine HK2.out.mono ?_; rintro e w3 ⟨rfl, hb3⟩)
    go_ret
    exact ⟨rfl, (HO2.out.step hb3).below⟩

set_option maxRecDepth 100000 in
set_option maxHeartbeats 4000000 in
theorem isCommit24 (ok : Int) (label : ByteArray) (rows : List Row) (kids : List Kd) (parents : List ByteArray) (stamp : Int) (note root : ByteArray) (r k p : Value) (w : World) (h : ObAt w r k p ⟨ok, label, rows, kids, parents, stamp, note, root⟩) :
    Calls Tryz.prog 58 #[.agg #[.int .i64 ok, .string label, r, k, p, .int .i64 stamp, .string note, .string root]] w fun e w' => e = .returned (.bool (commitOK ⟨ok, label, rows, kids, parents, stamp, note, root⟩)) ∧ Below w.heap.size w w' := by
  obtain ⟨q, hq⟩ : ∃ q, commitOK ⟨ok, label, rows, kids, parents, stamp, note, root⟩ = q := ⟨_, rfl⟩
  rw [hq]
  have HQ : Hid (((ok == 2) && ((label.toList.isEmpty && (((rows.length : Int) == 0) && ((kids.length : Int) == 0))) && (parentsOK parents && (L2.isTimeB stamp && (decide ((note.size : Int) ≤ 40) && isIdB root))))) = q) := hq
  clear hq
  have HO := Lib.hid (Obj1.start w ⟨ok, label, rows, kids, parents, stamp, note, root⟩ r k p)
  have h' := h.step HO.out.below
  have HP := Lib.hid (areParents47 parents p (w.alloc (.cells #[.int .i64 ok, .string label, r, k, p, .int .i64 stamp, .string note, .string root] 27)) h'.parents)
  have HT := Lib.hid (isTime48 stamp)
  have HI := Lib.hid (isId49 root)
  obtain ⟨A, cap, hp, -, -, -⟩ := h.rows
  obtain ⟨A2, cap2, hp2, -, -, -⟩ := h.kids
  simp only at hp hp2
  subst hp hp2
  clear h h'
  generalize parentsOK parents = q1 at HP HQ
  generalize L2.isTimeB stamp = q2 at HT HQ
  generalize isIdB root = q3 at HI HQ
  cases a0 : label.toList.isEmpty with
  | false =>
    have hq : q = false := by rw [← HQ.out, a0]; simp
    subst hq
    clear HQ HP HT HI
    cases a1 : (ok == 2) <;> (go_enter Tryz.func58, Tryz.ntmps58; go_wp2; go_ret; exact ⟨rfl, HO.out.below⟩)
  | true =>
  cases a2 : ((rows.length : Int) == 0) with
  | false =>
    have hq : q = false := by rw [← HQ.out, a0, a2]; simp
    subst hq
    clear HQ HP HT HI
    cases a1 : (ok == 2) <;> (go_enter Tryz.func58, Tryz.ntmps58; go_wp2; go_ret; exact ⟨rfl, HO.out.below⟩)
  | true =>
  cases a3 : ((kids.length : Int) == 0) with
  | false =>
    have hq : q = false := by rw [← HQ.out, a0, a2, a3]; simp
    subst hq
    clear HQ HP HT HI
    cases a1 : (ok == 2) <;> (go_enter Tryz.func58, Tryz.ntmps58; go_wp2; go_ret; exact ⟨rfl, HO.out.below⟩)
  | true =>
  cases a1 : (ok == 2) with
  | false =>
    have hq : q = false := by rw [← HQ.out, a1]; simp
    subst hq
    clear HQ HP HT HI
    go_enter Tryz.func58, Tryz.ntmps58
    go_wp2
    go_ret
    exact ⟨rfl, HO.out.below⟩
  | true =>
  cases q1 with
  | false =>
    have hq : q = false := by rw [← HQ.out]; simp
    subst hq
    clear HQ HT HI
    go_enter Tryz.func58, Tryz.ntmps58
    go_wp2_with (go_at_call 112; refine HP.out.mono ?_; rintro e w2 ⟨rfl, rfl⟩)
    go_ret
    exact ⟨rfl, HO.out.below⟩
  | true =>
  cases q2 with
  | false =>
    have hq : q = false := by rw [← HQ.out]; simp
    subst hq
    clear HQ HI
    go_enter Tryz.func58, Tryz.ntmps58
    go_wp2_with (first | (go_at_call 112; refine HP.out.mono ?_; rintro e w2 ⟨rfl, rfl⟩) | (go_at_call 113; refine (HT.out _).mono ?_; rintro e w2 ⟨rfl, rfl⟩))
    go_ret
    exact ⟨rfl, HO.out.below⟩
  | true =>
  cases a5 : decide ((note.size : Int) ≤ 40) with
  | false =>
    have hq : q = false := by rw [← HQ.out, a5]; simp
    subst hq
    clear HQ HI
    go_enter Tryz.func58, Tryz.ntmps58
    go_wp2_with (first | (go_at_call 112; refine HP.out.mono ?_; rintro e w2 ⟨rfl, rfl⟩) | (go_at_call 113; refine (HT.out _).mono ?_; rintro e w2 ⟨rfl, rfl⟩))
    go_ret
    exact ⟨rfl, HO.out.below⟩
  | true =>
    have hq : q = q3 := by rw [← HQ.out, a0, a1, a2, a3, a5]; simp
    subst hq
    clear HQ
    go_enter Tryz.func58, Tryz.ntmps58
    go_wp2_with (first | (go_at_call 112; refine HP.out.mono ?_; rintro e w2 ⟨rfl, rfl⟩) | (go_at_call 113; refine (HT.out _).mono ?_; rintro e w2 ⟨rfl, rfl⟩) | (go_at_call 114; refine (HI.out _).mono ?_; rintro e w2 ⟨rfl, rfl⟩))
    go_ret
    exact ⟨rfl, HO.out.below⟩

set_option maxRecDepth 100000 in
set_option maxHeartbeats 1000000 in
theorem check12 (ok : Int) (label : ByteArray) (rows : List Row) (kids : List Kd) (parents : List ByteArray) (stamp : Int) (note root : ByteArray) (r k p : Value) (w : World) (h : ObAt w r k p ⟨ok, label, rows, kids, parents, stamp, note, root⟩) :
    Calls Tryz.prog 18 #[.agg #[.int .i64 ok, .string label, r, k, p, .int .i64 stamp, .string note, .string root]] w fun e w' => e = .returned (.int .i64 (if objOK ⟨ok, label, rows, kids, parents, stamp, note, root⟩ then 0 else 2)) ∧ Below w.heap.size w w' := by
  have HO := Lib.hid (Obj1.start w ⟨ok, label, rows, kids, parents, stamp, note, root⟩ r k p)
  have h' := h.step HO.out.below
  have HN := Lib.hid (isNode23 ok label rows kids parents stamp note root r k p _ h')
  have HC := Lib.hid fun w2 hb => isCommit24 ok label rows kids parents stamp note root r k p w2 (h'.step hb)
  unfold objOK
  generalize nodeOK ⟨ok, label, rows, kids, parents, stamp, note, root⟩ = q1 at HN ⊢
  generalize commitOK ⟨ok, label, rows, kids, parents, stamp, note, root⟩ = q2 at HC ⊢
  clear h h'
  cases q1 with
  | true =>
    clear HC
    show Calls _ _ _ _ fun e w' => e = .returned (.int .i64 0) ∧ _
    go_enter Tryz.func18, Tryz.ntmps18
    go_wp2_with (go_at_call 57; refine HN.out.mono ?_; rintro e w2 ⟨rfl, hb⟩)
    go_ret
    exact ⟨rfl, (HO.out.step hb).below⟩
  | false =>
    rw [Bool.false_or]
    obtain ⟨a, ha⟩ : ∃ a : Int, (if q2 then (0 : Int) else 2) = a := ⟨_, rfl⟩
    rw [ha]
    have HA := Lib.hid ha
    clear ha
    go_enter Tryz.func18, Tryz.ntmps18
    go_wp2_with fail
    refine HN.out.mono ?_
    rintro e w2 ⟨rfl, hb⟩
    have HC2 := Lib.hid (HC.out w2 hb)
    have HO2 := Lib.hid (HO.out.step hb)
    obtain ⟨c0, c1, c2, c3, c4, c5, c6, c7, -, -⟩ := HO2.out
    clear hb HC HN HO
    simp only at c0 c1 c5 c6 c7
    go_wp2_with fail
    refine HC2.out.mono ?_
    rintro e w3 ⟨rfl, hb3⟩
    have HO3 := Lib.hid (HO2.out.step hb3)
    clear hb3 c0 c1 c2 c3 c4 c5 c6 c7 HO2 HC2
    cases q2 with
    | true =>
      have ha : a = 0 := HA.out.symm
      subst ha
      go_wp2
      go_ret
      exact ⟨rfl, HO3.out.below⟩
    | false =>
      have ha : a = 2 := HA.out.symm
      subst ha
      go_wp2
      go_ret
      exact ⟨rfl, HO3.out.below⟩
end Go.Proofs.YtjanddnlhaionaaGreatDoor
