/-
  The contract of objectCell. No condition but that numbers are ints, and that there are few rows, kids and parents. Objects and cells, plain: the cell of a right object is right, is read as the object, and nothing else is. No condition. Objects and cells, plain: the round trip. No condition. The contract of readKid. No condition. The contract of readRow. No condition. Rows of rows, kids and strings that grow: for readList. No condition.
-/
import Derived.Test.YtjanddnlhaionaaGreatDoorOx1
import Derived.Test.YtjanddnlhaionaaGreatDoorOx0
import Derived.Test.YtjanddnlhaionaaGreatDoorL2x1
set_option maxRecDepth 100000
namespace Go.Proofs.YtjanddnlhaionaaGreatDoor
open Go.RowKit
open L4 (C LIn LNF Unf Wf rcells rowC)
open L2 (Row Vl RowsAt rowsOK valOK)

structure OB (w : World) (o : Ob) (r k p : Value) (W : World) : Prop where
  c0 : W.cell? ⟨w.heap.size, 0, none⟩ = some (.int .i64 o.k)
  c1 : W.cell? ⟨w.heap.size, 1, none⟩ = some (.string o.label)
  c2 : W.cell? ⟨w.heap.size, 2, none⟩ = some r
  c3 : W.cell? ⟨w.heap.size, 3, none⟩ = some k
  c4 : W.cell? ⟨w.heap.size, 4, none⟩ = some p
  c5 : W.cell? ⟨w.heap.size, 5, none⟩ = some (.int .i64 o.stamp)
  c6 : W.cell? ⟨w.heap.size, 6, none⟩ = some (.string o.note)
  c7 : W.cell? ⟨w.heap.size, 7, none⟩ = some (.string o.root)
  below : Below w.heap.size w W
  lt : w.heap.size + 2 ≤ W.heap.size
  res : ∃ a b c d, W.heap[w.heap.size + 1]? = some (.cells #[a, b, c, d] 38 (0, 0))
theorem OB.start (w : World) (o : Ob) (r k p : Value) : OB w o r k p ((w.alloc (.cells (obVs o r k p) 27)).alloc (.cells #[.int .i64 0, .int .i64 0, .string ⟨#[]⟩, .slice none 0 0] 38)) := by
  have hb : Below w.heap.size w ((w.alloc (.cells (obVs o r k p) 27)).alloc (.cells #[.int .i64 0, .int .i64 0, .string ⟨#[]⟩, .slice none 0 0] 38)) := ((Below.refl _ w).alloc (Nat.le_refl _) _).alloc (by simp) _
  exact ⟨by simp [obVs, go_sem], by simp [obVs, go_sem], by simp [obVs, go_sem], by simp [obVs, go_sem], by simp [obVs, go_sem], by simp [obVs, go_sem], by simp [obVs, go_sem], by simp [obVs, go_sem], hb, by simp, ⟨_, _, _, _, by have := heap_alloc_new (w.alloc (.cells (obVs o r k p) 27)) (.cells #[.int .i64 0, .int .i64 0, .string ⟨#[]⟩, .slice none 0 0] 38); simpa using this⟩⟩
theorem OB.step {w : World} {o : Ob} {r k p : Value} {W W' : World} (h : OB w o r k p W) (hb : Below W.heap.size W W') : OB w o r k p W' := by
  have hl := h.lt
  obtain ⟨a, b, c, d, hr⟩ := h.res
  have hq : ∀ j, W'.cell? ⟨w.heap.size, j, none⟩ = W.cell? ⟨w.heap.size, j, none⟩ := fun j => hb.cell (p := ⟨w.heap.size, j, none⟩) (show w.heap.size < _ by omega)
  exact ⟨(hq _).trans h.c0, (hq _).trans h.c1, (hq _).trans h.c2, (hq _).trans h.c3, (hq _).trans h.c4, (hq _).trans h.c5, (hq _).trans h.c6, (hq _).trans h.c7, h.below.trans (hb.mono (by omega)), Nat.le_trans h.lt hb.size, ⟨a, b, c, d, (hb.block _ (by omega)).trans hr⟩⟩

/-- .. and the cell of the kind, in a block T. -/
structure OT (w : World) (o : Ob) (r k p : Value) (T : Nat) (W : World) : Prop where
  ob : OB w o r k p W
  row : W.heap[T]? = some (.cells #[.int .i64 1, .int .i64 o.k, .string ⟨#[]⟩, .slice none 0 0] 38 (0, 0))
  tl : w.heap.size + 1 < T
theorem OT.step {w : World} {o : Ob} {r k p : Value} {T : Nat} {W W' : World} (h : OT w o r k p T W) (hb : Below W.heap.size W W') : OT w o r k p T W' :=
  ⟨h.ob.step hb, (hb.block T (Array.getElem?_eq_some_iff.1 h.row).1).trans h.row, h.tl⟩
theorem OT.start {w : World} {o : Ob} {r k p : Value} {W : World} (h : OB w o r k p W) : OT w o r k p W.heap.size (W.alloc (.cells #[.int .i64 1, .int .i64 o.k, .string ⟨#[]⟩, .slice none 0 0] 38)) :=
  ⟨h.step ((Below.refl _ _).alloc (Nat.le_refl _) _), heap_alloc_new _ _, by have := h.lt; omega⟩
theorem OT.lt {w : World} {o : Ob} {r k p : Value} {T : Nat} {W : World} (h : OT w o r k p T W) : w.heap.size + 2 ≤ W.heap.size := h.ob.lt
theorem OB.drew {w : World} {o : Ob} {r k p : Value} {W : World} (h : OB w o r k p W) : OB w o r k p W.drew :=
  ⟨h.c0, h.c1, h.c2, h.c3, h.c4, h.c5, h.c6, h.c7, h.below.drew, h.lt, h.res⟩
theorem OT.drew {w : World} {o : Ob} {r k p : Value} {T : Nat} {W : World} (h : OT w o r k p T W) : OT w o r k p T W.drew := ⟨h.ob.drew, h.row, h.tl⟩
theorem OT.put {w : World} {o : Ob} {r k p : Value} {T : Nat} {W : World} (h : OT w o r k p T W) (v0 v1 v2 v3 : Value) : OT w o r k p T ((((W.setCell ⟨w.heap.size + 1, 0, none⟩ v0).setCell ⟨w.heap.size + 1, 1, none⟩ v1).setCell ⟨w.heap.size + 1, 2, none⟩ v2).setCell ⟨w.heap.size + 1, 3, none⟩ v3) := by
  have ht := h.tl
  obtain ⟨a, b, c, d, hr⟩ := h.ob.res
  have e := h.ob
  have q1 := fun j => L4.cell_same (set4_other W (w.heap.size + 1) w.heap.size v0 v1 v2 v3 (by omega)) j
  have q2 := set4_other W (w.heap.size + 1) T v0 v1 v2 v3 (by omega)
  exact ⟨⟨(q1 _).trans e.c0, (q1 _).trans e.c1, (q1 _).trans e.c2, (q1 _).trans e.c3, (q1 _).trans e.c4, (q1 _).trans e.c5, (q1 _).trans e.c6, (q1 _).trans e.c7, e.below.trans ⟨rfl, rfl, rfl, by rw [set4_size]; exact Nat.le_refl _, fun k hk => set4_other _ _ _ _ _ _ _ (by omega)⟩, by rw [set4_size]; exact e.lt, ⟨v0, v1, v2, v3, set4 _ _ _ _ _ _ _ _ _ _ hr⟩⟩, q2.trans h.row, ht⟩
/-- The cells that the last statement of objectCell loads. -/
theorem OT.s1 {w : World} {o : Ob} {r k p : Value} {T : Nat} {W : World} (h : OT w o r k p T W) : W.cell? ⟨T, 0, none⟩ = some (.int .i64 1) ∧ W.cell? ⟨T, 1, none⟩ = some (.int .i64 o.k) ∧ W.cell? ⟨T, 2, none⟩ = some (.string ⟨#[]⟩) ∧ W.cell? ⟨T, 3, none⟩ = some (.slice none 0 0) ∧ W.cell? ⟨w.heap.size, 1, none⟩ = some (.string o.label) ∧ W.cell? ⟨w.heap.size, 2, none⟩ = some r ∧ W.cell? ⟨w.heap.size, 3, none⟩ = some k ∧ OT w o r k p T W :=
  ⟨cell_of_row W T 0 _ 38 (0, 0) h.row, cell_of_row W T 1 _ 38 (0, 0) h.row, cell_of_row W T 2 _ 38 (0, 0) h.row, cell_of_row W T 3 _ 38 (0, 0) h.row, h.ob.c1, h.ob.c2, h.ob.c3, h⟩
theorem OT.s2 {w : World} {o : Ob} {r k p : Value} {T : Nat} {W : World} (h : OT w o r k p T W) : W.cell? ⟨T, 0, none⟩ = some (.int .i64 1) ∧ W.cell? ⟨T, 1, none⟩ = some (.int .i64 o.k) ∧ W.cell? ⟨T, 2, none⟩ = some (.string ⟨#[]⟩) ∧ W.cell? ⟨T, 3, none⟩ = some (.slice none 0 0) ∧ W.cell? ⟨w.heap.size, 4, none⟩ = some p ∧ W.cell? ⟨w.heap.size, 5, none⟩ = some (.int .i64 o.stamp) ∧ W.cell? ⟨w.heap.size, 6, none⟩ = some (.string o.note) ∧ W.cell? ⟨w.heap.size, 7, none⟩ = some (.string o.root) ∧ OT w o r k p T W :=
  ⟨cell_of_row W T 0 _ 38 (0, 0) h.row, cell_of_row W T 1 _ 38 (0, 0) h.row, cell_of_row W T 2 _ 38 (0, 0) h.row, cell_of_row W T 3 _ 38 (0, 0) h.row, h.ob.c4, h.ob.c5, h.ob.c6, h.ob.c7, h⟩

theorem wf_list (l : List C) : Wf (listC l) :=
  ⟨by show (-9223372036854775808 : Int) ≤ 3; omega, by show (3 : Int) ≤ _; omega, by show (-9223372036854775808 : Int) ≤ 0; omega, by show (0 : Int) ≤ _; omega, by show (0 : Nat) ≤ _; omega⟩
theorem node_built (kd : Int) (label : ByteArray) (l1 l2 : List C) (W : World) (lo : Nat) (A1 A2 : Option Addr) (n1 n2 c1 c2 D1 D2 : Nat) (hlo : lo ≤ W.heap.size) (h0 : -9223372036854775808 ≤ kd) (h1 : kd ≤ 9223372036854775807) (hs : label.size ≤ 9223372036854775807)
    (hr : LNF lo W W.heap.size D1 (.slice A1 n1 c1) l1) (hk : LNF lo W W.heap.size D2 (.slice A2 n2 c2) l2) :
    LNF lo (W.alloc (.cells #[.int .i64 1, .int .i64 kd, .string ⟨#[]⟩, .slice none 0 0, .int .i64 2, .int .i64 0, .string label, .slice none 0 0, .int .i64 3, .int .i64 0, .string ⟨#[]⟩, .slice A1 n1 c1, .int .i64 3, .int .i64 0, .string ⟨#[]⟩, .slice A2 n2 c2] 38)) (W.alloc (.cells #[.int .i64 1, .int .i64 kd, .string ⟨#[]⟩, .slice none 0 0, .int .i64 2, .int .i64 0, .string label, .slice none 0 0, .int .i64 3, .int .i64 0, .string ⟨#[]⟩, .slice A1 n1 c1, .int .i64 3, .int .i64 0, .string ⟨#[]⟩, .slice A2 n2 c2] 38)).heap.size (1 + D1 + D2 + 1) (.slice (some ⟨W.heap.size, 0, none⟩) 4 4) [numC kd, textC label, listC l1, listC l2] :=
  lnf_built hlo [(numC kd, .slice none 0 0), (textC label, .slice none 0 0), (listC l1, .slice A1 n1 c1), (listC l2, .slice A2 n2 c2)] (1 + D1 + D2) (fun x hx => by
    simp only [List.mem_cons, List.not_mem_nil, or_false] at hx
    rcases hx with rfl | rfl | rfl | rfl
    · exact ⟨wf_num h0 h1, lnf_up (lnf_nil _ _ _ 0) (by omega)⟩
    · exact ⟨wf_text hs, lnf_up (lnf_nil _ _ _ 0) (by omega)⟩
    · exact ⟨wf_list _, lnf_up hr (by omega)⟩
    · exact ⟨wf_list _, lnf_up hk (by omega)⟩) (by simp)
theorem commit_built (kd st : Int) (note root : ByteArray) (l1 : List C) (W : World) (lo : Nat) (A1 : Option Addr) (n1 c1 D1 : Nat) (hlo : lo ≤ W.heap.size) (h0 : -9223372036854775808 ≤ kd) (h1 : kd ≤ 9223372036854775807) (h2 : -9223372036854775808 ≤ st) (h3 : st ≤ 9223372036854775807) (hs : note.size ≤ 9223372036854775807) (hs2 : root.size ≤ 9223372036854775807)
    (hr : LNF lo W W.heap.size D1 (.slice A1 n1 c1) l1) :
    LNF lo (W.alloc (.cells #[.int .i64 1, .int .i64 kd, .string ⟨#[]⟩, .slice none 0 0, .int .i64 3, .int .i64 0, .string ⟨#[]⟩, .slice A1 n1 c1, .int .i64 1, .int .i64 st, .string ⟨#[]⟩, .slice none 0 0, .int .i64 2, .int .i64 0, .string note, .slice none 0 0, .int .i64 2, .int .i64 0, .string root, .slice none 0 0] 38)) (W.alloc (.cells #[.int .i64 1, .int .i64 kd, .string ⟨#[]⟩, .slice none 0 0, .int .i64 3, .int .i64 0, .string ⟨#[]⟩, .slice A1 n1 c1, .int .i64 1, .int .i64 st, .string ⟨#[]⟩, .slice none 0 0, .int .i64 2, .int .i64 0, .string note, .slice none 0 0, .int .i64 2, .int .i64 0, .string root, .slice none 0 0] 38)).heap.size (1 + D1 + 1) (.slice (some ⟨W.heap.size, 0, none⟩) 5 5) [numC kd, listC l1, numC st, textC note, textC root] :=
  lnf_built hlo [(numC kd, .slice none 0 0), (listC l1, .slice A1 n1 c1), (numC st, .slice none 0 0), (textC note, .slice none 0 0), (textC root, .slice none 0 0)] (1 + D1) (fun x hx => by
    simp only [List.mem_cons, List.not_mem_nil, or_false] at hx
    rcases hx with rfl | rfl | rfl | rfl | rfl
    · exact ⟨wf_num h0 h1, lnf_up (lnf_nil _ _ _ 0) (by omega)⟩
    · exact ⟨wf_list _, lnf_up hr (by omega)⟩
    · exact ⟨wf_num h2 h3, lnf_up (lnf_nil _ _ _ 0) (by omega)⟩
    · exact ⟨wf_text hs, lnf_up (lnf_nil _ _ _ 0) (by omega)⟩
    · exact ⟨wf_text hs2, lnf_up (lnf_nil _ _ _ 0) (by omega)⟩) (by simp)

/-- An object whose lists are few, and whose numbers and strings are in bounds. -/
structure ObW (o : Ob) : Prop where
  rows : ∀ r ∈ o.rows, RowW r
  kids : ∀ k ∈ o.kids, k.id.size ≤ 9223372036854775807
  parents : ∀ s ∈ o.parents, s.size ≤ 9223372036854775807
  label : o.label.size ≤ 9223372036854775807
  note : o.note.size ≤ 9223372036854775807
  root : o.root.size ≤ 9223372036854775807
  nr : o.rows.length ≤ 500
  nk : o.kids.length ≤ 500
  np : o.parents.length ≤ 500

set_option maxHeartbeats 4000000 in
theorem objectCell17_node (kd : Int) (label : ByteArray) (rows : List Row) (kids : List Kd) (parents : List ByteArray) (stamp : Int) (note root : ByteArray) (r k p : Value) (w : World) (h : ObAt w r k p ⟨kd, label, rows, kids, parents, stamp, note, root⟩) (hw : ObW ⟨kd, label, rows, kids, parents, stamp, note, root⟩) (hk : (kd == 1) = true) :
    Calls Tryz.prog 46 #[.agg #[.int .i64 kd, .string label, r, k, p, .int .i64 stamp, .string note, .string root]] w (ListOf w [numC kd, textC label, rowsCl rows, kidsCl kids]) := by
  have hk1 : kd = 1 := by simpa using hk
  have HOB := Lib.hid (OB.start w ⟨kd, label, rows, kids, parents, stamp, note, root⟩ r k p)
  unfold obVs at HOB
  simp only at HOB
  have HH := Lib.hid h
  have HRC : Hid (∀ W, Below w.heap.size w W → Calls Tryz.prog 53 #[r, .func (.func 54) #[] #[]] W (ListOf W (rows.map rowCl))) := fun W hb => listCell26 rows r W (h.step hb).rows (by have := hw.nr; simp only at this; omega) hw.rows
  have HKC : Hid (∀ W, Below w.heap.size w W → Calls Tryz.prog 91 #[k, .func (.func 92) #[] #[]] W (ListOf W (kids.map kidCl))) := fun W hb => listCell36 kids k W (h.step hb).kids (by have := hw.nk; simp only at this; omega) hw.kids
  have HBU : Hid (∀ (W : World) (lo : Nat) (A1 A2 : Option Addr) (n1 n2 c1 c2 D1 D2 : Nat), lo ≤ W.heap.size → LNF lo W W.heap.size D1 (.slice A1 n1 c1) (rows.map rowCl) → LNF lo W W.heap.size D2 (.slice A2 n2 c2) (kids.map kidCl) → _) := fun W lo A1 A2 n1 n2 c1 c2 D1 D2 hlo hr hk => node_built kd label _ _ W lo A1 A2 n1 n2 c1 c2 D1 D2 hlo (by omega) (by omega) hw.label hr hk
  have HCN : Hid (L4.cntL [numC kd, textC label, listC (rows.map rowCl), listC (kids.map kidCl)] ≤ 5000) := by
    unfold Hid
    have h1 := cntL_const rowCl 4 cnt_row rows
    have h2 := cntL_const kidCl 3 cnt_kid kids
    have h3 := hw.nr
    have h4 := hw.nk
    simp only at h3 h4
    simp only [L4.cntL_cons, L4.cntL_nil, numC, textC, listC, L4.cntC_mk]
    omega
  obtain ⟨A, ca, hr, -, -, -⟩ := h.rows
  obtain ⟨A2, ca2, hkv, -, -, -⟩ := h.kids
  simp only at hr hkv
  subst hr hkv
  clear h hw hk1
  go_enter Tryz.func46, Tryz.ntmps46
  go_wp2_with fail
  refine (L4.num16 _ _).mono ?_
  rintro _ w1 ⟨rfl, hb1⟩
  have HO1 := Lib.hid (HOB.out.step hb1)
  have HT1 := Lib.hid (OT.start HO1.out)
  simp only at HT1
  have d0 := HO1.out.c0
  have d0' := HT1.out.ob.c0
  clear HOB hb1 HO1
  go_wp2_with fail
  clear d0 d0'
  go_region_held3 (fun W => W.cell? ⟨w1.heap.size, 0, none⟩ = some (.int .i64 1) ∧ W.cell? ⟨w1.heap.size, 1, none⟩ = some (.int .i64 kd) ∧ W.cell? ⟨w1.heap.size, 2, none⟩ = some (.string ⟨#[]⟩) ∧ W.cell? ⟨w1.heap.size, 3, none⟩ = some (.slice none 0 0) ∧ W.cell? ⟨w.heap.size, 1, none⟩ = some (.string label) ∧ W.cell? ⟨w.heap.size, 2, none⟩ = some (.slice A rows.length ca) ∧ W.cell? ⟨w.heap.size, 3, none⟩ = some (.slice A2 kids.length ca2) ∧ OT w ⟨kd, label, rows, kids, parents, stamp, note, root⟩ (.slice A rows.length ca) (.slice A2 kids.length ca2) p w1.heap.size W)
    ((refine OT.s1 (o := ⟨kd, label, rows, kids, parents, stamp, note, root⟩) ?_; first | exact HT1.out.drew | exact OT.put (by go_split_ands; assumption) _ _ _ _ | exact OT.step (by go_split_ands; assumption) (by assumption) | exact OT.step (by go_split_ands; assumption) ((Below.refl _ _).alloc (Nat.le_refl _) _))) (first | (go_at_call 90; refine (L4.text17 _ _).mono ?_; rintro _ w2 ⟨rfl, hb⟩) | (go_at_call 53; refine (HRC.out _ (OB.below (OT.ob (by go_split_ands; assumption)))).mono ?_; rintro _ w3 ⟨B1, n1, c1, D1, rfl, hl1, hb⟩; have HL1 := Lib.hid (lnf_lo (lo' := w.heap.size + 2) (OT.lt (by go_split_ands; assumption)) hl1); clear hl1) | (go_at_call 91; refine (HKC.out _ (OB.below (OT.ob (by go_split_ands; assumption)))).mono ?_; rintro _ w5 ⟨B2, n2, c2, D2, rfl, hl2, hb⟩; have HL3 := Lib.hid (lnf_step HL1.out hb); have HL2 := Lib.hid (lnf_lo (lo' := w.heap.size + 2) (OT.lt (by go_split_ands; assumption)) hl2); have hz5 := Lib.hid (OT.lt (OT.step (by go_split_ands; assumption) hb)); clear hl2) | (go_at_call 89; refine (L4.list18 (lo := w.heap.size + 2) _ _ _ _ (HBU.out _ _ _ _ _ _ _ _ _ _ hz5.out HL3.out HL2.out) HCN.out (OT.lt (by go_split_ands; assumption))).mono ?_; rintro _ w6 ⟨B3, m, cap, D, rfl, hl, hb⟩; have HL := Lib.hid hl; clear hl; obtain ⟨a, b, c, d, hr⟩ := OB.res (OT.ob (OT.step (by go_split_ands; assumption) hb)); obtain ⟨z0, z1, z2, z3, z4, z5, z6, z7⟩ := row_facts hr; have HR := Lib.hid hr; have HKB := Lib.hid (OB.below (OT.ob (OT.step (by go_split_ands; assumption) hb))); clear hr))
  have HSS := Lib.hid (L4.size_four 3 0 ⟨#[]⟩ B3 m cap)
  go_wp2
  refine bodyPost_ret (results_cell_row (p := 2) (ty := 38) rfl _ _ (w.heap.size + 1) 38 #[.int .i64 3, .int .i64 0, .string ⟨#[]⟩, .slice B3 m cap] (0, 0) _ ?hp (set4 _ _ _ _ _ _ _ _ _ _ HR.out) Tryz.underlying38 rfl (by exact HSS.out)) rfl ?_
  case hp => rfl
  exact ListOf.put (by omega) HL.out HKB.out
end Go.Proofs.YtjanddnlhaionaaGreatDoor
namespace Go.Proofs.YtjanddnlhaionaaGreatDoor
open Go.RowKit
open L4 (C okC encC Fit bytesF)
open L2 (Row Vl rowsOK valOK rowOK okFrom)

theorem empty_of {s : ByteArray} (h : s.toList.isEmpty = true) : s = ⟨#[]⟩ := L4.toList_empty h

theorem empty_list : (⟨#[]⟩ : ByteArray).toList.isEmpty = true := by rw [ByteArray.toList_eq]; rfl
theorem vC_num (n : Int) (s : ByteArray) : vC (1, n, s) = numC n := if_neg (show ¬ ((1 : Int) = 2) by decide)
theorem vC_text (n : Int) (s : ByteArray) : vC (2, n, s) = textC s := if_pos rfl
/-! The shape of a cell. -/
theorem shOf_mk (k n : Int) (s : ByteArray) (l : List C) : shOf (.mk k n s l) = if k = 1 ∧ s.toList.isEmpty = true ∧ l.length = 0 then .num n else if k = 2 ∧ n = 0 ∧ l.length = 0 then .text s else if k = 3 ∧ n = 0 ∧ s.toList.isEmpty = true then .list l else .none := rfl
theorem sh_num {c : C} {n : Int} : shOf c = .num n ↔ c = numC n := by
  obtain ⟨k, m, s, l⟩ := c
  constructor
  · intro h
    rw [shOf_mk] at h
    by_cases h1 : k = 1 ∧ s.toList.isEmpty = true ∧ l.length = 0
    · rw [if_pos h1] at h
      injection h with h
      obtain ⟨rfl, h2, h3⟩ := h1
      rw [empty_of h2, List.length_eq_zero_iff.1 h3, h]; rfl
    · rw [if_neg h1] at h
      by_cases h2 : k = 2 ∧ m = 0 ∧ l.length = 0
      · rw [if_pos h2] at h; cases h
      · rw [if_neg h2] at h
        by_cases h3 : k = 3 ∧ m = 0 ∧ s.toList.isEmpty = true
        · rw [if_pos h3] at h; cases h
        · rw [if_neg h3] at h; cases h
  · intro h
    rw [h]
    unfold numC
    rw [shOf_mk]
    rw [if_pos ⟨rfl, empty_list, rfl⟩]
theorem sh_text {c : C} {t : ByteArray} : shOf c = .text t ↔ c = textC t := by
  obtain ⟨k, m, s, l⟩ := c
  constructor
  · intro h
    rw [shOf_mk] at h
    by_cases h1 : k = 1 ∧ s.toList.isEmpty = true ∧ l.length = 0
    · rw [if_pos h1] at h; cases h
    · rw [if_neg h1] at h
      by_cases h2 : k = 2 ∧ m = 0 ∧ l.length = 0
      · rw [if_pos h2] at h
        injection h with h
        obtain ⟨rfl, rfl, h3⟩ := h2
        rw [List.length_eq_zero_iff.1 h3, h]; rfl
      · rw [if_neg h2] at h
        by_cases h3 : k = 3 ∧ m = 0 ∧ s.toList.isEmpty = true
        · rw [if_pos h3] at h; cases h
        · rw [if_neg h3] at h; cases h
  · intro h
    rw [h]
    unfold textC
    rw [shOf_mk]
    rw [if_neg (by intro h; exact absurd h.1 (by decide)), if_pos ⟨rfl, rfl, rfl⟩]
theorem sh_list {c : C} {x : List C} : shOf c = .list x ↔ c = listC x := by
  obtain ⟨k, m, s, l⟩ := c
  constructor
  · intro h
    rw [shOf_mk] at h
    by_cases h1 : k = 1 ∧ s.toList.isEmpty = true ∧ l.length = 0
    · rw [if_pos h1] at h; cases h
    · rw [if_neg h1] at h
      by_cases h2 : k = 2 ∧ m = 0 ∧ l.length = 0
      · rw [if_pos h2] at h; cases h
      · rw [if_neg h2] at h
        by_cases h3 : k = 3 ∧ m = 0 ∧ s.toList.isEmpty = true
        · rw [if_pos h3] at h
          injection h with h
          obtain ⟨rfl, rfl, h4⟩ := h3
          rw [empty_of h4, h]; rfl
        · rw [if_neg h3] at h; cases h
  · intro h
    rw [h]
    unfold listC
    rw [shOf_mk]
    rw [if_neg (by intro h; exact absurd h.1 (by decide)), if_neg (by intro h; exact absurd h.1 (by decide)), if_pos ⟨rfl, rfl, empty_list⟩]
theorem sh_n (n : Int) : shOf (numC n) = .num n := sh_num.2 rfl
theorem sh_t (s : ByteArray) : shOf (textC s) = .text s := sh_text.2 rfl
theorem sh_l (l : List C) : shOf (listC l) = .list l := sh_list.2 rfl
theorem numM_some {sh : Sh} {n : Int} : numM sh = .some n ↔ sh = .num n := by cases sh <;> simp [numM]
theorem txtM_some {sh : Sh} {s : ByteArray} : txtM sh = .some s ↔ sh = .text s := by cases sh <;> simp [txtM]
theorem fields_of {l : List C} {n : Nat} (hl : l.length = n) (h : (l.map shOf).all Sh.some = true) : fieldsM (listC l) n = .some (l.map shOf) := by
  unfold fieldsM; rw [sh_l]; simp only; rw [if_pos ⟨hl, h⟩]
theorem fields_some {c : C} {n : Nat} {L : List Sh} (h : fieldsM c n = .some L) : ∃ l, c = listC l ∧ L = l.map shOf ∧ l.length = n ∧ L.all Sh.some = true := by
  unfold fieldsM at h
  cases hs : shOf c with
  | list l =>
    rw [hs] at h
    simp only at h
    by_cases h2 : l.length = n ∧ (l.map shOf).all Sh.some = true
    · rw [if_pos h2] at h
      injection h with h
      exact ⟨l, sh_list.1 hs, h.symm, h2.1, h ▸ h2.2⟩
    · rw [if_neg h2] at h; cases h
  | _ => rw [hs] at h; cases h

/-! Rows. -/
theorem val_k {v : Vl} (h : valOK v = true) : (v.1 = 1 ∧ v.2.2 = ⟨#[]⟩) ∨ (v.1 = 2 ∧ v.2.1 = 0 ∧ v.2.2.size ≤ 40) := by
  unfold valOK L2.validV at h
  simp only [Bool.or_eq_true, Bool.and_eq_true, beq_iff_eq, decide_eq_true_eq] at h
  rcases h with ⟨h1, h2⟩ | ⟨h1, h2, h3, _⟩
  · exact .inl ⟨h1, empty_of h2⟩
  · exact .inr ⟨h1, h2, by omega⟩
theorem row_read {r : Row} (h : valOK r.2.2 = true) : rowM (rowCl r) = .some r := by
  obtain ⟨f, e, k, n, s⟩ := r
  unfold rowM rowCl
  rcases val_k h with ⟨h1, h2⟩ | ⟨h1, h2, -⟩
  · simp only at h1 h2
    subst h1 h2
    have hf := fields_of (l := [numC f, numC e, numC n]) (n := 3) rfl (by simp [sh_n, Sh.some])
    simp only [vC_num]
    rw [hf]
    simp [sh_n, numM, Sh.val]
  · simp only at h1 h2
    subst h1 h2
    have hf := fields_of (l := [numC f, numC e, textC s]) (n := 3) rfl (by simp [sh_n, sh_t, Sh.some])
    simp only [vC_text]
    rw [hf]
    simp [sh_n, sh_t, numM, Sh.val]
theorem row_back {c : C} {r : Row} (h : rowM c = .some r) (hv : valOK r.2.2 = true) : c = rowCl r := by
  unfold rowM at h
  cases hf : fieldsM c 3 with
  | none => rw [hf] at h; cases h
  | some L =>
    obtain ⟨l, rfl, rfl, hl, -⟩ := fields_some hf
    match l, hl with
    | [a, b, v], _ =>
      rw [hf] at h
      simp only [List.map_cons, List.map_nil, Option.bind_eq_some_iff] at h
      obtain ⟨x, hx, y, hy, h⟩ := h
      injection h with h
      subst h
      rw [numM_some, sh_num] at hx hy
      subst hx hy
      unfold rowCl
      cases hs : shOf v with
      | num n => rw [sh_num.1 hs]; simp only [Sh.val, vC_num]
      | text s => rw [sh_text.1 hs]; simp only [Sh.val, vC_text]
      | none =>
        rw [hs] at hv
        simp only [Sh.val] at hv
        rcases val_k hv with ⟨h1, _⟩ | ⟨h1, _⟩ <;> simp at h1
      | list l =>
        rw [hs] at hv
        simp only [Sh.val] at hv
        rcases val_k hv with ⟨h1, _⟩ | ⟨h1, _⟩ <;> simp at h1
theorem all_read {α : Type} {f : C → Option α} {g : α → C} : ∀ (l : List α), (∀ x ∈ l, f (g x) = .some x) → allM f (l.map g) = .some l
  | [], _ => rfl
  | x :: l, h => by
    rw [List.map_cons, allM, h x (by simp), all_read l (fun y hy => h y (by simp [hy]))]; rfl
theorem all_back {α : Type} {f : C → Option α} {g : α → C} : ∀ (l : List C) (r : List α), allM f l = .some r → (∀ c x, x ∈ r → f c = .some x → c = g x) → l = r.map g
  | [], r, h, _ => by rw [allM] at h; injection h with h; subst h; rfl
  | c :: l, r, h, hb => by
    rw [allM, Option.bind_eq_some_iff] at h
    obtain ⟨x, hx, h⟩ := h
    rw [Option.bind_eq_some_iff] at h
    obtain ⟨y, hy, h⟩ := h
    injection h with h
    subst h
    rw [List.map_cons, hb c x (by simp) hx, all_back l y hy (fun c z hz => hb c z (by simp [hz]))]
theorem okFrom_all : ∀ (l : List Row) (p : Option Row), okFrom p l = true → ∀ r ∈ l, rowOK r = true
  | [], _, _, r, hr => by cases hr
  | x :: l, p, h, r, hr => by
    have h1 : rowOK x = true ∧ okFrom (some x) l = true := by
      cases p with
      | none => rw [okFrom, Bool.and_eq_true] at h; exact h
      | some p => rw [okFrom, Bool.and_eq_true, Bool.and_eq_true] at h; exact ⟨h.1, h.2.2⟩
    rcases List.mem_cons.1 hr with rfl | hr
    · exact h1.1
    · exact okFrom_all l _ h1.2 r hr
theorem rows_all {l : List Row} (h : rowsOK l = true) : l.length ≤ 64 ∧ ∀ r ∈ l, valOK r.2.2 = true ∧ 0 ≤ r.1 ∧ r.1 ≤ 1099511627776 ∧ 0 ≤ r.2.1 ∧ r.2.1 ≤ 1099511627776 := by
  unfold rowsOK at h
  rw [Bool.and_eq_true, decide_eq_true_eq] at h
  refine ⟨h.1, fun r hr => ?_⟩
  have := okFrom_all l _ h.2 r hr
  unfold rowOK at this
  rw [Bool.and_eq_true, L2.isSpanB_iff] at this
  exact ⟨this.2, by omega⟩
theorem rows_read {l : List Row} (h : rowsOK l = true) : listM rowM (.list (l.map rowCl)) = .some l := all_read l fun r hr => row_read ((rows_all h).2 r hr).1

/-! Kids and parents. -/
theorem kid_read {k : Kd} (h0 : 0 ≤ k.f) (h1 : k.f ≤ 255) : kidM (kidCl k) = .some k := by
  unfold kidM kidCl
  have hf := fields_of (l := [numC k.f, textC k.id]) (n := 2) rfl (by simp [sh_n, sh_t, Sh.some])
  rw [hf]
  simp [sh_n, sh_t, numM, txtM, h0, h1]
theorem kid_back {c : C} {k : Kd} (h : kidM c = .some k) : c = kidCl k ∧ 0 ≤ k.f ∧ k.f ≤ 255 := by
  unfold kidM at h
  cases hf : fieldsM c 2 with
  | none => rw [hf] at h; cases h
  | some L =>
    obtain ⟨l, rfl, rfl, hl, -⟩ := fields_some hf
    match l, hl with
    | [a, b], _ =>
      rw [hf] at h
      simp only [List.map_cons, List.map_nil, Option.bind_eq_some_iff] at h
      obtain ⟨x, hx, y, hy, h⟩ := h
      rw [numM_some, sh_num] at hx
      rw [txtM_some, sh_text] at hy
      subst hx hy
      by_cases hb : 0 ≤ x ∧ x ≤ 255
      · rw [if_pos hb] at h
        injection h with h
        subst h
        exact ⟨rfl, hb.1, hb.2⟩
      · rw [if_neg hb] at h; cases h
theorem text_read (s : ByteArray) : textM (textC s) = .some s := by unfold textM; rw [sh_t]; rfl
theorem text_back {c : C} {s : ByteArray} (h : textM c = .some s) : c = textC s := by
  unfold textM at h
  rw [txtM_some, sh_text] at h
  exact h
theorem list_some {α : Type} {f : C → Option α} {sh : Sh} {r : List α} (h : listM f sh = .some r) : ∃ l, sh = .list l ∧ allM f l = .some r := by
  cases sh with
  | list l => exact ⟨l, rfl, h⟩
  | _ => cases h
end Go.Proofs.YtjanddnlhaionaaGreatDoor
namespace Go.Proofs.YtjanddnlhaionaaGreatDoor
open Go.RowKit
open L4 (C okC encC Fit bytesF)
open L2 (Row Vl rowsOK valOK rowOK okFrom)

theorem kidsFrom_all : ∀ (l : List Kd) (p : Option Kd), kidsFrom p l = true → ∀ k ∈ l, k.id.size = 32
  | [], _, _, k, hk => by cases hk
  | x :: l, p, h, k, hk => by
    have h1 : isIdB x.id = true ∧ kidsFrom (some x) l = true := by
      cases p with
      | none => rw [kidsFrom, Bool.and_eq_true] at h; exact h
      | some p => rw [kidsFrom, Bool.and_eq_true, Bool.and_eq_true] at h; exact ⟨h.1, h.2.2⟩
    rcases List.mem_cons.1 hk with rfl | hk
    · have := h1.1; unfold isIdB at this; rw [beq_iff_eq] at this; omega
    · exact kidsFrom_all l _ h1.2 k hk
theorem parentsFrom_all : ∀ (l a : List ByteArray), parentsFrom a l = true → ∀ s ∈ l, s.size = 32
  | [], _, _, k, hk => by cases hk
  | x :: l, a, h, s, hs => by
    rw [parentsFrom, Bool.and_eq_true, Bool.and_eq_true] at h
    rcases List.mem_cons.1 hs with rfl | hs
    · have := h.1; unfold isIdB at this; rw [beq_iff_eq] at this; omega
    · exact parentsFrom_all l _ h.2.2 s hs

structure NodeP (o : Ob) : Prop where
  k : o.k = 1
  parents : o.parents = []
  stamp : o.stamp = 0
  note : o.note = ⟨#[]⟩
  root : o.root = ⟨#[]⟩
  label : o.label.size ≤ 24
  rows : rowsOK o.rows = true
  kids : kidsOK o.kids = true
theorem node_p {o : Ob} (h : nodeOK o = true) : NodeP o := by
  unfold nodeOK at h
  simp only [Bool.and_eq_true, beq_iff_eq, decide_eq_true_eq] at h
  obtain ⟨h1, ⟨h2, h3, h4, h5⟩, h6, h7, h8⟩ := h
  exact ⟨h1, List.length_eq_zero_iff.1 (by omega), h3, empty_of h4, empty_of h5, by omega, h7, h8⟩
structure CommitP (o : Ob) : Prop where
  k : o.k = 2
  label : o.label = ⟨#[]⟩
  rows : o.rows = []
  kids : o.kids = []
  parents : parentsOK o.parents = true
  stamp : 0 ≤ o.stamp ∧ o.stamp ≤ 1099511627776
  note : o.note.size ≤ 40
  root : o.root.size = 32
theorem commit_p {o : Ob} (h : commitOK o = true) : CommitP o := by
  unfold commitOK at h
  simp only [Bool.and_eq_true, beq_iff_eq, decide_eq_true_eq] at h
  obtain ⟨h1, ⟨h2, h3, h4⟩, h5, h6, h7, h8⟩ := h
  unfold isIdB at h8
  rw [beq_iff_eq] at h8
  exact ⟨h1, empty_of h2, List.length_eq_zero_iff.1 (by omega), List.length_eq_zero_iff.1 (by omega), h5, L2.isTimeB_iff.1 h6, by omega, by omega⟩
theorem obj_p {o : Ob} (h : objOK o = true) : NodeP o ∨ CommitP o := by
  unfold objOK at h
  rw [Bool.or_eq_true] at h
  exact h.imp node_p commit_p
theorem parents_p {l : List ByteArray} (h : parentsOK l = true) : l.length ≤ 2 ∧ ∀ s ∈ l, s.size = 32 := by
  unfold parentsOK at h
  rw [Bool.and_eq_true, Bool.not_eq_true', decide_eq_false_iff_not] at h
  exact ⟨by omega, parentsFrom_all l [] h.2⟩

/-! A right object's cell is right, and its bytes are few. -/
theorem ok_num (d : Nat) (n : Int) : okC (d + 1) (numC n) = true := by unfold numC; rw [L4.okC_succ, if_pos rfl, empty_list]; rfl
theorem ok_text (d : Nat) {s : ByteArray} (h : s.size ≤ 65535) : okC (d + 1) (textC s) = true := by
  unfold textC; rw [L4.okC_succ, if_neg (by decide), if_pos rfl]; simp [h]
theorem ok_list (d : Nat) {l : List C} (h : l.length ≤ 4095) (ha : ∀ x ∈ l, okC d x = true) : okC (d + 1) (listC l) = true := by
  unfold listC; rw [L4.okC_succ, if_neg (by decide), if_neg (by decide), if_pos rfl, empty_list]; simp [h]; exact ha
theorem fit_num (d : Nat) {n : Int} (h0 : -9223372036854775808 ≤ n) (h1 : n ≤ 9223372036854775807) : Fit (d + 1) (numC n) := (L4.Fit_succ _ _ _ _ _).2 ⟨h0, h1, by simp⟩
theorem fit_text (d : Nat) (s : ByteArray) : Fit (d + 1) (textC s) := (L4.Fit_succ _ _ _ _ _).2 ⟨by omega, by omega, by simp⟩
theorem fit_list (d : Nat) {l : List C} (h : ∀ x ∈ l, Fit d x) : Fit (d + 1) (listC l) := (L4.Fit_succ _ _ _ _ _).2 ⟨by omega, by omega, h⟩
theorem enc_num (d : Nat) (n : Int) : (encC (d + 1) (numC n)).length ≤ 9 := by
  unfold numC; rw [L4.encC_succ]
  have := L4.bytesF_length 8 (L4.baseOf 1 n ⟨#[]⟩ [])
  simp; omega
theorem enc_text (d : Nat) (s : ByteArray) : (encC (d + 1) (textC s)).length ≤ 9 + s.size := by
  unfold textC; rw [L4.encC_succ]
  have := L4.bytesF_length 8 (L4.baseOf 2 0 s [])
  have h2 := L4.size_data s
  simp only [List.length_cons, List.length_append, List.flatMap_nil, List.length_nil]
  omega
theorem flat_le {α : Type} (f : α → List UInt8) (K : Nat) : ∀ (l : List α), (∀ x ∈ l, (f x).length ≤ K) → (l.flatMap f).length ≤ l.length * K
  | [], _ => by simp
  | x :: l, h => by
    have h1 := h x (by simp)
    have h2 := flat_le f K l (fun y hy => h y (by simp [hy]))
    rw [List.flatMap_cons, List.length_append, List.length_cons, Nat.add_mul]
    omega
theorem enc_list (d : Nat) {l : List C} (K : Nat) (h : ∀ x ∈ l, (encC d x).length ≤ K) : (encC (d + 1) (listC l)).length ≤ 9 + l.length * K := by
  unfold listC; rw [L4.encC_succ]
  have := L4.bytesF_length 8 (L4.baseOf 3 0 ⟨#[]⟩ l)
  have h2 := flat_le (encC d) K l h
  simp only [List.length_cons, List.length_append, List.length_nil]
  omega

/-- Right, fit, and of at most K bytes. -/
structure Good (d : Nat) (K : Nat) (c : C) : Prop where
  ok : okC d c = true
  fit : Fit d c
  enc : (encC d c).length ≤ K
theorem good_num (d : Nat) {n : Int} (h0 : -9223372036854775808 ≤ n) (h1 : n ≤ 9223372036854775807) : Good (d + 1) 9 (numC n) := ⟨ok_num d n, fit_num d h0 h1, enc_num d n⟩
theorem good_text (d : Nat) {s : ByteArray} (h : s.size ≤ 65535) : Good (d + 1) (9 + s.size) (textC s) := ⟨ok_text d h, fit_text d s, enc_text d s⟩
theorem good_list (d : Nat) {l : List C} (K : Nat) (h : l.length ≤ 4095) (hg : ∀ x ∈ l, Good d K x) : Good (d + 1) (9 + l.length * K) (listC l) :=
  ⟨ok_list d h fun x hx => (hg x hx).ok, fit_list d fun x hx => (hg x hx).fit, enc_list d K fun x hx => (hg x hx).enc⟩
theorem Good.le {d K K' : Nat} {c : C} (h : Good d K c) (hk : K ≤ K') : Good d K' c := ⟨h.ok, h.fit, Nat.le_trans h.enc hk⟩

theorem good_row (d : Nat) {r : Row} (hv : valOK r.2.2 = true) (h0 : 0 ≤ r.1) (h1 : r.1 ≤ 1099511627776) (h2 : 0 ≤ r.2.1) (h3 : r.2.1 ≤ 1099511627776) (h4 : -9223372036854775808 ≤ r.2.2.2.1) (h5 : r.2.2.2.1 ≤ 9223372036854775807) : Good (d + 2) 200 (rowCl r) := by
  unfold rowCl
  refine (good_list (d + 1) 49 (by simp) (fun x hx => ?_)).le (by simp)
  simp only [List.mem_cons, List.not_mem_nil, or_false] at hx
  rcases hx with rfl | rfl | rfl
  · exact (good_num d (by omega) (by omega)).le (by omega)
  · exact (good_num d (by omega) (by omega)).le (by omega)
  · obtain ⟨f, e, k, n, s⟩ := r
    rcases val_k hv with ⟨k1, k2⟩ | ⟨k1, k2, k3⟩
    · simp only at k1 k2 h4 h5 ⊢
      subst k1 k2
      rw [vC_num]
      exact (good_num d h4 h5).le (by omega)
    · simp only at k1 k2 k3 ⊢
      subst k1 k2
      rw [vC_text]
      exact (good_text d (by omega)).le (by omega)
theorem good_kid (d : Nat) {k : Kd} (h0 : 0 ≤ k.f) (h1 : k.f ≤ 255) (h2 : k.id.size = 32) : Good (d + 2) 200 (kidCl k) := by
  unfold kidCl
  refine (good_list (d + 1) 49 (by simp) (fun x hx => ?_)).le (by simp)
  simp only [List.mem_cons, List.not_mem_nil, or_false] at hx
  rcases hx with rfl | rfl
  · exact (good_num d (by omega) (by omega)).le (by omega)
  · exact (good_text d (by omega)).le (by omega)
theorem good_rows (d : Nat) {l : List Row} (h : rowsOK l = true) (hn : ∀ r ∈ l, -9223372036854775808 ≤ r.2.2.2.1 ∧ r.2.2.2.1 ≤ 9223372036854775807) : Good (d + 3) 20000 (rowsCl l) := by
  obtain ⟨h1, h2⟩ := rows_all h
  unfold rowsCl
  refine (good_list (d + 2) 200 (by rw [List.length_map]; omega) (fun x hx => ?_)).le (by rw [List.length_map]; omega)
  obtain ⟨r, hr, rfl⟩ := List.mem_map.1 hx
  obtain ⟨a, b, c, e, f⟩ := h2 r hr
  exact good_row d a b c e f (hn r hr).1 (hn r hr).2

theorem obj_good {o : Ob} (h : objOK o = true) (hn : ∀ r ∈ o.rows, -9223372036854775808 ≤ r.2.2.2.1 ∧ r.2.2.2.1 ≤ 9223372036854775807) (hf : ∀ k ∈ o.kids, 0 ≤ k.f ∧ k.f ≤ 255) (hk : o.kids.length ≤ 500) : Good 16 900000 (cellOf o) := by
  unfold cellOf
  rcases obj_p h with p | p
  · rw [if_pos p.k]
    unfold nodeCl
    refine (good_list 15 200000 (by simp) (fun x hx => ?_)).le (by simp)
    simp only [List.mem_cons, List.not_mem_nil, or_false] at hx
    rcases hx with rfl | rfl | rfl | rfl
    · have := p.k; exact (good_num 14 (by omega) (by omega)).le (by omega)
    · have := p.label; exact (good_text 14 (by omega)).le (by omega)
    · exact (good_rows 12 p.rows hn).le (by omega)
    · unfold kidsCl
      refine (good_list 14 200 (by rw [List.length_map]; omega) (fun x hx => ?_)).le (by rw [List.length_map]; omega)
      obtain ⟨k, hk, rfl⟩ := List.mem_map.1 hx
      exact good_kid 12 (hf k hk).1 (hf k hk).2 (kidsFrom_all _ _ p.kids k hk)
  · rw [if_neg (by rw [p.k]; decide)]
    unfold commitCl
    refine (good_list 15 20000 (by simp) (fun x hx => ?_)).le (by simp)
    simp only [List.mem_cons, List.not_mem_nil, or_false] at hx
    rcases hx with rfl | rfl | rfl | rfl | rfl
    · have := p.k; exact (good_num 14 (by omega) (by omega)).le (by omega)
    · unfold textsCl
      obtain ⟨q1, q2⟩ := parents_p p.parents
      refine (good_list 14 91 (by rw [List.length_map]; omega) (fun x hx => ?_)).le (by rw [List.length_map]; omega)
      obtain ⟨s, hs, rfl⟩ := List.mem_map.1 hx
      have := q2 s hs
      exact (good_text 13 (by omega)).le (by omega)
    · have := p.stamp; exact (good_num 14 (by omega) (by omega)).le (by omega)
    · have := p.note; exact (good_text 14 (by omega)).le (by omega)
    · have := p.root; exact (good_text 14 (by omega)).le (by omega)

/-! What is read of a right object's cell; and what else is read as an object. -/
theorem node_read {o : Ob} (p : NodeP o) (hf : ∀ k ∈ o.kids, 0 ≤ k.f ∧ k.f ≤ 255) : nodeM (nodeCl o.k o.label o.rows o.kids) = .some o := by
  unfold nodeM nodeCl
  have h := fields_of (l := [numC o.k, textC o.label, rowsCl o.rows, kidsCl o.kids]) (n := 4) rfl (by simp [sh_n, sh_t, rowsCl, kidsCl, sh_l, Sh.some])
  rw [h]
  simp only [List.map_cons, List.map_nil, sh_n, sh_t, rowsCl, kidsCl, sh_l]
  rw [if_pos (by rw [p.k]; rfl), rows_read p.rows]
  have hk : listM kidM (.list (o.kids.map kidCl)) = .some o.kids := all_read o.kids fun k hk => kid_read (hf k hk).1 (hf k hk).2
  rw [hk]
  simp only [txtM, Option.bind_some]
  obtain ⟨a, b, c, d, e, f, g, i⟩ := o
  obtain ⟨p1, p2, p3, p4, p5, _, _, _⟩ := p
  simp only at p1 p2 p3 p4 p5
  subst p1 p2 p3 p4 p5
  rfl
theorem commit_read {o : Ob} (p : CommitP o) : commitM (commitCl o.k o.parents o.stamp o.note o.root) = .some o := by
  unfold commitM commitCl
  have h := fields_of (l := [numC o.k, textsCl o.parents, numC o.stamp, textC o.note, textC o.root]) (n := 5) rfl (by simp [sh_n, sh_t, textsCl, sh_l, Sh.some])
  rw [h]
  simp only [List.map_cons, List.map_nil, sh_n, sh_t, textsCl, sh_l]
  rw [if_pos (by rw [p.k]; rfl)]
  have hk : listM textM (.list (o.parents.map textC)) = .some o.parents := all_read o.parents fun s _ => text_read s
  rw [hk]
  simp only [txtM, numM, Option.bind_some]
  obtain ⟨a, b, c, d, e, f, g, i⟩ := o
  obtain ⟨p1, p2, p3, p4, _, _, _, _⟩ := p
  simp only at p1 p2 p3 p4
  subst p1 p2 p3 p4
  rfl
theorem node_not (kd : Int) (parents : List ByteArray) (stamp : Int) (note root : ByteArray) : nodeM (commitCl kd parents stamp note root) = .none := by
  unfold nodeM commitCl fieldsM
  rw [sh_l]
  simp
theorem obj_read {o : Ob} (h : objOK o = true) (hf : ∀ k ∈ o.kids, 0 ≤ k.f ∧ k.f ≤ 255) : objM (cellOf o) = .some o := by
  unfold objM cellOf
  rcases obj_p h with p | p
  · rw [if_pos p.k, node_read p hf]
  · rw [if_neg (by rw [p.k]; decide), node_not, commit_read p]
theorem obj_back {c : C} {o : Ob} (h : objM c = .some o) (hok : objOK o = true) : c = cellOf o ∧ ∀ k ∈ o.kids, 0 ≤ k.f ∧ k.f ≤ 255 := by
  unfold objM at h
  cases hn : nodeM c with
  | some o2 =>
    rw [hn] at h
    injection h with h
    subst h
    unfold nodeM at hn
    cases hf : fieldsM c 4 with
    | none => rw [hf] at hn; cases hn
    | some L =>
      obtain ⟨l, rfl, rfl, hl, -⟩ := fields_some hf
      match l, hl with
      | [a, b, r, k], _ =>
        rw [hf] at hn
        simp only [List.map_cons, List.map_nil] at hn
        by_cases h1 : numM (shOf a) = some 1
        · rw [if_pos h1] at hn
          simp only [Option.bind_eq_some_iff] at hn
          obtain ⟨x, hx, y, hy, z, hz, hn⟩ := hn
          injection hn with hn
          rw [numM_some, sh_num] at h1
          rw [txtM_some, sh_text] at hx
          obtain ⟨l1, e1, g1⟩ := list_some hy
          obtain ⟨l2, e2, g2⟩ := list_some hz
          rw [sh_list] at e1 e2
          subst h1 hx e1 e2 hn
          rcases obj_p hok with p | p
          · have hr := (rows_all p.rows).2
            have k1 := all_back l1 y g1 (fun c x hx hc => row_back hc (hr x hx).1)
            have k2 := all_back l2 z g2 (fun c x hx hc => (kid_back hc).1)
            subst k1 k2
            refine ⟨?_, fun k hk => ?_⟩
            · unfold cellOf; rw [if_pos rfl]; rfl
            · have : ∀ (l : List C) (z : List Kd), allM kidM l = some z → ∀ k ∈ z, 0 ≤ k.f ∧ k.f ≤ 255 := by
                intro l
                induction l with
                | nil => intro z hz k hk; rw [allM] at hz; injection hz with hz; subst hz; cases hk
                | cons c l ih =>
                  intro z hz k hk
                  rw [allM, Option.bind_eq_some_iff] at hz
                  obtain ⟨x, hx, hz⟩ := hz
                  rw [Option.bind_eq_some_iff] at hz
                  obtain ⟨y, hy, hz⟩ := hz
                  injection hz with hz
                  subst hz
                  rcases List.mem_cons.1 hk with rfl | hk
                  · exact (kid_back hx).2
                  · exact ih y hy k hk
              exact this _ _ g2 k hk
          · exact absurd p.k (by show ¬ ((1 : Int) = 2); decide)
        · rw [if_neg h1] at hn; cases hn
  | none =>
    rw [hn] at h
    simp only at h
    unfold commitM at h
    cases hf : fieldsM c 5 with
    | none => rw [hf] at h; cases h
    | some L =>
      obtain ⟨l, rfl, rfl, hl, -⟩ := fields_some hf
      match l, hl with
      | [a, p, t, n, r], _ =>
        rw [hf] at h
        simp only [List.map_cons, List.map_nil] at h
        by_cases h1 : numM (shOf a) = some 2
        · rw [if_pos h1] at h
          simp only [Option.bind_eq_some_iff] at h
          obtain ⟨x, hx, y, hy, z, hz, u, hu, h⟩ := h
          injection h with h
          rw [numM_some, sh_num] at h1 hy
          rw [txtM_some, sh_text] at hz hu
          obtain ⟨l1, e1, g1⟩ := list_some hx
          rw [sh_list] at e1
          have k1 := all_back l1 x g1 (fun c x _ hc => text_back hc)
          subst h1 hy hz hu e1 h k1
          refine ⟨?_, fun k hk => by cases hk⟩
          unfold cellOf; rw [if_neg (show ¬ ((2 : Int) = 1) by decide)]; rfl
        · rw [if_neg h1] at h; cases h
end Go.Proofs.YtjanddnlhaionaaGreatDoor
namespace Go.Proofs.YtjanddnlhaionaaGreatDoor
open Go.RowKit
open L4 (C LAt)
open L2 (Row Vl RowsAt rowsOK valOK)

theorem kidM_eq {c : C} {a b : Sh} (h : fieldsM c 2 = some [a, b]) : kidM c = if isNum a = true ∧ isTxt b = true ∧ 0 ≤ numV a ∧ numV a ≤ 255 then some ⟨numV a, txtV b⟩ else none := by
  unfold kidM
  rw [h]
  cases a <;> cases b <;> simp [numM, txtM, isNum, isTxt, numV, txtV]
def KidTo (w : World) (r : Option Kd) (e : Ending) (w' : World) : Prop :=
  Below w.heap.size w w' ∧ match r with
    | some k => e = .returned (.tuple #[.agg #[.int .u8 k.f, .string k.id], .bool true])
    | none => ∃ x s, e = .returned (.tuple #[.agg #[.int .u8 x, .string s], .bool false])
theorem results63 (tmps : Array Value) (w : World) (P : Nat) (x : Int) (s : ByteArray) (q : Bool) (hp2 : tmps[2]?.getD undef = .pointer (some ⟨P, 0, none⟩)) (hp3 : tmps[3]?.getD undef = .bool q) (h0 : w.heap[P]? = some (.cells #[.int .u8 x, .string s] 95 (0, 0))) :
    (results Tryz.f157 tmps).run Tryz.prog w = .ok (.tuple #[.agg #[.int .u8 x, .string s], .bool q]) w := by
  have p0 : w.cell? ⟨P, 0, none⟩ = some (.int .u8 x) := cell_of_row w P 0 _ 95 (0, 0) h0
  have p1 : w.cell? ⟨P, 1, none⟩ = some (.string s) := cell_of_row w P 1 _ 95 (0, 0) h0
  simp [results, Tryz.results157, hp2, hp3, asAddr, go_sem, p0, p1]
theorem one2 (x : Int) (s : ByteArray) : (#[Value.int .u8 x, .string s]).all (·.oneCell') = true := by simp [Value.oneCell']
theorem below_row {w w2 : World} {B : Nat} {cs : Array Value} (hb : Below w.heap.size w w2) (hB : w.heap.size ≤ B) : Below w.heap.size w (w2.setRow B cs) := hb.trans ⟨rfl, rfl, rfl, by rw [setRow_size]; exact Nat.le_refl _, fun k hk => setRow_other _ _ _ _ (by omega)⟩

set_option maxHeartbeats 4000000 in
theorem readKid63 (d : Nat) (ck cn : Int) (cs : ByteArray) (cl : List C) (u : Value) (w : World) (h : LAt w w.heap.size d u cl) :
    Calls Tryz.prog 157 #[.agg #[.int .i64 ck, .int .i64 cn, .string cs, u]] w (KidTo w (kidM (.mk ck cn cs cl))) := by
  have hB : Below w.heap.size w ((w.alloc (.cells #[.int .i64 ck, .int .i64 cn, .string cs, u] 38)).alloc (.cells #[.int .u8 0, .string ⟨#[]⟩] 95)) := ((Below.refl _ _).alloc (Nat.le_refl _) _).alloc (by simp) _
  have HB := Lib.hid hB
  have HF : Hid (Calls Tryz.prog 119 #[.agg #[.int .i64 ck, .int .i64 cn, .string cs, u], .int .i64 2] ((w.alloc (.cells #[.int .i64 ck, .int .i64 cn, .string cs, u] 38)).alloc (.cells #[.int .u8 0, .string ⟨#[]⟩] 95)) (FieldsTo ((w.alloc (.cells #[.int .i64 ck, .int .i64 cn, .string cs, u] 38)).alloc (.cells #[.int .u8 0, .string ⟨#[]⟩] 95)) (fieldsM (.mk ck cn cs cl) 2))) := readFields53 d ck cn cs cl u 2 (by omega) _ (h.step hB)
  have HP0 : Hid (((w.alloc (.cells #[.int .i64 ck, .int .i64 cn, .string cs, u] 38)).alloc (.cells #[.int .u8 0, .string ⟨#[]⟩] 95)).heap[w.heap.size + 1]? = some (.cells #[.int .u8 0, .string ⟨#[]⟩] 95 (0, 0))) := by
    unfold Hid
    have := heap_alloc_new (w.alloc (.cells #[.int .i64 ck, .int .i64 cn, .string cs, u] 38)) (.cells #[.int .u8 0, .string ⟨#[]⟩] 95)
    simpa using this
  obtain ⟨c, hc⟩ : ∃ c, C.mk ck cn cs cl = c := ⟨_, rfl⟩
  rw [hc] at HF ⊢
  obtain ⟨r, hr⟩ : ∃ r, kidM c = r := ⟨_, rfl⟩
  rw [hr]
  have HR := Lib.hid hr
  obtain ⟨f, hf⟩ : ∃ f, fieldsM c 2 = f := ⟨_, rfl⟩
  rw [hf] at HF
  have HFM := Lib.hid hf
  have hs55 := size55
  have HSS : Hid (∀ (x : Int) (s : ByteArray), (Tryz.prog.info? 95).map (·.size) = some (#[Value.int .u8 x, .string s]).size) := fun _ _ => size55
  obtain ⟨A0, c0, rfl⟩ := h.slice
  clear hr hf hc h hB hs55
  go_enter Tryz.func157, Tryz.ntmps157
  go_wp2_with fail
  refine HF.out.mono ?_
  rintro e w2 ⟨hb2, he⟩
  have HP2 : Hid (w2.heap[w.heap.size + 1]? = some (.cells #[.int .u8 0, .string ⟨#[]⟩] 95 (0, 0))) := (hb2.block _ (by simp)).trans HP0.out
  have HB2 := Lib.hid (HB.out.trans (hb2.mono HB.out.size))
  clear hb2 HF HB HP0
  cases f with
  | none =>
    subst he
    have hr : r = none := by rw [← HR.out]; unfold kidM; rw [HFM.out]
    subst hr
    have HA := Lib.hid (one2 0 ⟨#[]⟩)
    clear HR HFM
    go_wp2_with (refine wpList_store_row (P := Tryz.prog) rfl 95 _ _ rfl (w.heap.size + 1) #[.int .u8 0, .string ⟨#[]⟩] rfl rfl 95 _ HP2.out (HSS.out _ _) rfl HA.out ?_)
    refine bodyPost_ret (results63 _ _ (w.heap.size + 1) 0 ⟨#[]⟩ false ?h2 ?h3 (setRow_heap _ (w.heap.size + 1) _ _ 95 (0, 0) HP2.out)) rfl ?_
    case h2 => rfl
    case h3 => rfl
    exact ⟨below_row HB2.out (by omega), _, _, rfl⟩
  | some L =>
    obtain ⟨v, d2, rfl, hv⟩ := he
    obtain ⟨l, -, hL, hl, -⟩ := fields_some HFM.out
    match L, (show L.length = 2 by rw [hL, List.length_map, hl]) with
    | [a, b], hLl =>
      have HKM := Lib.hid (kidM_eq HFM.out)
      obtain ⟨bb, oo, cc, rfl, hbb, hg⟩ := shs_get hv rfl (by omega)
      obtain ⟨ua, ca, ha⟩ := hg 0 (by omega)
      obtain ⟨ub, cb, hb⟩ := hg 1 (by omega)
      rw [Nat.add_zero] at ca
      have hta := as_num ha
      have htb := as_txt hb
      simp only [List.getElem_cons_zero, List.getElem_cons_succ] at hta htb
      clear ha hb hg hv hL hl HFM hLl
      have HR2 : Hid ((if isNum a = true ∧ isTxt b = true ∧ 0 ≤ numV a ∧ numV a ≤ 255 then some (Kd.mk (numV a) (txtV b)) else none) = r) := by unfold Hid; rw [← HKM.out]; exact HR.out
      clear HR HKM
      generalize isNum a = qa at hta HR2
      generalize isTxt b = qb at htb HR2
      generalize numV a = n at hta HR2
      generalize txtV b = t at htb HR2
      have HAll := Lib.hid (one2 (IntKind.u8.wrap n) t)
      have fin : ∀ q, (q = true → qa = true ∧ qb = true ∧ 0 ≤ n ∧ n ≤ 255) → (q = false → ¬ (qa = true ∧ qb = true ∧ 0 ≤ n ∧ n ≤ 255)) → KidTo w r (.returned (.tuple #[.agg #[.int .u8 (IntKind.u8.wrap n), .string t], .bool q])) (w2.setRow (w.heap.size + 1) #[.int .u8 (IntKind.u8.wrap n), .string t]) := by
        intro q h1 h2
        refine ⟨below_row HB2.out (by omega), ?_⟩
        cases q with
        | true =>
          have h3 := h1 rfl
          rw [← HR2.out, if_pos h3, wrap_u8 h3.2.2.1 h3.2.2.2]
        | false =>
          rw [← HR2.out, if_neg (h2 rfl)]
          exact ⟨_, _, rfl⟩
      have FIN := Lib.hid fin
      clear fin HR2
      cases p0 : decide (0 ≤ n) with
      | false =>
        cases qa <;> (
          go_wp2_with (refine wpList_store_row (P := Tryz.prog) rfl 95 _ _ rfl (w.heap.size + 1) #[.int .u8 (IntKind.u8.wrap n), .string t] rfl rfl 95 _ HP2.out (HSS.out _ _) rfl HAll.out ?_)
          refine bodyPost_ret (results63 _ _ (w.heap.size + 1) (IntKind.u8.wrap n) t false ?h2 ?h3 (setRow_heap _ (w.heap.size + 1) _ _ 95 (0, 0) HP2.out)) rfl ?_
          case h2 => rfl
          case h3 => rfl
          exact FIN.out _ (by simp) (fun _ h => by have := h.2.2.1; simp at p0; omega))
      | true =>
        cases p1 : decide (n ≤ 255) with
        | false =>
          cases qa <;> (
            go_wp2_with (refine wpList_store_row (P := Tryz.prog) rfl 95 _ _ rfl (w.heap.size + 1) #[.int .u8 (IntKind.u8.wrap n), .string t] rfl rfl 95 _ HP2.out (HSS.out _ _) rfl HAll.out ?_)
            refine bodyPost_ret (results63 _ _ (w.heap.size + 1) (IntKind.u8.wrap n) t false ?h2 ?h3 (setRow_heap _ (w.heap.size + 1) _ _ 95 (0, 0) HP2.out)) rfl ?_
            case h2 => rfl
            case h3 => rfl
            exact FIN.out _ (by simp) (fun _ h => by have := h.2.2.2; simp at p1; omega))
        | true =>
          have q0 : 0 ≤ n := by simpa using p0
          have q1 : n ≤ 255 := by simpa using p1
          have HQ := Lib.hid (And.intro q0 q1)
          clear q0 q1
          cases qa with
          | false =>
            go_wp2_with (refine wpList_store_row (P := Tryz.prog) rfl 95 _ _ rfl (w.heap.size + 1) #[.int .u8 (IntKind.u8.wrap n), .string t] rfl rfl 95 _ HP2.out (HSS.out _ _) rfl HAll.out ?_)
            refine bodyPost_ret (results63 _ _ (w.heap.size + 1) (IntKind.u8.wrap n) t false ?h2 ?h3 (setRow_heap _ (w.heap.size + 1) _ _ 95 (0, 0) HP2.out)) rfl ?_
            case h2 => rfl
            case h3 => rfl
            exact FIN.out _ (by simp) (fun _ h => by simp at h)
          | true =>
            go_wp2_with (refine wpList_store_row (P := Tryz.prog) rfl 95 _ _ rfl (w.heap.size + 1) #[.int .u8 (IntKind.u8.wrap n), .string t] rfl rfl 95 _ HP2.out (HSS.out _ _) rfl HAll.out ?_)
            refine bodyPost_ret (results63 _ _ (w.heap.size + 1) (IntKind.u8.wrap n) t qb ?h2 ?h3 (setRow_heap _ (w.heap.size + 1) _ _ 95 (0, 0) HP2.out)) rfl ?_
            case h2 => rfl
            case h3 => rfl
            exact FIN.out _ (fun h => ⟨by trivial, h, HQ.out.1, HQ.out.2⟩) (fun h h2 => by rw [h] at h2; exact absurd h2.2.1 (by decide))
end Go.Proofs.YtjanddnlhaionaaGreatDoor
namespace Go.Proofs.YtjanddnlhaionaaGreatDoor
open Go.RowKit
open L4 (C LAt)
open L2 (Row Vl RowsAt rowsOK valOK)

theorem rowM_eq {c : C} {a b v : Sh} (h : fieldsM c 3 = some [a, b, v]) : rowM c = if isNum a = true ∧ isNum b = true then some (numV a, numV b, v.val) else none := by
  unfold rowM
  rw [h]
  cases a <;> cases b <;> simp [numM, isNum, numV]
def RowTo (w : World) (r : Option Row) (e : Ending) (w' : World) : Prop :=
  Below w.heap.size w w' ∧ match r with
    | some r => e = .returned (.tuple #[.agg #[.int .i64 r.1, .int .i64 r.2.1, .int .i64 r.2.2.1, .int .i64 r.2.2.2.1, .string r.2.2.2.2], .bool true])
    | none => ∃ f t k n s, e = .returned (.tuple #[.agg #[.int .i64 f, .int .i64 t, .int .i64 k, .int .i64 n, .string s], .bool false])
theorem results30 (tmps : Array Value) (w : World) (P : Nat) (f t k n : Int) (s : ByteArray) (q : Bool) (hp2 : tmps[2]?.getD undef = .pointer (some ⟨P, 0, none⟩)) (hp3 : tmps[3]?.getD undef = .bool q) (h0 : w.heap[P]? = some (.cells #[.int .i64 f, .int .i64 t, .int .i64 k, .int .i64 n, .string s] 93 (0, 0))) :
    (results Tryz.f65 tmps).run Tryz.prog w = .ok (.tuple #[.agg #[.int .i64 f, .int .i64 t, .int .i64 k, .int .i64 n, .string s], .bool q]) w := by
  have p0 : w.cell? ⟨P, 0, none⟩ = some (.int .i64 f) := cell_of_row w P 0 _ 93 (0, 0) h0
  have p1 : w.cell? ⟨P, 1, none⟩ = some (.int .i64 t) := cell_of_row w P 1 _ 93 (0, 0) h0
  have p2 : w.cell? ⟨P, 2, none⟩ = some (.int .i64 k) := cell_of_row w P 2 _ 93 (0, 0) h0
  have p3 : w.cell? ⟨P, 3, none⟩ = some (.int .i64 n) := cell_of_row w P 3 _ 93 (0, 0) h0
  have p4 : w.cell? ⟨P, 4, none⟩ = some (.string s) := cell_of_row w P 4 _ 93 (0, 0) h0
  simp [results, Tryz.results65, hp2, hp3, asAddr, go_sem, p0, p1, p2, p3, p4]
theorem one5 (f t k n : Int) (s : ByteArray) : (#[Value.int .i64 f, .int .i64 t, .int .i64 k, .int .i64 n, .string s]).all (·.oneCell') = true := by simp [Value.oneCell']

/-- What invoking 'value' on a shape comes to. -/
theorem sh_value {W : World} {B d : Nat} {u : Value} {sh : Sh} (h : ShAt W B d u sh) (hs : sh.some = true) : ∃ t y fn z, u = .iface t y ∧ (fn = 256 ∨ fn = 257 ∨ fn = 255) ∧ (∀ w, (method 441 t y "fasti/object.value").run Tryz.prog w = .ok (fn, z) w) ∧ ∀ w, Calls Tryz.prog fn #[z] w (ValTo w sh.val) := by
  cases sh with
  | none => cases hs
  | num n => exact ⟨183, _, 256, _, h, .inl rfl, fun w => meth_n n w, fun w => value100 n w⟩
  | text s => exact ⟨184, _, 257, _, h, .inr (.inl rfl), fun w => meth_t s w, fun w => value101 s w⟩
  | list l =>
    obtain ⟨A, cap, rfl, _⟩ := sh_slice h
    exact ⟨180, _, 255, _, rfl, .inr (.inr rfl), fun w => meth_l _ _ _ w, fun w => value99 _ _ _ w⟩

set_option maxHeartbeats 4000000 in
theorem readRow30 (d : Nat) (ck cn : Int) (cs : ByteArray) (cl : List C) (u : Value) (w : World) (h : LAt w w.heap.size d u cl) :
    Calls Tryz.prog 65 #[.agg #[.int .i64 ck, .int .i64 cn, .string cs, u]] w (RowTo w (rowM (.mk ck cn cs cl))) := by
  have hB : Below w.heap.size w ((w.alloc (.cells #[.int .i64 ck, .int .i64 cn, .string cs, u] 38)).alloc (.cells #[.int .i64 0, .int .i64 0, .int .i64 0, .int .i64 0, .string ⟨#[]⟩] 93)) := ((Below.refl _ _).alloc (Nat.le_refl _) _).alloc (by simp) _
  have HB := Lib.hid hB
  have HF : Hid (Calls Tryz.prog 119 #[.agg #[.int .i64 ck, .int .i64 cn, .string cs, u], .int .i64 3] ((w.alloc (.cells #[.int .i64 ck, .int .i64 cn, .string cs, u] 38)).alloc (.cells #[.int .i64 0, .int .i64 0, .int .i64 0, .int .i64 0, .string ⟨#[]⟩] 93)) (FieldsTo ((w.alloc (.cells #[.int .i64 ck, .int .i64 cn, .string cs, u] 38)).alloc (.cells #[.int .i64 0, .int .i64 0, .int .i64 0, .int .i64 0, .string ⟨#[]⟩] 93)) (fieldsM (.mk ck cn cs cl) 3))) := readFields53 d ck cn cs cl u 3 (by omega) _ (h.step hB)
  have HP0 : Hid (((w.alloc (.cells #[.int .i64 ck, .int .i64 cn, .string cs, u] 38)).alloc (.cells #[.int .i64 0, .int .i64 0, .int .i64 0, .int .i64 0, .string ⟨#[]⟩] 93)).heap[w.heap.size + 1]? = some (.cells #[.int .i64 0, .int .i64 0, .int .i64 0, .int .i64 0, .string ⟨#[]⟩] 93 (0, 0))) := by
    unfold Hid
    have := heap_alloc_new (w.alloc (.cells #[.int .i64 ck, .int .i64 cn, .string cs, u] 38)) (.cells #[.int .i64 0, .int .i64 0, .int .i64 0, .int .i64 0, .string ⟨#[]⟩] 93)
    simpa using this
  obtain ⟨c, hc⟩ : ∃ c, C.mk ck cn cs cl = c := ⟨_, rfl⟩
  rw [hc] at HF ⊢
  obtain ⟨r, hr⟩ : ∃ r, rowM c = r := ⟨_, rfl⟩
  rw [hr]
  have HR := Lib.hid hr
  obtain ⟨f, hf⟩ : ∃ f, fieldsM c 3 = f := ⟨_, rfl⟩
  rw [hf] at HF
  have HFM := Lib.hid hf
  have HSS : Hid (∀ (f t k n : Int) (s : ByteArray), (Tryz.prog.info? 93).map (·.size) = some (#[Value.int .i64 f, .int .i64 t, .int .i64 k, .int .i64 n, .string s]).size) := fun _ _ _ _ _ => size43
  obtain ⟨A0, c0, rfl⟩ := h.slice
  clear hr hf hc h hB
  go_enter Tryz.func65, Tryz.ntmps65
  go_wp2_with fail
  refine HF.out.mono ?_
  rintro e w2 ⟨hb2, he⟩
  have HP2 : Hid (w2.heap[w.heap.size + 1]? = some (.cells #[.int .i64 0, .int .i64 0, .int .i64 0, .int .i64 0, .string ⟨#[]⟩] 93 (0, 0))) := (hb2.block _ (by simp)).trans HP0.out
  have HZ : Hid (w.heap.size + 1 < w2.heap.size) := by have := hb2.size; simp at this; unfold Hid; omega
  have HB2 := Lib.hid (HB.out.trans (hb2.mono HB.out.size))
  clear hb2 HF HB HP0
  cases f with
  | none =>
    subst he
    have hr : r = none := by rw [← HR.out]; unfold rowM; rw [HFM.out]
    subst hr
    have HA := Lib.hid (one5 0 0 0 0 ⟨#[]⟩)
    clear HR HFM
    go_wp2_with (refine wpList_store_row (P := Tryz.prog) rfl 93 _ _ rfl (w.heap.size + 1) #[.int .i64 0, .int .i64 0, .int .i64 0, .int .i64 0, .string ⟨#[]⟩] rfl rfl 93 _ HP2.out (HSS.out _ _ _ _ _) rfl HA.out ?_)
    refine bodyPost_ret (results30 _ _ (w.heap.size + 1) 0 0 0 0 ⟨#[]⟩ false ?h2 ?h3 (setRow_heap _ (w.heap.size + 1) _ _ 93 (0, 0) HP2.out)) rfl ?_
    case h2 => rfl
    case h3 => rfl
    exact ⟨below_row HB2.out (by omega), _, _, _, _, _, rfl⟩
  | some L =>
    obtain ⟨v, d2, rfl, hv⟩ := he
    obtain ⟨l, -, hL, hl, hall⟩ := fields_some HFM.out
    match L, (show L.length = 3 by rw [hL, List.length_map, hl]) with
    | [a, b, x], hLl =>
      have HKM := Lib.hid (rowM_eq HFM.out)
      obtain ⟨bb, oo, cc, rfl, hbb, hg⟩ := shs_get hv rfl (by omega)
      obtain ⟨ua, ca, ha⟩ := hg 0 (by omega)
      obtain ⟨ub, cb, hb⟩ := hg 1 (by omega)
      obtain ⟨ux, cx, hx⟩ := hg 2 (by omega)
      rw [Nat.add_zero] at ca
      have hta := as_num ha
      have htb := as_num hb
      simp only [List.getElem_cons_zero, List.getElem_cons_succ] at hta htb hx
      obtain ⟨t, y, fn, z, rfl, hfn, hm, hcv⟩ := sh_value hx (by simp only [List.all_cons, Bool.and_eq_true] at hall; exact hall.2.2.1)
      have HCV := Lib.hid hcv
      clear ha hb hg hv hL hl HFM hLl hx hcv hall
      have HR2 : Hid ((if isNum a = true ∧ isNum b = true then some (numV a, numV b, x.val) else none) = r) := by unfold Hid; rw [← HKM.out]; exact HR.out
      clear HR HKM
      generalize isNum a = qa at hta HR2
      generalize isNum b = qb at htb HR2
      generalize numV a = n at hta HR2
      generalize numV b = m at htb HR2
      generalize x.val = xv at HCV HR2
      obtain ⟨vk, vn, vs⟩ := xv
      have HAll := Lib.hid (one5 n m vk vn vs)
      rcases hfn with rfl | rfl | rfl
      all_goals (
        go_wp2_with fail
        refine (HCV.out _).mono ?_
        rintro _ w3 ⟨rfl, hb3⟩
        have HP3 : Hid (w3.heap[w.heap.size + 1]? = some (.cells #[.int .i64 0, .int .i64 0, .int .i64 0, .int .i64 0, .string ⟨#[]⟩] 93 (0, 0))) := (hb3.block _ HZ.out).trans HP2.out
        have HB3 := Lib.hid (HB2.out.trans (hb3.mono HB2.out.size))
        clear hb3 HP2 HB2 HCV
        simp only
        cases qa with
        | false =>
          have hr : r = none := by rw [← HR2.out, if_neg (by simp)]
          subst hr
          clear HR2
          go_wp2_with (refine wpList_store_row (P := Tryz.prog) rfl 93 _ _ rfl (w.heap.size + 1) #[.int .i64 n, .int .i64 m, .int .i64 vk, .int .i64 vn, .string vs] rfl rfl 93 _ HP3.out (HSS.out _ _ _ _ _) rfl HAll.out ?_)
          refine bodyPost_ret (results30 _ _ (w.heap.size + 1) n m vk vn vs false ?h2 ?h3 (setRow_heap _ (w.heap.size + 1) _ _ 93 (0, 0) HP3.out)) rfl ?_
          case h2 => rfl
          case h3 => rfl
          exact ⟨below_row HB3.out (by omega), _, _, _, _, _, rfl⟩
        | true =>
          go_wp2_with (refine wpList_store_row (P := Tryz.prog) rfl 93 _ _ rfl (w.heap.size + 1) #[.int .i64 n, .int .i64 m, .int .i64 vk, .int .i64 vn, .string vs] rfl rfl 93 _ HP3.out (HSS.out _ _ _ _ _) rfl HAll.out ?_)
          refine bodyPost_ret (results30 _ _ (w.heap.size + 1) n m vk vn vs qb ?h2 ?h3 (setRow_heap _ (w.heap.size + 1) _ _ 93 (0, 0) HP3.out)) rfl ?_
          case h2 => rfl
          case h3 => rfl
          refine ⟨below_row HB3.out (by omega), ?_⟩
          rw [← HR2.out]
          cases qb with
          | false => rw [if_neg (by simp)]; exact ⟨_, _, _, _, _, rfl⟩
          | true => rw [if_pos ⟨by trivial, by trivial⟩])
end Go.Proofs.YtjanddnlhaionaaGreatDoor
namespace Go.Proofs.YtjanddnlhaionaaGreatDoor
open Go.RowKit
open L4 (C LAt)
open L2 (Row Vl RowsAt rowsOK valOK)

theorem info43 : ∃ i, Tryz.prog.info? 93 = some i ∧ i.zero = some (.agg #[.int .i64 0, .int .i64 0, .int .i64 0, .int .i64 0, .string ⟨#[]⟩]) ∧ i.size = 5 ∧ i.bytes = 48 := by
  have h : (Tryz.prog.info? 93).map (fun i => (i.zero, i.size, i.bytes)) = some (some (.agg #[.int .i64 0, .int .i64 0, .int .i64 0, .int .i64 0, .string ⟨#[]⟩]), 5, 48) := by kernel_rfl
  cases hq : Tryz.prog.info? 93 with
  | none => rw [hq] at h; cases h
  | some i =>
    rw [hq] at h
    simp only [Option.map_some, Option.some.injEq, Prod.mk.injEq] at h
    exact ⟨i, rfl, h.1, h.2.1, h.2.2⟩
theorem info55 : ∃ i, Tryz.prog.info? 95 = some i ∧ i.zero = some (.agg #[.int .u8 0, .string ⟨#[]⟩]) ∧ i.size = 2 ∧ i.bytes = 24 := by
  have h : (Tryz.prog.info? 95).map (fun i => (i.zero, i.size, i.bytes)) = some (some (.agg #[.int .u8 0, .string ⟨#[]⟩]), 2, 24) := by kernel_rfl
  cases hq : Tryz.prog.info? 95 with
  | none => rw [hq] at h; cases h
  | some i =>
    rw [hq] at h
    simp only [Option.map_some, Option.some.injEq, Prod.mk.injEq] at h
    exact ⟨i, rfl, h.1, h.2.1, h.2.2⟩
theorem info9 : ∃ i, Tryz.prog.info? 9 = some i ∧ i.zero = some (.string ⟨#[]⟩) ∧ i.size = 1 ∧ i.bytes = 16 := by
  have h : (Tryz.prog.info? 9).map (fun i => (i.zero, i.size, i.bytes)) = some (some (.string ⟨#[]⟩), 1, 16) := by kernel_rfl
  cases hq : Tryz.prog.info? 9 with
  | none => rw [hq] at h; cases h
  | some i =>
    rw [hq] at h
    simp only [Option.map_some, Option.some.injEq, Prod.mk.injEq] at h
    exact ⟨i, rfl, h.1, h.2.1, h.2.2⟩

def kidsC (l : List Kd) : List Value := l.flatMap fun k => [.int .u8 k.f, .string k.id]
def txtsC (l : List ByteArray) : List Value := l.map Value.string
theorem kidsC_append (a b : List Kd) : kidsC (a ++ b) = kidsC a ++ kidsC b := by simp [kidsC]
theorem kidsC_get : ∀ (l : List Kd) (i : Nat) (h : i < l.length), (kidsC l)[i * 2]? = some (.int .u8 l[i].f) ∧ (kidsC l)[i * 2 + 1]? = some (.string l[i].id)
  | k :: l, 0, _ => ⟨rfl, rfl⟩
  | k :: l, i + 1, h => by
    have e : kidsC (k :: l) = .int .u8 k.f :: .string k.id :: kidsC l := rfl
    have := kidsC_get l i (by simpa using h)
    rw [e, show (i + 1) * 2 = i * 2 + 1 + 1 by omega]
    exact this
theorem rg_rows {w W : World} {v : Value} {l : List Row} (h : RG 93 5 w v l.length (L2.rcells l) W) : RowsAt W W.heap.size v l := by
  rcases own_cells h.own with ⟨rfl, h0⟩ | ⟨g, cap, rfl, hb, hg, hnc, hcm, hc⟩
  · rw [List.length_eq_zero_iff.1 h0]; exact rowsNil _ _
  · refine ⟨_, cap, rfl, hnc, hcm, fun _ => ⟨g, 0, rfl, hg, fun i hi => ?_⟩⟩
    have hq : ∀ j, j < 5 → W.cell? ⟨g, 0 + i * 5 + j, none⟩ = (L2.rowC l[i])[j]? := fun j hj => by
      rw [Nat.zero_add, hc _ (by omega), L2.rcells_get l i j hi hj]
    exact ⟨hq 0 (by omega), hq 1 (by omega), hq 2 (by omega), hq 3 (by omega), hq 4 (by omega)⟩
theorem rg_kids {w W : World} {v : Value} {l : List Kd} (h : RG 95 2 w v l.length (kidsC l) W) (hf : ∀ k ∈ l, 0 ≤ k.f ∧ k.f ≤ 255) : KidsAt W W.heap.size v l := by
  rcases own_cells h.own with ⟨rfl, h0⟩ | ⟨g, cap, rfl, hb, hg, hnc, hcm, hc⟩
  · rw [List.length_eq_zero_iff.1 h0]; exact KidsAt.nil _ _
  · refine ⟨_, cap, rfl, hnc, hcm, fun _ => ⟨g, 0, rfl, hg, fun i hi => ?_⟩⟩
    obtain ⟨q1, q2⟩ := kidsC_get l i hi
    exact ⟨by rw [Nat.zero_add, hc _ (by omega)]; exact q1, by rw [Nat.zero_add, hc _ (by omega)]; exact q2, (hf _ (List.getElem_mem hi)).1, (hf _ (List.getElem_mem hi)).2⟩
theorem rg_txts {w W : World} {v : Value} {l : List ByteArray} (h : RG 9 1 w v l.length (txtsC l) W) : TxtsAt W W.heap.size v l := by
  rcases own_cells h.own with ⟨rfl, h0⟩ | ⟨g, cap, rfl, hb, hg, hnc, hcm, hc⟩
  · rw [List.length_eq_zero_iff.1 h0]; exact TxtsAt.nil _ _
  · refine ⟨_, cap, rfl, hnc, hcm, fun _ => ⟨g, 0, rfl, hg, fun i hi => ?_⟩⟩
    rw [Nat.zero_add, hc _ (by omega)]
    simp [txtsC, hi]

theorem lat_wf {w : World} {B d : Nat} {v : Value} {l : List C} (h : LAt w B d v l) : ∀ x ∈ l, L4.Wf x := by
  cases d with
  | zero => exact h.elim
  | succ d =>
    intro x hx
    obtain ⟨i, hi, rfl⟩ := List.getElem_of_mem hx
    obtain ⟨A, cap, -, -, -, h3⟩ := h
    obtain ⟨b, o, -, -, hr⟩ := h3 (by omega)
    obtain ⟨u, -, f, -⟩ := hr i hi
    exact f
def NumB (r : Row) : Prop := -9223372036854775808 ≤ r.2.2.2.1 ∧ r.2.2.2.1 ≤ 9223372036854775807
theorem row_num {c : C} {r : Row} (h : rowM c = some r) (hw : ∀ x ∈ c.l, L4.Wf x) : NumB r := by
  unfold rowM at h
  cases hf : fieldsM c 3 with
  | none => rw [hf] at h; cases h
  | some L =>
    obtain ⟨l, rfl, rfl, hl, -⟩ := fields_some hf
    match l, hl with
    | [a, b, v], _ =>
      rw [hf] at h
      simp only [List.map_cons, List.map_nil, Option.bind_eq_some_iff] at h
      obtain ⟨x, hx, y, hy, h⟩ := h
      injection h with h
      subst h
      unfold NumB
      simp only
      cases hs : shOf v with
      | num n =>
        have hv := hw v (by simp [listC, L4.l_mk])
        rw [sh_num.1 hs] at hv
        exact ⟨hv.n0, hv.n1⟩
      | text s => exact ⟨by show (-9223372036854775808 : Int) ≤ 0; omega, by show (0 : Int) ≤ _; omega⟩
      | none => exact ⟨by show (-9223372036854775808 : Int) ≤ 0; omega, by show (0 : Int) ≤ _; omega⟩
      | list l => exact ⟨by show (-9223372036854775808 : Int) ≤ 0; omega, by show (0 : Int) ≤ _; omega⟩

def addM {α : Type} (a : List α) (o : Option (List α)) : Option (List α) := o.map (a ++ ·)
theorem addM_nil {α : Type} (o : Option (List α)) : addM [] o = o := by cases o <;> rfl
theorem addM_cons {α : Type} {f : C → Option α} {a : List α} {c : C} {l : List C} {x : α} (h : f c = some x) : addM a (allM f (c :: l)) = addM (a ++ [x]) (allM f l) := by
  rw [allM, h]
  cases allM f l <;> simp [addM]
theorem addM_bad {α : Type} {f : C → Option α} {a : List α} {c : C} {l : List C} (h : f c = none) : addM a (allM f (c :: l)) = none := by
  rw [allM, h]; rfl
theorem addM_end {α : Type} {f : C → Option α} (a : List α) : addM a (allM f []) = some a := by rw [allM]; simp [addM]
theorem list_not {α : Type} {f : C → Option α} {sh : Sh} (h : ∀ l, sh ≠ .list l) : listM f sh = none := by
  cases sh with
  | list l => exact absurd rfl (h l)
  | _ => rfl

/-- A slice whose array, if it has one, lies from lo on. -/
def FreshV (lo : Nat) (v : Value) : Prop := ∀ b o n c, v = .slice (some ⟨b, o, none⟩) n c → lo ≤ b
theorem RG.fresh {T : TypeId} {k : Nat} {w : World} {v : Value} {n : Nat} {cells : List Value} {W : World} (h : RG T k w v n cells W) : FreshV w.heap.size v := by
  intro b o n' c e
  rcases own_cells h.own with ⟨rfl, _⟩ | ⟨g, cap, rfl, hb, -⟩
  · cases e
  · injection e with e _ _; injection e with e; injection e with e; omega
theorem rows_same {w w' : World} {B : Nat} {v : Value} {l : List Row} (h : RowsAt w B v l) (hk : ∀ b o n c, v = .slice (some ⟨b, o, none⟩) n c → ∀ o', w'.cell? ⟨b, o', none⟩ = w.cell? ⟨b, o', none⟩) : RowsAt w' B v l := by
  obtain ⟨A, cap, rfl, h1, h2, h3⟩ := h
  refine ⟨A, cap, rfl, h1, h2, fun hl => ?_⟩
  obtain ⟨b, o, rfl, hb, hr⟩ := h3 hl
  exact ⟨b, o, rfl, hb, fun i hi => (hr i hi).keep fun o' => hk b o _ _ rfl o'⟩
theorem kids_same {w w' : World} {B : Nat} {v : Value} {l : List Kd} (h : KidsAt w B v l) (hk : ∀ b o n c, v = .slice (some ⟨b, o, none⟩) n c → ∀ o', w'.cell? ⟨b, o', none⟩ = w.cell? ⟨b, o', none⟩) : KidsAt w' B v l := by
  obtain ⟨A, cap, rfl, h1, h2, h3⟩ := h
  refine ⟨A, cap, rfl, h1, h2, fun hl => ?_⟩
  obtain ⟨b, o, rfl, hb, hr⟩ := h3 hl
  exact ⟨b, o, rfl, hb, fun i hi => (hr i hi).keep fun o' => hk b o _ _ rfl o'⟩
theorem txts_same {w w' : World} {B : Nat} {v : Value} {l : List ByteArray} (h : TxtsAt w B v l) (hk : ∀ b o n c, v = .slice (some ⟨b, o, none⟩) n c → ∀ o', w'.cell? ⟨b, o', none⟩ = w.cell? ⟨b, o', none⟩) : TxtsAt w' B v l := by
  obtain ⟨A, cap, rfl, h1, h2, h3⟩ := h
  refine ⟨A, cap, rfl, h1, h2, fun hl => ?_⟩
  obtain ⟨b, o, rfl, hb, hr⟩ := h3 hl
  exact ⟨b, o, rfl, hb, fun i hi => (hk b o _ _ rfl _).trans (hr i hi)⟩

def RowsTo (w : World) (r : Option (List Row)) (e : Ending) (w' : World) : Prop :=
  Below w.heap.size w w' ∧ match r with
    | some l => ∃ v, e = .returned (.tuple #[v, .bool true]) ∧ RowsAt w' w'.heap.size v l ∧ FreshV w.heap.size v ∧ ∀ r ∈ l, NumB r
    | none => e = .returned (.tuple #[.slice none 0 0, .bool false])
def KidsTo (w : World) (r : Option (List Kd)) (e : Ending) (w' : World) : Prop :=
  Below w.heap.size w w' ∧ match r with
    | some l => ∃ v, e = .returned (.tuple #[v, .bool true]) ∧ KidsAt w' w'.heap.size v l ∧ FreshV w.heap.size v
    | none => e = .returned (.tuple #[.slice none 0 0, .bool false])
def TxtsTo (w : World) (r : Option (List ByteArray)) (e : Ending) (w' : World) : Prop :=
  Below w.heap.size w w' ∧ match r with
    | some l => ∃ v, e = .returned (.tuple #[v, .bool true]) ∧ TxtsAt w' w'.heap.size v l ∧ FreshV w.heap.size v
    | none => e = .returned (.tuple #[.slice none 0 0, .bool false])
end Go.Proofs.YtjanddnlhaionaaGreatDoor
