/-
  The contract of objectCell. No condition but that numbers are ints, and that there are few rows, kids and parents.
-/
import Derived.Test.YtjanddnlhaionaaGreatDoorOK
namespace Go.Proofs.YtjanddnlhaionaaGreatDoor
open Go.RowKit
open L4 (C LIn LNF Unf Wf rcells rowC)
open L2 (Row Vl RowsAt rowsOK valOK)

structure OB (w : World) (o : Ob) (r k p : Value) (W : World) : Prop where
  c0 : W.cell? ⟨w.heap.size, 0, none⟩ = some (.int .i64 o.k)
  c1 : W.cell? ⟨w.heap.size, 1, none⟩ = some (.string o.label)
  c2 : W.cell? ⟨w.heap.size, 2, none⟩ = some r
  c3 : W.cell? ⟨w.heap.size, 3, none⟩ = some k
  c4 : W.cell? ⟨w.heap.size, 4, none⟩ = some p
  c5 : W.cell? ⟨w.heap.size, 5, none⟩ = some (.int .i64 o.stamp)
  c6 : W.cell? ⟨w.heap.size, 6, none⟩ = some (.string o.note)
  c7 : W.cell? ⟨w.heap.size, 7, none⟩ = some (.string o.root)
  below : Below w.heap.size w W
  lt : w.heap.size + 2 ≤ W.heap.size
  res : ∃ a b c d, W.heap[w.heap.size + 1]? = some (.cells #[a, b, c, d] 38 (0, 0))
set_option maxRecDepth 100000 in
theorem OB.start (w : World) (o : Ob) (r k p : Value) : OB w o r k p ((w.alloc (.cells (obVs o r k p) 27)).alloc (.cells #[.int .i64 0, .int .i64 0, .string ⟨#[]⟩, .slice none 0 0] 38)) := by
  have hb : Below w.heap.size w ((w.alloc (.cells (obVs o r k p) 27)).alloc (.cells #[.int .i64 0, .int .i64 0, .string ⟨#[]⟩, .slice none 0 0] 38)) := ((Below.refl _ w).alloc (Nat.le_refl _) _).alloc (by simp) _
  exact ⟨by simp [obVs, go_sem], by simp [obVs, go_sem], by simp [obVs, go_sem], by simp [obVs, go_sem], by simp [obVs, go_sem], by simp [obVs, go_sem], by simp [obVs, go_sem], by simp [obVs, go_sem], hb, by simp, ⟨_, _, _, _, by have := heap_alloc_new (w.alloc (.cells (obVs o r k p) 27)) (.cells #[.int .i64 0, .int .i64 0, .string ⟨#[]⟩, .slice none 0 0] 38); simpa using this⟩⟩
set_option maxRecDepth 100000 in
theorem OB.step {w : World} {o : Ob} {r k p : Value} {W W' : World} (h : OB w o r k p W) (hb : Below W.heap.size W W') : OB w o r k p W' := by
  have hl := h.lt
  obtain ⟨a, b, c, d, hr⟩ := h.res
  have hq : ∀ j, W'.cell? ⟨w.heap.size, j, none⟩ = W.cell? ⟨w.heap.size, j, none⟩ := fun j => hb.cell (p := ⟨w.heap.size, j, none⟩) (show w.heap.size < _ by omega)
  exact ⟨(hq _).trans h.c0, (hq _).trans h.c1, (hq _).trans h.c2, (hq _).trans h.c3, (hq _).trans h.c4, (hq _).trans h.c5, (hq _).trans h.c6, (hq _).trans h.c7, h.below.trans (hb.mono (by omega)), Nat.le_trans h.lt hb.size, ⟨a, b, c, d, (hb.block _ (by omega)).trans hr⟩⟩

/-- .. and the cell of the kind, in a block T. -/
structure OT (w : World) (o : Ob) (r k p : Value) (T : Nat) (W : World) : Prop where
  ob : OB w o r k p W
  row : W.heap[T]? = some (.cells #[.int .i64 1, .int .i64 o.k, .string ⟨#[]⟩, .slice none 0 0] 38 (0, 0))
  tl : w.heap.size + 1 < T
set_option maxRecDepth 100000 in
theorem OT.step {w : World} {o : Ob} {r k p : Value} {T : Nat} {W W' : World} (h : OT w o r k p T W) (hb : Below W.heap.size W W') : OT w o r k p T W' :=
  ⟨h.ob.step hb, (hb.block T (Array.getElem?_eq_some_iff.1 h.row).1).trans h.row, h.tl⟩
set_option maxRecDepth 100000 in
theorem OT.start {w : World} {o : Ob} {r k p : Value} {W : World} (h : OB w o r k p W) : OT w o r k p W.heap.size (W.alloc (.cells #[.int .i64 1, .int .i64 o.k, .string ⟨#[]⟩, .slice none 0 0] 38)) :=
  ⟨h.step ((Below.refl _ _).alloc (Nat.le_refl _) _), heap_alloc_new _ _, by have := h.lt; omega⟩
set_option maxRecDepth 100000 in
theorem OT.lt {w : World} {o : Ob} {r k p : Value} {T : Nat} {W : World} (h : OT w o r k p T W) : w.heap.size + 2 ≤ W.heap.size := h.ob.lt
set_option maxRecDepth 100000 in
theorem OB.drew {w : World} {o : Ob} {r k p : Value} {W : World} (h : OB w o r k p W) : OB w o r k p W.drew :=
  ⟨h.c0, h.c1, h.c2, h.c3, h.c4, h.c5, h.c6, h.c7, h.below.drew, h.lt, h.res⟩
set_option maxRecDepth 100000 in
theorem OT.drew {w : World} {o : Ob} {r k p : Value} {T : Nat} {W : World} (h : OT w o r k p T W) : OT w o r k p T W.drew := ⟨h.ob.drew, h.row, h.tl⟩
set_option maxRecDepth 100000 in
theorem OT.put {w : World} {o : Ob} {r k p : Value} {T : Nat} {W : World} (h : OT w o r k p T W) (v0 v1 v2 v3 : Value) : OT w o r k p T ((((W.setCell ⟨w.heap.size + 1, 0, none⟩ v0).setCell ⟨w.heap.size + 1, 1, none⟩ v1).setCell ⟨w.heap.size + 1, 2, none⟩ v2).setCell ⟨w.heap.size + 1, 3, none⟩ v3) := by
  have ht := h.tl
  obtain ⟨a, b, c, d, hr⟩ := h.ob.res
  have e := h.ob
  have q1 := fun j => L4.cell_same (set4_other W (w.heap.size + 1) w.heap.size v0 v1 v2 v3 (by omega)) j
  have q2 := set4_other W (w.heap.size + 1) T v0 v1 v2 v3 (by omega)
  exact ⟨⟨(q1 _).trans e.c0, (q1 _).trans e.c1, (q1 _).trans e.c2, (q1 _).trans e.c3, (q1 _).trans e.c4, (q1 _).trans e.c5, (q1 _).trans e.c6, (q1 _).trans e.c7, e.below.trans ⟨rfl, rfl, rfl, by rw [set4_size]; exact Nat.le_refl _, fun k hk => set4_other _ _ _ _ _ _ _ (by omega)⟩, by rw [set4_size]; exact e.lt, ⟨v0, v1, v2, v3, set4 _ _ _ _ _ _ _ _ _ _ hr⟩⟩, q2.trans h.row, ht⟩
set_option maxRecDepth 100000 in
/-- The cells that the last statement of objectCell loads. -/
theorem OT.s1 {w : World} {o : Ob} {r k p : Value} {T : Nat} {W : World} (h : OT w o r k p T W) : W.cell? ⟨T, 0, none⟩ = some (.int .i64 1) ∧ W.cell? ⟨T, 1, none⟩ = some (.int .i64 o.k) ∧ W.cell? ⟨T, 2, none⟩ = some (.string ⟨#[]⟩) ∧ W.cell? ⟨T, 3, none⟩ = some (.slice none 0 0) ∧ W.cell? ⟨w.heap.size, 1, none⟩ = some (.string o.label) ∧ W.cell? ⟨w.heap.size, 2, none⟩ = some r ∧ W.cell? ⟨w.heap.size, 3, none⟩ = some k ∧ OT w o r k p T W :=
  ⟨cell_of_row W T 0 _ 38 (0, 0) h.row, cell_of_row W T 1 _ 38 (0, 0) h.row, cell_of_row W T 2 _ 38 (0, 0) h.row, cell_of_row W T 3 _ 38 (0, 0) h.row, h.ob.c1, h.ob.c2, h.ob.c3, h⟩
set_option maxRecDepth 100000 in
theorem OT.s2 {w : World} {o : Ob} {r k p : Value} {T : Nat} {W : World} (h : OT w o r k p T W) : W.cell? ⟨T, 0, none⟩ = some (.int .i64 1) ∧ W.cell? ⟨T, 1, none⟩ = some (.int .i64 o.k) ∧ W.cell? ⟨T, 2, none⟩ = some (.string ⟨#[]⟩) ∧ W.cell? ⟨T, 3, none⟩ = some (.slice none 0 0) ∧ W.cell? ⟨w.heap.size, 4, none⟩ = some p ∧ W.cell? ⟨w.heap.size, 5, none⟩ = some (.int .i64 o.stamp) ∧ W.cell? ⟨w.heap.size, 6, none⟩ = some (.string o.note) ∧ W.cell? ⟨w.heap.size, 7, none⟩ = some (.string o.root) ∧ OT w o r k p T W :=
  ⟨cell_of_row W T 0 _ 38 (0, 0) h.row, cell_of_row W T 1 _ 38 (0, 0) h.row, cell_of_row W T 2 _ 38 (0, 0) h.row, cell_of_row W T 3 _ 38 (0, 0) h.row, h.ob.c4, h.ob.c5, h.ob.c6, h.ob.c7, h⟩

set_option maxRecDepth 100000 in
theorem wf_list (l : List C) : Wf (listC l) :=
  ⟨by show (-9223372036854775808 : Int) ≤ 3; omega, by show (3 : Int) ≤ _; omega, by show (-9223372036854775808 : Int) ≤ 0; omega, by show (0 : Int) ≤ _; omega, by show (0 : Nat) ≤ _; omega⟩
set_option maxRecDepth 100000 in
theorem node_built (kd : Int) (label : ByteArray) (l1 l2 : List C) (W : World) (lo : Nat) (A1 A2 : Option Addr) (n1 n2 c1 c2 D1 D2 : Nat) (hlo : lo ≤ W.heap.size) (h0 : -9223372036854775808 ≤ kd) (h1 : kd ≤ 9223372036854775807) (hs : label.size ≤ 9223372036854775807)
    (hr : LNF lo W W.heap.size D1 (.slice A1 n1 c1) l1) (hk : LNF lo W W.heap.size D2 (.slice A2 n2 c2) l2) :
    LNF lo (W.alloc (.cells #[.int .i64 1, .int .i64 kd, .string ⟨#[]⟩, .slice none 0 0, .int .i64 2, .int .i64 0, .string label, .slice none 0 0, .int .i64 3, .int .i64 0, .string ⟨#[]⟩, .slice A1 n1 c1, .int .i64 3, .int .i64 0, .string ⟨#[]⟩, .slice A2 n2 c2] 38)) (W.alloc (.cells #[.int .i64 1, .int .i64 kd, .string ⟨#[]⟩, .slice none 0 0, .int .i64 2, .int .i64 0, .string label, .slice none 0 0, .int .i64 3, .int .i64 0, .string ⟨#[]⟩, .slice A1 n1 c1, .int .i64 3, .int .i64 0, .string ⟨#[]⟩, .slice A2 n2 c2] 38)).heap.size (1 + D1 + D2 + 1) (.slice (some ⟨W.heap.size, 0, none⟩) 4 4) [numC kd, textC label, listC l1, listC l2] :=
  lnf_built hlo [(numC kd, .slice none 0 0), (textC label, .slice none 0 0), (listC l1, .slice A1 n1 c1), (listC l2, .slice A2 n2 c2)] (1 + D1 + D2) (fun x hx => by
    simp only [List.mem_cons, List.not_mem_nil, or_false] at hx
    rcases hx with rfl | rfl | rfl | rfl
    · exact ⟨wf_num h0 h1, lnf_up (lnf_nil _ _ _ 0) (by omega)⟩
    · exact ⟨wf_text hs, lnf_up (lnf_nil _ _ _ 0) (by omega)⟩
    · exact ⟨wf_list _, lnf_up hr (by omega)⟩
    · exact ⟨wf_list _, lnf_up hk (by omega)⟩) (by simp)
set_option maxRecDepth 100000 in
theorem commit_built (kd st : Int) (note root : ByteArray) (l1 : List C) (W : World) (lo : Nat) (A1 : Option Addr) (n1 c1 D1 : Nat) (hlo : lo ≤ W.heap.size) (h0 : -9223372036854775808 ≤ kd) (h1 : kd ≤ 9223372036854775807) (h2 : -9223372036854775808 ≤ st) (h3 : st ≤ 9223372036854775807) (hs : note.size ≤ 9223372036854775807) (hs2 : root.size ≤ 9223372036854775807)
    (hr : LNF lo W W.heap.size D1 (.slice A1 n1 c1) l1) :
    LNF lo (W.alloc (.cells #[.int .i64 1, .int .i64 kd, .string ⟨#[]⟩, .slice none 0 0, .int .i64 3, .int .i64 0, .string ⟨#[]⟩, .slice A1 n1 c1, .int .i64 1, .int .i64 st, .string ⟨#[]⟩, .slice none 0 0, .int .i64 2, .int .i64 0, .string note, .slice none 0 0, .int .i64 2, .int .i64 0, .string root, .slice none 0 0] 38)) (W.alloc (.cells #[.int .i64 1, .int .i64 kd, .string ⟨#[]⟩, .slice none 0 0, .int .i64 3, .int .i64 0, .string ⟨#[]⟩, .slice A1 n1 c1, .int .i64 1, .int .i64 st, .string ⟨#[]⟩, .slice none 0 0, .int .i64 2, .int .i64 0, .string note, .slice none 0 0, .int .i64 2, .int .i64 0, .string root, .slice none 0 0] 38)).heap.size (1 + D1 + 1) (.slice (some ⟨W.heap.size, 0, none⟩) 5 5) [numC kd, listC l1, numC st, textC note, textC root] :=
  lnf_built hlo [(numC kd, .slice none 0 0), (listC l1, .slice A1 n1 c1), (numC st, .slice none 0 0), (textC note, .slice none 0 0), (textC root, .slice none 0 0)] (1 + D1) (fun x hx => by
    simp only [List.mem_cons, List.not_mem_nil, or_false] at hx
    rcases hx with rfl | rfl | rfl | rfl | rfl
    · exact ⟨wf_num h0 h1, lnf_up (lnf_nil _ _ _ 0) (by omega)⟩
    · exact ⟨wf_list _, lnf_up hr (by omega)⟩
    · exact ⟨wf_num h2 h3, lnf_up (lnf_nil _ _ _ 0) (by omega)⟩
    · exact ⟨wf_text hs, lnf_up (lnf_nil _ _ _ 0) (by omega)⟩
    · exact ⟨wf_text hs2, lnf_up (lnf_nil _ _ _ 0) (by omega)⟩) (by simp)

/-- An object whose lists are few, and whose numbers and strings are in bounds. -/
structure ObW (o : Ob) : Prop where
  rows : ∀ r ∈ o.rows, RowW r
  kids : ∀ k ∈ o.kids, k.id.size ≤ 9223372036854775807
  parents : ∀ s ∈ o.parents, s.size ≤ 9223372036854775807
  label : o.label.size ≤ 9223372036854775807
  note : o.note.size ≤ 9223372036854775807
  root : o.root.size ≤ 9223372036854775807
  nr : o.rows.length ≤ 500
  nk : o.kids.length ≤ 500
  np : o.parents.length ≤ 500

set_option maxRecDepth 100000 in
set_option maxHeartbeats 4000000 in
theorem objectCell17_node (kd : Int) (label : ByteArray) (rows : List Row) (kids : List Kd) (parents : List ByteArray) (stamp : Int) (note root : ByteArray) (r k p : Value) (w : World) (h : ObAt w r k p ⟨kd, label, rows, kids, parents, stamp, note, root⟩) (hw : ObW ⟨kd, label, rows, kids, parents, stamp, note, root⟩) (hk : (kd == 1) = true) :
    Calls Tryz.prog 46 #[.agg #[.int .i64 kd, .string label, r, k, p, .int .i64 stamp, .string note, .string root]] w (ListOf w [numC kd, textC label, rowsCl rows, kidsCl kids]) := by
  have hk1 : kd = 1 := by simpa using hk
  have HOB := Lib.hid (OB.start w ⟨kd, label, rows, kids, parents, stamp, note, root⟩ r k p)
  unfold obVs at HOB
  simp only at HOB
  have HH := Lib.hid h
  have HRC : Hid (∀ W, Below w.heap.size w W → Calls Tryz.prog 53 #[r, .func (.func 54) #[] #[]] W (ListOf W (rows.map rowCl))) := fun W hb => listCell26 rows r W (h.step hb).rows (by have := hw.nr; simp only at this; omega) hw.rows
  have HKC : Hid (∀ W, Below w.heap.size w W → Calls Tryz.prog 91 #[k, .func (.func 92) #[] #[]] W (ListOf W (kids.map kidCl))) := fun W hb => listCell36 kids k W (h.step hb).kids (by have := hw.nk; simp only at this; omega) hw.kids
  have HBU : Hid (∀ (W : World) (lo : Nat) (A1 A2 : Option Addr) (n1 n2 c1 c2 D1 D2 : Nat), lo ≤ W.heap.size → LNF lo W W.heap.size D1 (.slice A1 n1 c1) (rows.map rowCl) → LNF lo W W.heap.size D2 (.slice A2 n2 c2) (kids.map kidCl) → _) := fun W lo A1 A2 n1 n2 c1 c2 D1 D2 hlo hr hk => node_built kd label _ _ W lo A1 A2 n1 n2 c1 c2 D1 D2 hlo (by omega) (by omega) hw.label hr hk
  have HCN : Hid (L4.cntL [numC kd, textC label, listC (rows.map rowCl), listC (kids.map kidCl)] ≤ 5000) := by
    unfold Hid
    have h1 := cntL_const rowCl 4 cnt_row rows
    have h2 := cntL_const kidCl 3 cnt_kid kids
    have h3 := hw.nr
    have h4 := hw.nk
    simp only at h3 h4
    simp only [L4.cntL_cons, L4.cntL_nil, numC, textC, listC, L4.cntC_mk]
    omega
  obtain ⟨A, ca, hr, -, -, -⟩ := h.rows
  obtain ⟨A2, ca2, hkv, -, -, -⟩ := h.kids
  simp only at hr hkv
  subst hr hkv
  clear h hw hk1
  go_enter Tryz.func46, Tryz.ntmps46
  go_wp2_with fail
  refine (L4.num16 _ _).mono ?_
  rintro _ w1 ⟨rfl, hb1⟩
  have HO1 := Lib.hid (HOB.out.step hb1)
  have HT1 := Lib.hid (OT.start HO1.out)
  simp only at HT1
  have d0 := HO1.out.c0
  have d0' := HT1.out.ob.c0
  clear HOB hb1 HO1
  go_wp2_with fail
  clear d0 d0'
  go_region_held3 (fun W => W.cell? ⟨w1.heap.size, 0, none⟩ = some (.int .i64 1) ∧ W.cell? ⟨w1.heap.size, 1, none⟩ = some (.int .i64 kd) ∧ W.cell? ⟨w1.heap.size, 2, none⟩ = some (.string ⟨#[]⟩) ∧ W.cell? ⟨w1.heap.size, 3, none⟩ = some (.slice none 0 0) ∧ W.cell? ⟨w.heap.size, 1, none⟩ = some (.string label) ∧ W.cell? ⟨w.heap.size, 2, none⟩ = some (.slice A rows.length ca) ∧ W.cell? ⟨w.heap.size, 3, none⟩ = some (.slice A2 kids.length ca2) ∧ OT w ⟨kd, label, rows, kids, parents, stamp, note, root⟩ (.slice A rows.length ca) (.slice A2 kids.length ca2) p w1.heap.size W)
    ((refine OT.s1 (o := ⟨kd, label, rows, kids, parents, stamp, note, root⟩) ?_; first | exact HT1.out.drew | exact OT.put (by go_split_ands; assumption) _ _ _ _ | exact OT.step (by go_split_ands; assumption) (by assumption) | exact OT.step (by go_split_ands; assumption) ((Below.refl _ _).alloc (Nat.le_refl _) _))) (first | (go_at_call 90; refine (L4.text17 _ _).mono ?_; rintro _ w2 ⟨rfl, hb⟩) | (go_at_call 53; refine (HRC.out _ (OB.below (OT.ob (by go_split_ands; assumption)))).mono ?_; rintro _ w3 ⟨B1, n1, c1, D1, rfl, hl1, hb⟩; have HL1 := Lib.hid (lnf_lo (lo' := w.heap.size + 2) (OT.lt (by go_split_ands; assumption)) hl1); clear hl1) | (go_at_call 91; refine (HKC.out _ (OB.below (OT.ob (by go_split_ands; assumption)))).mono ?_; rintro _ w5 ⟨B2, n2, c2, D2, rfl, hl2, hb⟩; have HL3 := Lib.hid (lnf_step HL1.out hb); have HL2 := Lib.hid (lnf_lo (lo' := w.heap.size + 2) (OT.lt (by go_split_ands; assumption)) hl2); have hz5 := Lib.hid (OT.lt (OT.step (by go_split_ands; assumption) hb)); clear hl2) | (go_at_call 89; refine (L4.list18 (lo := w.heap.size + 2) _ _ _ _ (HBU.out _ _ _ _ _ _ _ _ _ _ hz5.out HL3.out HL2.out) HCN.out (OT.lt (by go_split_ands; assumption))).mono ?_; rintro _ w6 ⟨B3, m, cap, D, rfl, hl, hb⟩; have HL := Lib.hid hl; clear hl; obtain ⟨a, b, c, d, hr⟩ := OB.res (OT.ob (OT.step (by go_split_ands; assumption) hb)); obtain ⟨z0, z1, z2, z3, z4, z5, z6, z7⟩ := row_facts hr; have HR := Lib.hid hr; have HKB := Lib.hid (OB.below (OT.ob (OT.step (by go_split_ands; assumption) hb))); clear hr))
  have HSS := Lib.hid (L4.size_four 3 0 ⟨#[]⟩ B3 m cap)
  go_wp2
  refine bodyPost_ret (results_cell_row (p := 2) (ty := 38) rfl _ _ (w.heap.size + 1) 38 #[.int .i64 3, .int .i64 0, .string ⟨#[]⟩, .slice B3 m cap] (0, 0) _ ?hp (set4 _ _ _ _ _ _ _ _ _ _ HR.out) Tryz.underlying38 rfl (by exact HSS.out)) rfl ?_
  case hp => rfl
  exact ListOf.put (by omega) HL.out HKB.out
end Go.Proofs.YtjanddnlhaionaaGreatDoor
