/-
  The contract of objectCell at a commit; objectCell, Put, Id, PutRows. No condition but that numbers are ints, and that there are few rows, kids and parents.
-/
import Derived.Test.YtjanddnlhaionaaGreatDoorOL
import Derived.Test.YtjanddnlhaionaaGreatDoorL3x1
namespace Go.Proofs.YtjanddnlhaionaaGreatDoor
open Go.RowKit
open L4 (C LIn LNF Unf Wf rcells rowC)
open L2 (Row Vl RowsAt rowsOK valOK)

set_option maxRecDepth 100000 in
set_option maxHeartbeats 4000000 in
theorem objectCell17_commit (kd : Int) (label : ByteArray) (rows : List Row) (kids : List Kd) (parents : List ByteArray) (stamp : Int) (note root : ByteArray) (r k p : Value) (w : World) (h : ObAt w r k p ⟨kd, label, rows, kids, parents, stamp, note, root⟩) (hw : ObW ⟨kd, label, rows, kids, parents, stamp, note, root⟩) (hk : (kd == 1) = false) (hk2 : kd = 2) :
    Calls Tryz.prog 46 #[.agg #[.int .i64 kd, .string label, r, k, p, .int .i64 stamp, .string note, .string root]] w (ListOf w [numC kd, textsCl parents, numC stamp, textC note, textC root]) := by
  have HOB := Lib.hid (OB.start w ⟨kd, label, rows, kids, parents, stamp, note, root⟩ r k p)
  unfold obVs at HOB
  simp only at HOB
  have HH := Lib.hid h
  have HPC : Hid (∀ W, Below w.heap.size w W → Calls Tryz.prog 93 #[p, .func (.func 90) #[] #[]] W (ListOf W (parents.map textC))) := fun W hb => listCell38 parents p W (h.step hb).parents (by have := hw.np; simp only at this; omega) hw.parents
  have HBU : Hid (∀ (W : World) (lo : Nat) (A1 : Option Addr) (n1 c1 D1 : Nat), lo ≤ W.heap.size → LNF lo W W.heap.size D1 (.slice A1 n1 c1) (parents.map textC) → _) := fun W lo A1 n1 c1 D1 hlo hr => commit_built kd stamp note root _ W lo A1 n1 c1 D1 hlo (by omega) (by omega) h.s0 h.s1 hw.note hw.root hr
  have HCN : Hid (L4.cntL [numC kd, listC (parents.map textC), numC stamp, textC note, textC root] ≤ 5000) := by
    unfold Hid
    have h1 := cntL_const textC 1 cnt_text parents
    have h3 := hw.np
    simp only at h3
    simp only [L4.cntL_cons, L4.cntL_nil, numC, textC, listC, L4.cntC_mk] at h1 ⊢
    omega
  obtain ⟨A, ca, hp, -, -, -⟩ := h.parents
  simp only at hp
  subst hp
  clear h hw hk2
  go_enter Tryz.func46, Tryz.ntmps46
  go_wp2_with fail
  refine (L4.num16 _ _).mono ?_
  rintro _ w1 ⟨rfl, hb1⟩
  have HO1 := Lib.hid (HOB.out.step hb1)
  have HT1 := Lib.hid (OT.start HO1.out)
  simp only at HT1
  have d0 := HO1.out.c0
  have d0' := HT1.out.ob.c0
  clear HOB hb1 HO1
  go_wp2_with fail
  clear d0 d0'
  go_region_held3 (fun W => W.cell? ⟨w1.heap.size, 0, none⟩ = some (.int .i64 1) ∧ W.cell? ⟨w1.heap.size, 1, none⟩ = some (.int .i64 kd) ∧ W.cell? ⟨w1.heap.size, 2, none⟩ = some (.string ⟨#[]⟩) ∧ W.cell? ⟨w1.heap.size, 3, none⟩ = some (.slice none 0 0) ∧ W.cell? ⟨w.heap.size, 4, none⟩ = some (.slice A parents.length ca) ∧ W.cell? ⟨w.heap.size, 5, none⟩ = some (.int .i64 stamp) ∧ W.cell? ⟨w.heap.size, 6, none⟩ = some (.string note) ∧ W.cell? ⟨w.heap.size, 7, none⟩ = some (.string root) ∧ OT w ⟨kd, label, rows, kids, parents, stamp, note, root⟩ r k (.slice A parents.length ca) w1.heap.size W)
    ((refine OT.s2 (o := ⟨kd, label, rows, kids, parents, stamp, note, root⟩) ?_; first | exact HT1.out.drew | exact OT.put (by go_split_ands; assumption) _ _ _ _ | exact OT.step (by go_split_ands; assumption) (by assumption) | exact OT.step (by go_split_ands; assumption) ((Below.refl _ _).alloc (Nat.le_refl _) _))) (first | (go_at_call 93; refine (HPC.out _ (OB.below (OT.ob (by go_split_ands; assumption)))).mono ?_; rintro _ w3 ⟨B1, n1, c1, D1, rfl, hl1, hb⟩; have HL1 := Lib.hid (lnf_lo (lo' := w.heap.size + 2) (OT.lt (by go_split_ands; assumption)) hl1); clear hl1) | (go_at_call 88; refine (L4.num16 _ _).mono ?_; rintro _ w4 ⟨rfl, hb⟩; have HL3 := Lib.hid (lnf_step HL1.out hb)) | (go_at_call 90; refine (L4.text17 _ _).mono ?_; rintro _ w5 ⟨rfl, hb⟩; have HL3 := Lib.hid (lnf_step HL3.out hb); have hz5 := Lib.hid (OT.lt (OT.step (by go_split_ands; assumption) hb))) | (go_at_call 89; refine (L4.list18 (lo := w.heap.size + 2) _ _ _ _ (HBU.out _ _ _ _ _ _ hz5.out HL3.out) HCN.out (OT.lt (by go_split_ands; assumption))).mono ?_; rintro _ w6 ⟨B3, m, cap, D, rfl, hl, hb⟩; have HL := Lib.hid hl; clear hl; obtain ⟨a, b, c, d, hr⟩ := OB.res (OT.ob (OT.step (by go_split_ands; assumption) hb)); obtain ⟨z0, z1, z2, z3, z4, z5, z6, z7⟩ := row_facts hr; have HR := Lib.hid hr; have HKB := Lib.hid (OB.below (OT.ob (OT.step (by go_split_ands; assumption) hb))); clear hr))
  have HSS := Lib.hid (L4.size_four 3 0 ⟨#[]⟩ B3 m cap)
  go_wp2
  refine bodyPost_ret (results_cell_row (p := 2) (ty := 38) rfl _ _ (w.heap.size + 1) 38 #[.int .i64 3, .int .i64 0, .string ⟨#[]⟩, .slice B3 m cap] (0, 0) _ ?hp (set4 _ _ _ _ _ _ _ _ _ _ HR.out) Tryz.underlying38 rfl (by exact HSS.out)) rfl ?_
  case hp => rfl
  exact ListOf.put (by omega) HL.out HKB.out
end Go.Proofs.YtjanddnlhaionaaGreatDoor
