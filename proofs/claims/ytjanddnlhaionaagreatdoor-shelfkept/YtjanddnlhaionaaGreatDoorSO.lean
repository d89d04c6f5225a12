/-
  few, of one act; what of no drum is opened. No condition.
-/
import Derived.Test.YtjanddnlhaionaaGreatDoorSN
namespace Go.Proofs.YtjanddnlhaionaaGreatDoor
open Go.RowKit
open L4 (C LAt LIn LNF Wf Box)
open L2 (Row)

theorem weight66_zero (w : World) : Calls Tryz.prog 66 #[.agg #[.int .i64 0, .int .i64 0, .string ⟨#[]⟩, .slice none 0 0], .int .i64 1000, .int .i64 30] w fun e w' => e = .returned (.int .i64 999) ∧ Below w.heap.size w w' := by
  have HB : Hid (Below w.heap.size w (w.alloc (.cells #[.int .i64 0, .int .i64 0, .string ⟨#[]⟩, .slice none 0 0] 38))) := (Below.refl _ _).alloc (Nat.le_refl _) _
  go_enter Tryz.func66, Tryz.ntmps66
  go_wp2_with fail
  refine wp_loop_rounds 1 ?_
  rw [rounds_succ]
  go_wp2_with fail
  go_ret
  exact ⟨rfl, HB.out⟩

theorem open33_nil (w : World) : Calls Tryz.prog 33 #[.pointer none] w fun e w' => e = .returned (.tuple #[.pointer none, .slice none 0 0, .int .i64 1]) ∧ Below w.heap.size w w' := by
  have HO := Lib.hid (L6.openNil w)
  go_enter Tryz.func33, Tryz.ntmps33
  go_wp2_with fail
  refine HO.out.mono ?_
  rintro _ w2 ⟨rfl, hb2⟩
  have HB := Lib.hid hb2
  clear hb2 HO
  go_wp2_with fail
  refine bodyPost_ret (results_tmp3 rfl _ _ _) rfl ?_
  exact ⟨rfl, HB.out⟩

/-- One act, with an object and zeros, in a row of its own. -/
def actCells (kd : Int) (label : ByteArray) (r k p : Value) (st : Int) (note root : ByteArray) : Array Value := #[.int .i64 0, .int .i64 0, .int .i64 kd, .string label, r, k, p, .int .i64 st, .string note, .string root, .int .i64 0, .int .i64 0, .string ⟨#[]⟩, .slice none 0 0, .slice none 0 0]
set_option maxRecDepth 100000 in
set_option maxHeartbeats 4000000 in
theorem few26_one_in (kd : Int) (label : ByteArray) (nr nk np : Nat) (Ar Ak Ap : Option Addr) (cr ck cp : Nat) (st : Int) (note root : ByteArray) (b : Nat) (w : World)
    (h : w.heap[b]? = some (.cells (actCells kd label (.slice Ar nr cr) (.slice Ak nk ck) (.slice Ap np cp) st note root) 73 (0, 0))) (ans : Bool)
    (hans : (!decide (300 < wrap64 (wrap64 ((label.size : Int) + (note.size : Int)) + (root.size : Int))) && (!decide ((70 : Int) < (nr : Int)) && (!decide ((60 : Int) < (nk : Int)) && !decide ((5 : Int) < (np : Int))))) = ans) :
    Calls Tryz.prog 26 #[.slice (some ⟨b, 0, none⟩) 1 1] w fun e w' => e = .returned (.bool ans) ∧ Below w.heap.size w w' := by
  unfold actCells at h
  have c2 : w.cell? ⟨b, 2, none⟩ = some (.int .i64 kd) := L6.cell_row h rfl
  have c3 : w.cell? ⟨b, 3, none⟩ = some (.string label) := L6.cell_row h rfl
  have c4 : w.cell? ⟨b, 4, none⟩ = some (.slice Ar nr cr) := L6.cell_row h rfl
  have c5 : w.cell? ⟨b, 5, none⟩ = some (.slice Ak nk ck) := L6.cell_row h rfl
  have c6 : w.cell? ⟨b, 6, none⟩ = some (.slice Ap np cp) := L6.cell_row h rfl
  have c7 : w.cell? ⟨b, 7, none⟩ = some (.int .i64 st) := L6.cell_row h rfl
  have c8 : w.cell? ⟨b, 8, none⟩ = some (.string note) := L6.cell_row h rfl
  have c9 : w.cell? ⟨b, 9, none⟩ = some (.string root) := L6.cell_row h rfl
  have c10 : w.cell? ⟨b, 10, none⟩ = some (.int .i64 0) := L6.cell_row h rfl
  have c11 : w.cell? ⟨b, 11, none⟩ = some (.int .i64 0) := L6.cell_row h rfl
  have c12 : w.cell? ⟨b, 12, none⟩ = some (.string ⟨#[]⟩) := L6.cell_row h rfl
  have c13 : w.cell? ⟨b, 13, none⟩ = some (.slice none 0 0) := L6.cell_row h rfl
  have c14 : w.cell? ⟨b, 14, none⟩ = some (.slice none 0 0) := L6.cell_row h rfl
  have hlt : b < w.heap.size := (Array.getElem?_eq_some_iff.1 h).1
  have hb : Below w.heap.size w (w.alloc (.cells #[.int .i64 kd, .string label, .slice Ar nr cr, .slice Ak nk ck, .slice Ap np cp, .int .i64 st, .string note, .string root] 27)) := (Below.refl _ _).alloc (Nat.le_refl _) _
  have HB := Lib.hid hb
  have d10 := (hb.cell (p := ⟨b, 10, none⟩) hlt).trans c10
  have d11 := (hb.cell (p := ⟨b, 11, none⟩) hlt).trans c11
  have d12 := (hb.cell (p := ⟨b, 12, none⟩) hlt).trans c12
  have d13 := (hb.cell (p := ⟨b, 13, none⟩) hlt).trans c13
  have d14 := (hb.cell (p := ⟨b, 14, none⟩) hlt).trans c14
  have HWT := Lib.hid (weight66_zero (w.alloc (.cells #[.int .i64 kd, .string label, .slice Ar nr cr, .slice Ak nk ck, .slice Ap np cp, .int .i64 st, .string note, .string root] 27)))
  clear h hb
  cases t1 : decide (300 < wrap64 (wrap64 ((label.size : Int) + (note.size : Int)) + (root.size : Int))) with
  | true =>
    rw [t1] at hans
    have e : ans = false := by rw [← hans]; rfl
    subst e
    clear hans HWT
    go_enter Tryz.func26, Tryz.ntmps26
    go_wp2_with fail
    refine wp_loop_rounds 1 ?_
    rw [rounds_succ]
    go_wp2_with fail
    go_ret
    exact ⟨rfl, HB.out⟩
  | false =>
    cases t2 : decide ((70 : Int) < (nr : Int)) with
    | true =>
      rw [t1, t2] at hans
      have e : ans = false := by rw [← hans]; rfl
      subst e
      clear hans HWT
      go_enter Tryz.func26, Tryz.ntmps26
      go_wp2_with fail
      refine wp_loop_rounds 1 ?_
      rw [rounds_succ]
      go_wp2_with fail
      go_ret
      exact ⟨rfl, HB.out⟩
    | false =>
      cases t3 : decide ((60 : Int) < (nk : Int)) with
      | true =>
        rw [t1, t2, t3] at hans
        have e : ans = false := by rw [← hans]; rfl
        subst e
        clear hans HWT
        go_enter Tryz.func26, Tryz.ntmps26
        go_wp2_with fail
        refine wp_loop_rounds 1 ?_
        rw [rounds_succ]
        go_wp2_with fail
        go_ret
        exact ⟨rfl, HB.out⟩
      | false =>
        cases t4 : decide ((5 : Int) < (np : Int)) with
        | true =>
          rw [t1, t2, t3, t4] at hans
          have e : ans = false := by rw [← hans]; rfl
          subst e
          clear hans HWT
          go_enter Tryz.func26, Tryz.ntmps26
          go_wp2_with fail
          refine wp_loop_rounds 1 ?_
          rw [rounds_succ]
          go_wp2_with fail
          go_ret
          exact ⟨rfl, HB.out⟩
        | false =>
          rw [t1, t2, t3, t4] at hans
          have e : ans = true := by rw [← hans]; rfl
          subst e
          clear hans
          go_enter Tryz.func26, Tryz.ntmps26
          go_wp2_with fail
          refine wp_loop_rounds 2 ?_
          rw [rounds_succ]
          go_wp2_with fail
          refine HWT.out.mono ?_
          rintro _ w2 ⟨rfl, hb2⟩
          have HB2 := Lib.hid (HB.out.trans (hb2.mono HB.out.size))
          clear hb2 HWT
          go_wp2_with fail
          rw [rounds_succ]
          go_wp2_with fail
          go_ret
          exact ⟨rfl, HB2.out⟩
end Go.Proofs.YtjanddnlhaionaaGreatDoor
