/-
  A row of objects, read. No condition.
-/
import Derived.Test.YtjanddnlhaionaaGreatDoorPI
import Derived.Test.YtjanddnlhaionaaGreatDoorL2x2
import Derived.Test.YtjanddnlhaionaaGreatDoorSU
namespace Go.Proofs.YtjanddnlhaionaaGreatDoor
open Go.RowKit Go.ChangeShapes Go.WideShapes Go.Deep
open L2 (Row)

section
variable {H : Type} {enc : TypeId × Value → H} {w : World} {held : Bool}
theorem obj_cells {cs : List Value} {fuel : Nat} {x : DataW H × List MemPlace} (h : DataW.trod enc Tryz.prog w 0 (fun _ => true) held fuel 27 cs = some x) :
    ∃ (o : Ob) (r k p : Value), cs = [.int .i64 o.k, .string o.label, r, k, p, .int .i64 o.stamp, .string o.note, .string o.root] ∧ ObAt w r k p o := by
  obtain ⟨d, pl⟩ := x
  obtain ⟨kd, label, rows, kids, parents, stamp, note, root, r, k, q, e, ho⟩ := open_obj (v := .agg cs.toArray) ⟨_, rfl⟩ (⟨fuel, h⟩ : DataW.Trod enc Tryz.prog w 0 (fun _ => true) held 27 (.agg cs.toArray) d pl)
  refine ⟨⟨kd, label, rows, kids, parents, stamp, note, root⟩, r, k, q, ?_, ho⟩
  injection e with e
  have := congrArg Array.toList e
  simpa using this
theorem open_objs {v : Value} {d : DataW H} {p : List MemPlace} (hv : ∃ a n c, v = .slice a n c) (h : DataW.Trod enc Tryz.prog w 0 (fun _ => true) held 81 v d p) : ∃ l, ObsAt w v l := by
  obtain ⟨a, n, c, rfl⟩ := hv
  obtain ⟨fuel, hf⟩ := h
  replace hf : DataW.trod enc Tryz.prog w 0 (fun _ => true) held fuel 81 [.slice a n c] = some (d, p) := hf
  rcases open_slice Tryz.underlying81 hf with ⟨e, _⟩ | ⟨a, len, cap, m, n, D, Pl, e, _, hl, hm, hmm, _, hi⟩
  · rw [List.cons.inj e |>.1]
    exact ⟨[], none, 0, rfl, Nat.le_refl _, Nat.zero_le _, fun h => by simp at h⟩
  · rw [List.cons.inj e |>.1]
    simp only [if_true] at hmm
    subst hmm
    have c27 : Tryz.prog.cellsOf 27 = 8 := by kernel_rfl
    obtain ⟨l, hll, hlr⟩ := L2.choose_list len (fun i (o : Ob) => ∃ r k p, (∀ j, j < 8 → w.cell? (a.add (i * 8 + j)) = ([.int .i64 o.k, .string o.label, r, k, p, .int .i64 o.stamp, .string o.note, .string o.root] : List Value)[j]?) ∧ ObAt w r k p o) (fun i hi' => by
      obtain ⟨cs, hc, ht⟩ := hi i (by omega)
      rw [c27] at hc
      obtain ⟨_, _, hat⟩ := World.cells?_some hc
      obtain ⟨o, r, k, p, rfl, hb⟩ := obj_cells ht
      exact ⟨o, r, k, p, fun j hj => by rw [← Go.Deep.add_add]; exact hat j hj, hb⟩)
    refine ⟨l, some a, _, by rw [hll], by omega, hm, fun h0 => ?_⟩
    obtain ⟨r0, k0, p0, hc0, -⟩ := hlr 0 h0
    have c0 := hc0 0 (by omega)
    have ha0 : a.add (0 * 8 + 0) = a := by unfold Addr.add; simp
    rw [ha0] at c0
    have hb : a.block < w.heap.size := World.block_lt_of_cell? w a (u := .int .i64 (l[0]).k) c0
    obtain ⟨b, o, rfl⟩ := add_plain' (w := w) (a := a) (by rw [c0]; simp)
    refine ⟨b, o, rfl, hb, fun i hi' => ?_⟩
    obtain ⟨r, k, p, hci, ho⟩ := hlr i hi'
    have hc : ∀ j, j < 8 → w.cell? ⟨b, o + i * 8 + j, none⟩ = ([.int .i64 (l[i]).k, .string (l[i]).label, r, k, p, .int .i64 (l[i]).stamp, .string (l[i]).note, .string (l[i]).root] : List Value)[j]? := fun j hj => by
      have := hci j hj
      rw [add_at', ← Nat.add_assoc] at this
      exact this
    exact ⟨r, k, p, ho, hc 0 (by omega), hc 1 (by omega), hc 2 (by omega), hc 3 (by omega), hc 4 (by omega), hc 5 (by omega), hc 6 (by omega), hc 7 (by omega)⟩
end
end Go.Proofs.YtjanddnlhaionaaGreatDoor
