/-
  A row of acts that came in, read. No condition.
-/
import Derived.Test.YtjanddnlhaionaaGreatDoorKO
import Derived.Test.YtjanddnlhaionaaGreatDoorL6x5
set_option maxRecDepth 100000
namespace Go.Proofs.YtjanddnlhaionaaGreatDoor
open Go.RowKit Go.ChangeShapes Go.WideShapes Go.ChangeAt Go.Joins Go.Deep
open L4 (C LNF Wf)

section
variable {H : Type} {enc : TypeId × Value → H} {w : World} {held : Bool}

theorem act_cells {cs : List Value} {fuel : Nat} {x : DataW H × List MemPlace} (h : DataW.trod enc Tryz.prog w 0 (fun _ => true) held fuel 73 cs = some x) (hfz : ∀ b off, MemPlace.cell b off ∈ x.2 → w.frozen? ⟨b, off, none⟩ = false) :
    ∃ (a : Ac) (r k p u kv : Value) (d : Nat), cs = [.int .i64 a.k, .int .i64 a.n, .int .i64 a.o.k, .string a.o.label, r, k, p, .int .i64 a.o.stamp, .string a.o.note, .string a.o.root, .int .i64 a.ck, .int .i64 a.cn, .string a.cs, u, kv] ∧
      ObAt w r k p a.o ∧ LNF 0 w w.heap.size d u a.cl ∧ Wf a.c ∧ L6.IntsAt w w.heap.size kv a.keep ∧ a.n ≤ 9223372036854775807 := by
  have c73 : Tryz.prog.cellsOf 73 = 15 := by kernel_rfl
  have c27 : Tryz.prog.cellsOf 27 = 8 := by kernel_rfl
  have c38 : Tryz.prog.cellsOf 38 = 4 := by kernel_rfl
  have c71 : Tryz.prog.cellsOf 71 = 1 := by kernel_rfl
  have c3 : Tryz.prog.cellsOf 3 = 1 := by kernel_rfl
  obtain ⟨xs, n, _, hxx, hlen, hxl, hf⟩ := DataW.trod_struct Tryz.underlying73 h
  rw [c73] at hlen
  match cs, hlen with
  | [v0, v1, v2, v3, v4, v5, v6, v7, v8, v9, v10, v11, v12, v13, v14], _ =>
    obtain ⟨y0, e0⟩ := L2.some_at (l := xs) (i := 0) (by rw [hxl]; decide)
    obtain ⟨y1, e1⟩ := L2.some_at (l := xs) (i := 1) (by rw [hxl]; decide)
    obtain ⟨y2, e2⟩ := L2.some_at (l := xs) (i := 2) (by rw [hxl]; decide)
    obtain ⟨y3, e3⟩ := L2.some_at (l := xs) (i := 3) (by rw [hxl]; decide)
    obtain ⟨y4, e4⟩ := L2.some_at (l := xs) (i := 4) (by rw [hxl]; decide)
    have h0 : DataW.trod enc Tryz.prog w 0 (fun _ => true) held n 3 (List.take (Tryz.prog.cellsOf 3) [v0, v1, v2, v3, v4, v5, v6, v7, v8, v9, v10, v11, v12, v13, v14]) = xs[0]? := hf 0 _ rfl
    have h1 : DataW.trod enc Tryz.prog w 0 (fun _ => true) held n 3 (List.take (Tryz.prog.cellsOf 3) [v1, v2, v3, v4, v5, v6, v7, v8, v9, v10, v11, v12, v13, v14]) = xs[1]? := hf 1 _ rfl
    have h2 : DataW.trod enc Tryz.prog w 0 (fun _ => true) held n 27 (List.take (Tryz.prog.cellsOf 27) [v2, v3, v4, v5, v6, v7, v8, v9, v10, v11, v12, v13, v14]) = xs[2]? := hf 2 _ rfl
    have h3 : DataW.trod enc Tryz.prog w 0 (fun _ => true) held n 38 (List.take (Tryz.prog.cellsOf 38) [v10, v11, v12, v13, v14]) = xs[3]? := hf 3 _ rfl
    have h4 : DataW.trod enc Tryz.prog w 0 (fun _ => true) held n 71 (List.take (Tryz.prog.cellsOf 71) [v14]) = xs[4]? := hf 4 _ rfl
    rw [e0, c3] at h0
    rw [e1, c3] at h1
    rw [e2, c27] at h2
    rw [e3, c38] at h3
    rw [e4, c71] at h4
    have hy3 : ∀ p ∈ y3.2, p ∈ x.2 := by
      intro p hp
      rw [hxx]
      exact List.mem_flatMap.2 ⟨y3, List.mem_of_getElem? e3, hp⟩
    obtain ⟨k0, g0, -, -⟩ := DataW.trod_int Tryz.underlying3 h0
    obtain ⟨n0, g1, -, wn⟩ := DataW.trod_int Tryz.underlying3 h1
    obtain ⟨o, r, k, p, g2, ho⟩ := obj_cells h2
    obtain ⟨c, u, g3, hl, hw⟩ := open_cellsF _ _ _ h3 (fun b off hm => hfz b off (hy3 _ hm))
    obtain ⟨kv, l, g4, hk⟩ := L6.open_ints' h4
    obtain ⟨ck, cn, cst, cl⟩ := c
    have wn := int_bounds wn
    refine ⟨⟨k0, n0, o, ck, cn, cst, cl, l⟩, r, k, p, u, kv, _, ?_, ho, hl, hw, hk, wn.2⟩
    simp only [List.take_succ_cons, List.take_zero, List.cons.injEq, and_true] at g0 g1 g2 g3 g4
    obtain ⟨a2, a3, a4, a5, a6, a7, a8, a9⟩ := g2
    obtain ⟨b0, b1, b2, b3⟩ := g3
    rw [g0, g1, a2, a3, a4, a5, a6, a7, a8, a9, b0, b1, b2, b3, g4]
    rfl
theorem open_acts8 {v : Value} {d : DataW H} {p : List MemPlace} (hv : ∃ a n c, v = .slice a n c) (h : DataW.Trod enc Tryz.prog w 0 (fun _ => true) held 57 v d p) (hfz : ∀ b off, MemPlace.cell b off ∈ p → w.frozen? ⟨b, off, none⟩ = false) : ∃ L, ActsAt w v L := by
  obtain ⟨a, n, c, rfl⟩ := hv
  obtain ⟨fuel, hf⟩ := h
  replace hf : DataW.trod enc Tryz.prog w 0 (fun _ => true) held fuel 57 [.slice a n c] = some (d, p) := hf
  rcases open_slice Tryz.underlying57 hf with ⟨e, _⟩ | ⟨a, len, cap, m, n, D, Pl, e, _, hl, hm, hmm, hx, hi⟩
  · rw [List.cons.inj e |>.1]
    exact ⟨[], none, 0, rfl, Nat.le_refl _, Nat.zero_le _, fun h => by simp at h⟩
  · rw [List.cons.inj e |>.1]
    simp only [if_true] at hmm
    subst hmm
    have hp := (Prod.mk.inj hx).2
    have c73 : Tryz.prog.cellsOf 73 = 15 := by kernel_rfl
    obtain ⟨l, hll, hlr⟩ := L2.choose_list len (fun i (o : Ac) => ∃ r k p u kv d, (∀ j, j < 15 → w.cell? (a.add (i * 15 + j)) = ([.int .i64 o.k, .int .i64 o.n, .int .i64 o.o.k, .string o.o.label, r, k, p, .int .i64 o.o.stamp, .string o.o.note, .string o.o.root, .int .i64 o.ck, .int .i64 o.cn, .string o.cs, u, kv] : List Value)[j]?) ∧
        ObAt w r k p o.o ∧ LNF 0 w w.heap.size d u o.cl ∧ Wf o.c ∧ L6.IntsAt w w.heap.size kv o.keep ∧ o.n ≤ 9223372036854775807) (fun i hi' => by
      obtain ⟨cs, hc, ht⟩ := hi i (by omega)
      rw [c73] at hc
      obtain ⟨_, _, hat⟩ := World.cells?_some hc
      obtain ⟨o, r, k, p', u, kv, d', rfl, hb⟩ := act_cells ht (fun b off hm' => hfz b off (by rw [hp]; exact List.mem_append_right _ (List.mem_flatMap.2 ⟨i, List.mem_range.2 (by omega), hm'⟩)))
      exact ⟨o, r, k, p', u, kv, d', fun j hj => by rw [← Go.Deep.add_add]; exact hat j hj, hb⟩)
    refine ⟨l, some a, _, by rw [hll], by omega, hm, fun h0 => ?_⟩
    obtain ⟨r0, k0, p0, u0, kv0, d0, hc0, -⟩ := hlr 0 h0
    have c0 := hc0 0 (by omega)
    have ha0 : a.add (0 * 15 + 0) = a := by unfold Addr.add; simp
    rw [ha0] at c0
    have hb : a.block < w.heap.size := World.block_lt_of_cell? w a (u := .int .i64 (l[0]).k) c0
    obtain ⟨b, o, rfl⟩ := add_plain' (w := w) (a := a) (by rw [c0]; simp)
    refine ⟨b, o, rfl, hb, fun i hi' => ?_⟩
    obtain ⟨r, k, p', u, kv, d', hci, ho, hl', hw, hk, hn⟩ := hlr i hi'
    have hc : ∀ j, j < 15 → w.cell? ⟨b, o + i * 15 + j, none⟩ = ([.int .i64 (l[i]).k, .int .i64 (l[i]).n, .int .i64 (l[i]).o.k, .string (l[i]).o.label, r, k, p', .int .i64 (l[i]).o.stamp, .string (l[i]).o.note, .string (l[i]).o.root, .int .i64 (l[i]).ck, .int .i64 (l[i]).cn, .string (l[i]).cs, u, kv] : List Value)[j]? := fun j hj => by
      have := hci j hj
      rw [add_at', ← Nat.add_assoc] at this
      exact this
    exact ⟨r, k, p', u, kv, d', ho, hl', hw, hk, hn, hc 0 (by omega), hc 1 (by omega), hc 2 (by omega), hc 3 (by omega), hc 4 (by omega), hc 5 (by omega), hc 6 (by omega), hc 7 (by omega), hc 8 (by omega), hc 9 (by omega), hc 10 (by omega), hc 11 (by omega), hc 12 (by omega), hc 13 (by omega), hc 14 (by omega)⟩
end
end Go.Proofs.YtjanddnlhaionaaGreatDoor
