/-
  A cell that came in, read: no element of its lists is frozen. No condition.
-/
import Derived.Test.YtjanddnlhaionaaGreatDoorSW
import Derived.Test.YtjanddnlhaionaaGreatDoorKF
set_option maxRecDepth 100000
namespace Go.Proofs.YtjanddnlhaionaaGreatDoor
open Go.RowKit Go.ChangeShapes Go.WideShapes Go.ChangeAt Go.Joins Go.Deep
open L4 (C LNF Wf)

theorem int_bounds {k : Int} (h : (Lit.int .i64 k).wf = true) : -9223372036854775808 ≤ k ∧ k ≤ 9223372036854775807 := by
  have h' : IntKind.i64.min ≤ k ∧ k ≤ IntKind.i64.max := by simpa [Lit.wf] using h
  rw [show IntKind.i64.min = -9223372036854775808 from rfl, show IntKind.i64.max = 9223372036854775807 from rfl] at h'
  exact h'

section
variable {H : Type} {enc : TypeId × Value → H} {w : World} {held : Bool}

theorem open_cellsF (fuel : Nat) : ∀ (cs : List Value) (x : DataW H × List MemPlace), DataW.trod enc Tryz.prog w 0 (fun _ => true) held fuel 38 cs = some x → (∀ b off, MemPlace.cell b off ∈ x.2 → w.frozen? ⟨b, off, none⟩ = false) →
    ∃ (c : C) (u : Value), cs = [.int .i64 c.k, .int .i64 c.n, .string c.s, u] ∧ LNF 0 w w.heap.size (fuel + 1) u c.l ∧ Wf c := by
  induction fuel using Nat.strongRecOn with
  | _ fuel ih =>
  intro cs x h hfz
  have c38 : Tryz.prog.cellsOf 38 = 4 := by kernel_rfl
  have c36 : Tryz.prog.cellsOf 36 = 1 := by kernel_rfl
  have c35 : Tryz.prog.cellsOf 35 = 1 := by kernel_rfl
  have c3t : Tryz.prog.cellsOf 3 = 1 := by kernel_rfl
  have c9t : Tryz.prog.cellsOf 9 = 1 := by kernel_rfl
  obtain ⟨xs, n, hfu, hxx, hlen, hxl, hf⟩ := DataW.trod_struct Tryz.underlying38 h
  rw [c38] at hlen
  match cs, hlen with
  | [c0, c1, c2, c3], _ =>
    obtain ⟨y0, e0⟩ := L2.some_at (l := xs) (i := 0) (by rw [hxl]; decide)
    obtain ⟨y1, e1⟩ := L2.some_at (l := xs) (i := 1) (by rw [hxl]; decide)
    obtain ⟨y2, e2⟩ := L2.some_at (l := xs) (i := 2) (by rw [hxl]; decide)
    obtain ⟨y3, e3⟩ := L2.some_at (l := xs) (i := 3) (by rw [hxl]; decide)
    have h0 : DataW.trod enc Tryz.prog w 0 (fun _ => true) held n 35 (List.take (Tryz.prog.cellsOf 35) [c0, c1, c2, c3]) = xs[0]? := hf 0 _ rfl
    have h1 : DataW.trod enc Tryz.prog w 0 (fun _ => true) held n 3 (List.take (Tryz.prog.cellsOf 3) [c1, c2, c3]) = xs[1]? := hf 1 _ rfl
    have h2 : DataW.trod enc Tryz.prog w 0 (fun _ => true) held n 9 (List.take (Tryz.prog.cellsOf 9) [c2, c3]) = xs[2]? := hf 2 _ rfl
    have h3 : DataW.trod enc Tryz.prog w 0 (fun _ => true) held n 36 (List.take (Tryz.prog.cellsOf 36) [c3]) = xs[3]? := hf 3 _ rfl
    rw [e0, c35] at h0
    rw [e1, c3t] at h1
    rw [e2, c9t] at h2
    rw [e3, c36] at h3
    obtain ⟨k, g0, -, wk⟩ := DataW.trod_int Tryz.underlying35 h0
    obtain ⟨m, g1, -, wm⟩ := DataW.trod_int Tryz.underlying3 h1
    obtain ⟨s, g2, -, ws⟩ := DataW.trod_string Tryz.underlying9 h2
    replace g0 : [c0] = [_] := g0
    replace g1 : [c1] = [_] := g1
    replace g2 : [c2] = [_] := g2
    injection g0 with g0
    injection g1 with g1
    injection g2 with g2
    subst g0 g1 g2
    have wk := int_bounds wk
    have wm := int_bounds wm
    unfold maxLen at ws
    have hy3 : ∀ p ∈ y3.2, p ∈ x.2 := by
      intro p hp
      rw [hxx]
      exact List.mem_flatMap.2 ⟨y3, List.mem_of_getElem? e3, hp⟩
    have key : ∃ l, LNF 0 w w.heap.size (fuel + 1) c3 l := by
      rcases DataW.trod_slice Tryz.underlying36 h3 with ⟨h4, -⟩ | ⟨a, len, cap, elems, rest, n2, hn2, h4, hyy, -, hlc, hcm, hel, hi, -, -⟩
      · replace h4 : [c3] = [_] := h4
        injection h4 with h4
        subst h4
        exact ⟨[], lnf_nil _ _ _ _⟩
      · replace h4 : [c3] = [_] := h4
        injection h4 with h4
        subst h4
        obtain ⟨L, hLl, hLr⟩ := L2.choose_list len (fun i (r : C × Value) => (∀ j, j < 4 → w.cell? ((a.add (i * 4)).add j) = [Value.int .i64 r.1.k, .int .i64 r.1.n, .string r.1.s, r.2][j]?) ∧ LNF 0 w w.heap.size (n2 + 1) r.2 r.1.l ∧ Wf r.1 ∧ w.frozen? ⟨a.block, a.off + i * 4, none⟩ = false) (fun i hi' => by
          have hb := hi i hi'
          obtain ⟨y, ey⟩ := L2.some_at (l := elems) (i := i) (by omega)
          rw [ey, c38] at hb
          cases hc : w.cells? 0 (a.add (i * 4)) 4 with
          | none => rw [hc] at hb; cases hb
          | some cs' =>
            rw [hc] at hb
            obtain ⟨c, u, rfl, hL, hw⟩ := ih n2 (by omega) cs' y hb (fun b off hm => hfz b off (hy3 _ (by rw [hyy]; exact List.mem_append_right _ (List.mem_flatMap.2 ⟨y, List.mem_append_left _ (List.mem_of_getElem? ey), hm⟩))))
            obtain ⟨_, _, hat⟩ := World.cells?_some hc
            exact ⟨(c, u), fun j hj => hat j hj, hL, hw, hfz _ _ (hy3 _ (by rw [hyy]; exact List.mem_append_left _ (MemPlace.mem_row.2 ⟨i * 4, by rw [c38]; omega, rfl⟩)))⟩)
        refine ⟨L.map (·.1), ?_⟩
        refine lnf_up (d := n2 + 2) ?_ (by omega)
        refine ⟨some a, cap, by rw [List.length_map, hLl], by rw [List.length_map, hLl]; exact hlc, hcm, fun h0 => ?_⟩
        rw [List.length_map] at h0
        have c0 := (hLr 0 h0).1 0 (by omega)
        have ha0 : (a.add (0 * 4)).add 0 = a := by unfold Addr.add; simp
        rw [ha0] at c0
        have hb : a.block < w.heap.size := World.block_lt_of_cell? w a (u := .int .i64 (L[0]).1.k) c0
        obtain ⟨b, o, rfl⟩ := add_plain' (w := w) (a := a) (by rw [c0]; simp)
        refine ⟨b, o, rfl, hb, fun i hi' => ?_⟩
        rw [List.length_map] at hi'
        obtain ⟨hcl, hLt, hWf, hFz⟩ := hLr i hi'
        have hc : ∀ j, j < 4 → w.cell? ⟨b, o + i * 4 + j, none⟩ = [Value.int .i64 L[i].1.k, .int .i64 L[i].1.n, .string L[i].1.s, L[i].2][j]? := fun j hj => by
          have := hcl j hj
          rw [add_at', add_at'] at this
          exact this
        refine ⟨L[i].2, ?_, by simpa using hWf, ⟨Nat.zero_le _, fun h => absurd h (Nat.lt_irrefl _)⟩, hFz, by simpa using hLt⟩
        simp only [List.getElem_map]
        exact ⟨hc 0 (by omega), hc 1 (by omega), hc 2 (by omega), hc 3 (by omega)⟩
    obtain ⟨l, hl⟩ := key
    exact ⟨.mk k m s l, c3, rfl, hl, ⟨wk.1, wk.2, wm.1, wm.2, by rw [L4.s_mk]; omega⟩⟩


end
end Go.Proofs.YtjanddnlhaionaaGreatDoor
