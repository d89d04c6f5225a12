/-
  A slice of calls of layer 6 that came in. No condition.
-/
import Derived.Test.YtelfomdlbldnpaaDoorV
import Derived.OpenShut
namespace Go.Proofs.YtelfomdlbldnpaaDoor
open Go.ChangeShapes Go.WideShapes Go.ChangeAt Go.RowKit Go.Joins Go.Deep
theorem Tryd.cells40 : Tryd.prog.cellsOf 40 = 4 := by kernel_rfl
section
variable {H : Type} {enc : TypeId × Value → H} {w : World} {base : Nat} {spare : Nat → Bool} {held : Bool} {fuel : Nat}
set_option maxRecDepth 100000 in
theorem open_cells40 {cs : List Value} {x : DataW H × List MemPlace} (h : DataW.trod enc Tryd.prog w 0 (fun _ => true) held fuel 40 cs = some x) :
    ∃ a : Ac, cs = [.int .i64 a.k, .int .i64 a.i, .string a.s, a.v] ∧ IntsAt w w.heap.size a.v a.keep ∧ a.i ≤ 9223372036854775807 := by
  obtain ⟨xs, n, _, _, hlen, hxl, hf⟩ := DataW.trod_struct Tryd.underlying40 h
  rw [Tryd.cells40] at hlen
  match cs, hlen with
  | [c0, c1, c2, c3], _ =>
    obtain ⟨y0, e0⟩ := some_at (l := xs) (i := 0) (by rw [hxl]; decide)
    obtain ⟨y1, e1⟩ := some_at (l := xs) (i := 1) (by rw [hxl]; decide)
    obtain ⟨y2, e2⟩ := some_at (l := xs) (i := 2) (by rw [hxl]; decide)
    obtain ⟨y3, e3⟩ := some_at (l := xs) (i := 3) (by rw [hxl]; decide)
    have h0 : DataW.trod enc Tryd.prog w 0 (fun _ => true) held n 3 (List.take (Tryd.prog.cellsOf 3) [c0, c1, c2, c3]) = xs[0]? := hf 0 _ rfl
    have h1 : DataW.trod enc Tryd.prog w 0 (fun _ => true) held n 3 (List.take (Tryd.prog.cellsOf 3) [c1, c2, c3]) = xs[1]? := hf 1 _ rfl
    have h2 : DataW.trod enc Tryd.prog w 0 (fun _ => true) held n 9 (List.take (Tryd.prog.cellsOf 9) [c2, c3]) = xs[2]? := hf 2 _ rfl
    have h3 : DataW.trod enc Tryd.prog w 0 (fun _ => true) held n 38 (List.take (Tryd.prog.cellsOf 38) [c3]) = xs[3]? := hf 3 _ rfl
    rw [e0, Tryd.cells3] at h0
    rw [e1, Tryd.cells3] at h1
    rw [e2, Tryd.cells9] at h2
    rw [e3, Tryd.cells38] at h3
    obtain ⟨k, g0, -⟩ := DataW.trod_int Tryd.underlying3 h0
    obtain ⟨m, g1, -, hwf⟩ := DataW.trod_int Tryd.underlying3 h1
    obtain ⟨s, g2, -⟩ := DataW.trod_string Tryd.underlying9 h2
    obtain ⟨v, l, g3, hl⟩ := open_ints' h3
    replace g0 : [c0] = [_] := g0
    replace g1 : [c1] = [_] := g1
    replace g2 : [c2] = [_] := g2
    replace g3 : [c3] = [_] := g3
    injection g0 with g0
    injection g1 with g1
    injection g2 with g2
    injection g3 with g3
    subst g0 g1 g2 g3
    refine ⟨⟨k, m, s, c3, l⟩, rfl, hl, ?_⟩
    have : m ≤ 9223372036854775807 := by simp [Lit.wf] at hwf; omega
    exact this

/-- A slice of calls that came in. -/
theorem open_acts {v : Value} {d : DataW H} {p : List MemPlace} (hv : ∃ a len cap, v = .slice a len cap) (h : DataW.Trod enc Tryd.prog w 0 (fun _ => true) held 22 v d p) : ∃ L, AcsAt w w.heap.size v L := by
  obtain ⟨A, len, cap, rfl⟩ := hv
  obtain ⟨fuel, hf⟩ := h
  rcases open_slice Tryd.underlying22 hf with ⟨h0, _⟩ | ⟨a, len', cap', m, n, D, Pl, hcs, _, hl, hm, hmm, _, hi⟩
  · have e : Value.slice A len cap = .slice none 0 0 := by simpa [Value.cells] using h0
    injection e with e1 e2 e3
    subst e1 e2 e3
    exact ⟨[], none, 0, rfl, fun h => by simp at h⟩
  · have e : Value.slice A len cap = .slice (some a) len' cap' := by simpa [Value.cells] using hcs
    injection e with e1 e2 e3
    subst e1 e2 e3
    simp only [if_true] at hmm
    subst hmm
    obtain ⟨L, hll, hlr⟩ := choose_list len (fun i (r : Ac) => (∀ j, j < 4 → w.cell? (a.add (i * 4 + j)) = ([.int .i64 r.k, .int .i64 r.i, .string r.s, r.v] : List Value)[j]?) ∧ IntsAt w w.heap.size r.v r.keep ∧ r.i ≤ 9223372036854775807) (fun i hi' => by
      obtain ⟨cs, hc, ht⟩ := hi i (by omega)
      rw [Tryd.cells40] at hc
      obtain ⟨_, _, hat⟩ := World.cells?_some hc
      obtain ⟨r, rfl, hr⟩ := open_cells40 ht
      exact ⟨r, fun j hj => by rw [← Go.Deep.add_add]; exact hat j hj, hr⟩)
    refine ⟨L, some a, _, by rw [hll], fun h0 => ?_⟩
    have c0 := (hlr 0 h0).1 0 (by omega)
    have ha0 : a.add (0 * 4 + 0) = a := by unfold Addr.add; simp
    rw [ha0] at c0
    have hb : a.block < w.heap.size := World.block_lt_of_cell? w a (u := .int .i64 (L[0]).k) c0
    obtain ⟨b, o, rfl⟩ := add_plain (w := w) (a := a) (by rw [c0]; simp)
    refine ⟨b, o, rfl, hb, fun i hi' => ?_⟩
    obtain ⟨hc, hI, hT⟩ := hlr i hi'
    have hc' : ∀ j, j < 4 → w.cell? ⟨b, o + i * 4 + j, none⟩ = ([.int .i64 (L[i]).k, .int .i64 (L[i]).i, .string (L[i]).s, (L[i]).v] : List Value)[j]? := fun j hj => by
      have := hc j hj
      rw [addr_add, ← Nat.add_assoc] at this
      exact this
    exact ⟨hc' 0 (by omega), hc' 1 (by omega), hc' 2 (by omega), hc' 3 (by omega), hI, hT⟩

end
end Go.Proofs.YtelfomdlbldnpaaDoor
