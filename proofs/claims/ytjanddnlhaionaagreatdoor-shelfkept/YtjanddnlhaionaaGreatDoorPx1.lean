/-
  The arguments of the laws of layer 7, opened. No condition.
-/
import Derived.Test.YtjanddnlhaionaaGreatDoorOx0
import Derived.Test.YtjanddnlhaionaaGreatDoorL2x2
set_option maxRecDepth 100000
namespace Go.Proofs.YtjanddnlhaionaaGreatDoor
open Go.ChangeShapes Go.WideShapes Go.ChangeAt Go.RowKit Go.Joins Go.Deep
open L2 (Row Vl RowsAt rowC)

theorem Tryz.obCells27 : Tryz.prog.cellsOf 27 = 8 := by kernel_rfl
theorem Tryz.obCells22 : Tryz.prog.cellsOf 22 = 1 := by kernel_rfl
theorem Tryz.obCells9 : Tryz.prog.cellsOf 9 = 1 := by kernel_rfl
theorem Tryz.obCells3 : Tryz.prog.cellsOf 3 = 1 := by kernel_rfl
theorem Tryz.obCells5 : Tryz.prog.cellsOf 5 = 1 := by kernel_rfl
theorem Tryz.obCells23 : Tryz.prog.cellsOf 23 = 1 := by kernel_rfl
theorem Tryz.obCells24 : Tryz.prog.cellsOf 24 = 1 := by kernel_rfl
theorem Tryz.obCells25 : Tryz.prog.cellsOf 25 = 1 := by kernel_rfl
theorem Tryz.obCells55 : Tryz.prog.cellsOf 95 = 2 := by kernel_rfl
theorem Tryz.obCells43 : Tryz.prog.cellsOf 93 = 5 := by kernel_rfl
theorem Tryz.obCells41 : Tryz.prog.cellsOf 91 = 3 := by kernel_rfl
theorem Tryz.obCells39 : Tryz.prog.cellsOf 89 = 1 := by kernel_rfl

section
variable {H : Type} {enc : TypeId × Value → H} {w : World} {base : Nat} {spare : Nat → Bool} {held : Bool} {fuel : Nat}

theorem add_plain' {w : World} {a : Addr} (j0 : w.cell? a ≠ none) : ∃ b o, a = ⟨b, o, none⟩ := by
  obtain ⟨b, o, s⟩ := a
  cases s with
  | none => exact ⟨b, o, rfl⟩
  | some s =>
    exfalso
    apply j0
    unfold World.cell?
    simp only
    split <;> simp
theorem add_at' (b o j : Nat) : (⟨b, o, none⟩ : Addr).add j = ⟨b, o + j, none⟩ := by
  unfold Addr.add
  split
  · rename_i h; subst h; rfl
  · rfl
theorem i64_bounds {k : Int} (h : (Lit.int .i64 k).wf = true) : -9223372036854775808 ≤ k ∧ k ≤ 9223372036854775807 := by
  have h' : IntKind.i64.min ≤ k ∧ k ≤ IntKind.i64.max := by simpa [Lit.wf] using h
  rw [show IntKind.i64.min = -9223372036854775808 from rfl, show IntKind.i64.max = 9223372036854775807 from rfl] at h'
  exact h'
theorem u8_bounds {k : Int} (h : (Lit.int .u8 k).wf = true) : 0 ≤ k ∧ k ≤ 255 := by
  have h' : IntKind.u8.min ≤ k ∧ k ≤ IntKind.u8.max := by simpa [Lit.wf] using h
  rw [show IntKind.u8.min = 0 from rfl, show IntKind.u8.max = 255 from rfl] at h'
  exact h'

def InB (n : Int) : Prop := -9223372036854775808 ≤ n ∧ n ≤ 9223372036854775807

theorem row_cells {cs : List Value} {x : DataW H × List MemPlace} (h : DataW.trod enc Tryz.prog w base spare held fuel 93 cs = some x) :
    ∃ r : Row, cs = rowC r ∧ InB r.2.2.2.1 := by
  obtain ⟨xs, n, _, _, hlen, hxl, hf⟩ := DataW.trod_struct Tryz.underlying93 h
  rw [Tryz.obCells43] at hlen
  match cs, hlen with
  | [c0, c1, c2, c3, c4], _ =>
    obtain ⟨y0, e0⟩ := L2.some_at (l := xs) (i := 0) (by rw [hxl]; decide)
    obtain ⟨y1, e1⟩ := L2.some_at (l := xs) (i := 1) (by rw [hxl]; decide)
    obtain ⟨y2, e2⟩ := L2.some_at (l := xs) (i := 2) (by rw [hxl]; decide)
    have h0 : DataW.trod enc Tryz.prog w base spare held n 3 (List.take (Tryz.prog.cellsOf 3) [c0, c1, c2, c3, c4]) = xs[0]? := hf 0 _ rfl
    have h1 : DataW.trod enc Tryz.prog w base spare held n 3 (List.take (Tryz.prog.cellsOf 3) [c1, c2, c3, c4]) = xs[1]? := hf 1 _ rfl
    have h2 : DataW.trod enc Tryz.prog w base spare held n 91 (List.take (Tryz.prog.cellsOf 91) [c2, c3, c4]) = xs[2]? := hf 2 _ rfl
    rw [e0, Tryz.obCells3] at h0
    rw [e1, Tryz.obCells3] at h1
    rw [e2, Tryz.obCells41] at h2
    obtain ⟨f, g0, -⟩ := DataW.trod_int Tryz.underlying3 h0
    obtain ⟨e, g1, -⟩ := DataW.trod_int Tryz.underlying3 h1
    obtain ⟨xs', n', _, _, hlen', hxl', hf'⟩ := DataW.trod_struct Tryz.underlying91 h2
    obtain ⟨z0, k0⟩ := L2.some_at (l := xs') (i := 0) (by rw [hxl']; decide)
    obtain ⟨z1, k1⟩ := L2.some_at (l := xs') (i := 1) (by rw [hxl']; decide)
    obtain ⟨z2, k2⟩ := L2.some_at (l := xs') (i := 2) (by rw [hxl']; decide)
    have h4 : DataW.trod enc Tryz.prog w base spare held n' 89 (List.take (Tryz.prog.cellsOf 89) [c2, c3, c4]) = xs'[0]? := hf' 0 _ rfl
    have h5 : DataW.trod enc Tryz.prog w base spare held n' 3 (List.take (Tryz.prog.cellsOf 3) [c3, c4]) = xs'[1]? := hf' 1 _ rfl
    have h6 : DataW.trod enc Tryz.prog w base spare held n' 9 (List.take (Tryz.prog.cellsOf 9) [c4]) = xs'[2]? := hf' 2 _ rfl
    rw [k0, Tryz.obCells39] at h4
    rw [k1, Tryz.obCells3] at h5
    rw [k2, Tryz.obCells9] at h6
    obtain ⟨k, g2, -⟩ := DataW.trod_int Tryz.underlying89 h4
    obtain ⟨m, g3, -, wm⟩ := DataW.trod_int Tryz.underlying3 h5
    obtain ⟨s, g4, -⟩ := DataW.trod_string Tryz.underlying9 h6
    replace g0 : [c0] = [_] := g0
    replace g1 : [c1] = [_] := g1
    replace g2 : [c2] = [_] := g2
    replace g3 : [c3] = [_] := g3
    replace g4 : [c4] = [_] := g4
    injection g0 with g0
    injection g1 with g1
    injection g2 with g2
    injection g3 with g3
    injection g4 with g4
    subst g0 g1 g2 g3 g4
    exact ⟨(f, e, k, m, s), rfl, i64_bounds wm⟩

theorem kid_cells {cs : List Value} {x : DataW H × List MemPlace} (h : DataW.trod enc Tryz.prog w base spare held fuel 95 cs = some x) :
    ∃ k : Kd, cs = [.int .u8 k.f, .string k.id] ∧ 0 ≤ k.f ∧ k.f ≤ 255 := by
  obtain ⟨xs, n, _, _, hlen, hxl, hf⟩ := DataW.trod_struct Tryz.underlying95 h
  rw [Tryz.obCells55] at hlen
  match cs, hlen with
  | [c0, c1], _ =>
    obtain ⟨y0, e0⟩ := L2.some_at (l := xs) (i := 0) (by rw [hxl]; decide)
    obtain ⟨y1, e1⟩ := L2.some_at (l := xs) (i := 1) (by rw [hxl]; decide)
    have h0 : DataW.trod enc Tryz.prog w base spare held n 5 (List.take (Tryz.prog.cellsOf 5) [c0, c1]) = xs[0]? := hf 0 _ rfl
    have h1 : DataW.trod enc Tryz.prog w base spare held n 9 (List.take (Tryz.prog.cellsOf 9) [c1]) = xs[1]? := hf 1 _ rfl
    rw [e0, Tryz.obCells5] at h0
    rw [e1, Tryz.obCells9] at h1
    obtain ⟨f, g0, -, wf⟩ := DataW.trod_int Tryz.underlying5 h0
    obtain ⟨s, g1, -⟩ := DataW.trod_string Tryz.underlying9 h1
    replace g0 : [c0] = [_] := g0
    replace g1 : [c1] = [_] := g1
    injection g0 with g0
    injection g1 with g1
    subst g0 g1
    exact ⟨⟨f, s⟩, rfl, u8_bounds wf⟩

/-- A row of rows that came in. -/
theorem open_rowsC {cs : List Value} {x : DataW H × List MemPlace} (h : DataW.trod enc Tryz.prog w 0 (fun _ => true) held fuel 23 cs = some x) :
    ∃ v l, cs = [v] ∧ RowsAt w w.heap.size v l ∧ ∀ r ∈ l, InB r.2.2.2.1 := by
  rcases open_slice Tryz.underlying23 h with ⟨rfl, _⟩ | ⟨a, len, cap, m, n, D, Pl, rfl, _, hl, hm, hmm, _, hi⟩
  · exact ⟨_, [], rfl, ⟨none, 0, rfl, Nat.le_refl _, Nat.zero_le _, fun h => by simp at h⟩, fun r hr => by cases hr⟩
  · simp only [if_true] at hmm
    subst hmm
    obtain ⟨l, hll, hlr⟩ := L2.choose_list len (fun i (r : Row) => (∀ j, j < 5 → w.cell? (a.add (i * 5 + j)) = (rowC r)[j]?) ∧ InB r.2.2.2.1) (fun i hi' => by
      obtain ⟨cs, hc, ht⟩ := hi i (by omega)
      rw [Tryz.obCells43] at hc
      obtain ⟨_, _, hat⟩ := World.cells?_some hc
      obtain ⟨r, rfl, hb⟩ := row_cells ht
      exact ⟨r, fun j hj => by rw [← Go.Deep.add_add]; exact hat j hj, hb⟩)
    refine ⟨_, l, rfl, ⟨some a, _, by rw [hll], by omega, hm, fun h0 => ?_⟩, fun r hr => ?_⟩
    · have c0 := (hlr 0 h0).1 0 (by omega)
      have ha0 : a.add (0 * 5 + 0) = a := by unfold Addr.add; simp
      rw [ha0] at c0
      have hb : a.block < w.heap.size := World.block_lt_of_cell? w a (u := .int .i64 (l[0]).1) c0
      obtain ⟨b, o, rfl⟩ := add_plain' (w := w) (a := a) (by rw [c0]; simp [rowC])
      refine ⟨b, o, rfl, hb, fun i hi' => ?_⟩
      have hc : ∀ j, j < 5 → w.cell? ⟨b, o + i * 5 + j, none⟩ = (rowC l[i])[j]? := fun j hj => by
        have := (hlr i hi').1 j hj
        rw [add_at', ← Nat.add_assoc] at this
        exact this
      exact ⟨hc 0 (by omega), hc 1 (by omega), hc 2 (by omega), hc 3 (by omega), hc 4 (by omega)⟩
    · obtain ⟨i, hi', rfl⟩ := List.getElem_of_mem hr
      exact (hlr i hi').2

theorem open_kidsC {cs : List Value} {x : DataW H × List MemPlace} (h : DataW.trod enc Tryz.prog w 0 (fun _ => true) held fuel 24 cs = some x) :
    ∃ v l, cs = [v] ∧ KidsAt w w.heap.size v l := by
  rcases open_slice Tryz.underlying24 h with ⟨rfl, _⟩ | ⟨a, len, cap, m, n, D, Pl, rfl, _, hl, hm, hmm, _, hi⟩
  · exact ⟨_, [], rfl, KidsAt.nil _ _⟩
  · simp only [if_true] at hmm
    subst hmm
    obtain ⟨l, hll, hlr⟩ := L2.choose_list len (fun i (k : Kd) => (∀ j, j < 2 → w.cell? (a.add (i * 2 + j)) = [Value.int .u8 k.f, .string k.id][j]?) ∧ 0 ≤ k.f ∧ k.f ≤ 255) (fun i hi' => by
      obtain ⟨cs, hc, ht⟩ := hi i (by omega)
      rw [Tryz.obCells55] at hc
      obtain ⟨_, _, hat⟩ := World.cells?_some hc
      obtain ⟨r, rfl, hb⟩ := kid_cells ht
      exact ⟨r, fun j hj => by rw [← Go.Deep.add_add]; exact hat j hj, hb⟩)
    refine ⟨_, l, rfl, ⟨some a, _, by rw [hll], by omega, hm, fun h0 => ?_⟩⟩
    have c0 := (hlr 0 h0).1 0 (by omega)
    have ha0 : a.add (0 * 2 + 0) = a := by unfold Addr.add; simp
    rw [ha0] at c0
    have hb : a.block < w.heap.size := World.block_lt_of_cell? w a (u := .int .u8 (l[0]).f) c0
    obtain ⟨b, o, rfl⟩ := add_plain' (w := w) (a := a) (by rw [c0]; simp)
    refine ⟨b, o, rfl, hb, fun i hi' => ?_⟩
    have hc : ∀ j, j < 2 → w.cell? ⟨b, o + i * 2 + j, none⟩ = [Value.int .u8 l[i].f, .string l[i].id][j]? := fun j hj => by
      have := (hlr i hi').1 j hj
      rw [add_at', ← Nat.add_assoc] at this
      exact this
    exact ⟨hc 0 (by omega), hc 1 (by omega), (hlr i hi').2.1, (hlr i hi').2.2⟩

theorem open_txtsC {cs : List Value} {x : DataW H × List MemPlace} (h : DataW.trod enc Tryz.prog w 0 (fun _ => true) held fuel 25 cs = some x) :
    ∃ v l, cs = [v] ∧ TxtsAt w w.heap.size v l := by
  rcases open_slice1 Tryz.underlying25 Tryz.obCells9 h with ⟨rfl, _⟩ | ⟨a, len, cap, m, n, V, D, Pl, rfl, _, hl, hm, hmm, _, hi⟩
  · exact ⟨_, [], rfl, TxtsAt.nil _ _⟩
  · simp only [if_true] at hmm
    subst hmm
    obtain ⟨l, hll, hlr⟩ := L2.choose_list len (fun i (s : ByteArray) => w.cell? (a.add i) = some (.string s)) (fun i hi' => by
      obtain ⟨hc, ht⟩ := hi i (by omega)
      obtain ⟨s, g0, -⟩ := DataW.trod_string Tryz.underlying9 ht
      injection g0 with g0
      exact ⟨s, by rw [hc, g0]⟩)
    refine ⟨_, l, rfl, ⟨some a, _, by rw [hll], by omega, hm, fun h0 => ?_⟩⟩
    have c0 := hlr 0 h0
    have ha0 : a.add 0 = a := by unfold Addr.add; simp
    rw [ha0] at c0
    have hb : a.block < w.heap.size := World.block_lt_of_cell? w a (u := .string (l[0])) c0
    obtain ⟨b, o, rfl⟩ := add_plain' (w := w) (a := a) (by rw [c0]; simp)
    refine ⟨b, o, rfl, hb, fun i hi' => ?_⟩
    have := hlr i hi'
    rw [add_at'] at this
    exact this

/-- An object that came in. -/
theorem open_obj {v : Value} {d : DataW H} {p : List MemPlace} (hv : ∃ cs, v = .agg cs) (h : DataW.Trod enc Tryz.prog w 0 (fun _ => true) held 27 v d p) :
    ∃ (kd : Int) (label : ByteArray) (rows : List Row) (kids : List Kd) (parents : List ByteArray) (stamp : Int) (note root : ByteArray) (r k q : Value),
      v = .agg #[.int .i64 kd, .string label, r, k, q, .int .i64 stamp, .string note, .string root] ∧ ObAt w r k q ⟨kd, label, rows, kids, parents, stamp, note, root⟩ := by
  obtain ⟨cs, rfl⟩ := hv
  obtain ⟨fuel, hf⟩ := h
  replace hf : DataW.trod enc Tryz.prog w 0 (fun _ => true) held fuel 27 cs.toList = some (d, p) := hf
  obtain ⟨xs, n, _, _, hlen, hxl, hf⟩ := DataW.trod_struct Tryz.underlying27 hf
  rw [Tryz.obCells27] at hlen
  obtain ⟨cl, hcl⟩ : ∃ l, cs.toList = l := ⟨_, rfl⟩
  have hcs : cs = cl.toArray := by rw [← hcl]
  subst hcs
  clear hcl
  simp only at hf hlen
  match cl, hlen with
  | [c0, c1, c2, c3, c4, c5, c6, c7], _ =>
    obtain ⟨y0, e0⟩ := L2.some_at (l := xs) (i := 0) (by rw [hxl]; decide)
    obtain ⟨y1, e1⟩ := L2.some_at (l := xs) (i := 1) (by rw [hxl]; decide)
    obtain ⟨y2, e2⟩ := L2.some_at (l := xs) (i := 2) (by rw [hxl]; decide)
    obtain ⟨y3, e3⟩ := L2.some_at (l := xs) (i := 3) (by rw [hxl]; decide)
    obtain ⟨y4, e4⟩ := L2.some_at (l := xs) (i := 4) (by rw [hxl]; decide)
    obtain ⟨y5, e5⟩ := L2.some_at (l := xs) (i := 5) (by rw [hxl]; decide)
    obtain ⟨y6, e6⟩ := L2.some_at (l := xs) (i := 6) (by rw [hxl]; decide)
    obtain ⟨y7, e7⟩ := L2.some_at (l := xs) (i := 7) (by rw [hxl]; decide)
    have h0 : DataW.trod enc Tryz.prog w 0 (fun _ => true) held n 22 (List.take (Tryz.prog.cellsOf 22) [c0, c1, c2, c3, c4, c5, c6, c7]) = xs[0]? := hf 0 _ rfl
    have h1 : DataW.trod enc Tryz.prog w 0 (fun _ => true) held n 9 (List.take (Tryz.prog.cellsOf 9) [c1, c2, c3, c4, c5, c6, c7]) = xs[1]? := hf 1 _ rfl
    have h2 : DataW.trod enc Tryz.prog w 0 (fun _ => true) held n 23 (List.take (Tryz.prog.cellsOf 23) [c2, c3, c4, c5, c6, c7]) = xs[2]? := hf 2 _ rfl
    have h3 : DataW.trod enc Tryz.prog w 0 (fun _ => true) held n 24 (List.take (Tryz.prog.cellsOf 24) [c3, c4, c5, c6, c7]) = xs[3]? := hf 3 _ rfl
    have h4 : DataW.trod enc Tryz.prog w 0 (fun _ => true) held n 25 (List.take (Tryz.prog.cellsOf 25) [c4, c5, c6, c7]) = xs[4]? := hf 4 _ rfl
    have h5 : DataW.trod enc Tryz.prog w 0 (fun _ => true) held n 3 (List.take (Tryz.prog.cellsOf 3) [c5, c6, c7]) = xs[5]? := hf 5 _ rfl
    have h6 : DataW.trod enc Tryz.prog w 0 (fun _ => true) held n 9 (List.take (Tryz.prog.cellsOf 9) [c6, c7]) = xs[6]? := hf 6 _ rfl
    have h7 : DataW.trod enc Tryz.prog w 0 (fun _ => true) held n 9 (List.take (Tryz.prog.cellsOf 9) [c7]) = xs[7]? := hf 7 _ rfl
    rw [e0, Tryz.obCells22] at h0
    rw [e1, Tryz.obCells9] at h1
    rw [e2, Tryz.obCells23] at h2
    rw [e3, Tryz.obCells24] at h3
    rw [e4, Tryz.obCells25] at h4
    rw [e5, Tryz.obCells3] at h5
    rw [e6, Tryz.obCells9] at h6
    rw [e7, Tryz.obCells9] at h7
    obtain ⟨kd, g0, -⟩ := DataW.trod_int Tryz.underlying22 h0
    obtain ⟨label, g1, -⟩ := DataW.trod_string Tryz.underlying9 h1
    obtain ⟨r, rows, g2, hr, hn⟩ := open_rowsC h2
    obtain ⟨k, kids, g3, hk⟩ := open_kidsC h3
    obtain ⟨q, parents, g4, hp⟩ := open_txtsC h4
    obtain ⟨stamp, g5, -, ws⟩ := DataW.trod_int Tryz.underlying3 h5
    obtain ⟨note, g6, -⟩ := DataW.trod_string Tryz.underlying9 h6
    obtain ⟨root, g7, -⟩ := DataW.trod_string Tryz.underlying9 h7
    replace g0 : [c0] = [_] := g0
    replace g1 : [c1] = [_] := g1
    replace g2 : [c2] = [_] := g2
    replace g3 : [c3] = [_] := g3
    replace g4 : [c4] = [_] := g4
    replace g5 : [c5] = [_] := g5
    replace g6 : [c6] = [_] := g6
    replace g7 : [c7] = [_] := g7
    injection g0 with g0
    injection g1 with g1
    injection g2 with g2
    injection g3 with g3
    injection g4 with g4
    injection g5 with g5
    injection g6 with g6
    injection g7 with g7
    subst g0 g1 g2 g3 g4 g5 g6 g7
    exact ⟨kd, label, rows, kids, parents, stamp, note, root, _, _, _, rfl, ⟨hr, hk, hp, (i64_bounds ws).1, (i64_bounds ws).2, hn⟩⟩

end
end Go.Proofs.YtjanddnlhaionaaGreatDoor
