/-
  The arguments of the laws of layer 2, opened; and read again behind a call that turned nothing. No condition.
-/
import Derived.Test.YtjanddnlhaionaaGreatDoorL2x1
import Derived.Carry
import Derived.Deep.Slices
import Derived.Deep.Fields
namespace Go.Proofs.YtjanddnlhaionaaGreatDoor.L2
open Go.ChangeShapes Go.WideShapes Go.ChangeAt Go.RowKit Go.Joins Go.Deep

set_option maxRecDepth 100000 in
theorem Tryz.cells93 : Tryz.prog.cellsOf 93 = 5 := by kernel_rfl
set_option maxRecDepth 100000 in
theorem Tryz.cells3 : Tryz.prog.cellsOf 3 = 1 := by kernel_rfl
set_option maxRecDepth 100000 in
theorem Tryz.cells89 : Tryz.prog.cellsOf 89 = 1 := by kernel_rfl
set_option maxRecDepth 100000 in
theorem Tryz.cells9 : Tryz.prog.cellsOf 9 = 1 := by kernel_rfl
set_option maxRecDepth 100000 in
theorem Tryz.laidOut : laidOutB Tryz.prog = true := by kernel_rfl

section
variable {H : Type} {enc : TypeId × Value → H} {w : World} {base : Nat} {spare : Nat → Bool} {held : Bool} {fuel : Nat}

set_option maxRecDepth 100000 in
theorem some_at {α : Type} {l : List α} {i : Nat} (h : i < l.length) : ∃ x, l[i]? = some x := ⟨l[i], List.getElem?_eq_getElem h⟩

set_option maxRecDepth 100000 in
theorem open_cells25 {cs : List Value} {x : DataW H × List MemPlace} (h : DataW.trod enc Tryz.prog w base spare held fuel 91 cs = some x) :
    ∃ (k n : Int) (s : ByteArray), cs = [.int .i64 k, .int .i64 n, .string s] := by
  obtain ⟨xs, n, _, _, hlen, hxl, hf⟩ := DataW.trod_struct Tryz.underlying91 h
  rw [Tryz.cells91] at hlen
  match cs, hlen with
  | [c0, c1, c2], _ =>
    obtain ⟨y0, e0⟩ := some_at (l := xs) (i := 0) (by rw [hxl]; decide)
    obtain ⟨y1, e1⟩ := some_at (l := xs) (i := 1) (by rw [hxl]; decide)
    obtain ⟨y2, e2⟩ := some_at (l := xs) (i := 2) (by rw [hxl]; decide)
    have h0 : DataW.trod enc Tryz.prog w base spare held n 89 (List.take (Tryz.prog.cellsOf 89) [c0, c1, c2]) = xs[0]? := hf 0 _ rfl
    have h1 : DataW.trod enc Tryz.prog w base spare held n 3 (List.take (Tryz.prog.cellsOf 3) [c1, c2]) = xs[1]? := hf 1 _ rfl
    have h2 : DataW.trod enc Tryz.prog w base spare held n 9 (List.take (Tryz.prog.cellsOf 9) [c2]) = xs[2]? := hf 2 _ rfl
    rw [e0, Tryz.cells89] at h0
    rw [e1, Tryz.cells3] at h1
    rw [e2, Tryz.cells9] at h2
    obtain ⟨k, g0, -⟩ := DataW.trod_int Tryz.underlying89 h0
    obtain ⟨m, g1, -⟩ := DataW.trod_int Tryz.underlying3 h1
    obtain ⟨s, g2, -⟩ := DataW.trod_string Tryz.underlying9 h2
    replace g0 : [c0] = [_] := g0
    replace g1 : [c1] = [_] := g1
    replace g2 : [c2] = [_] := g2
    injection g0 with g0
    injection g1 with g1
    injection g2 with g2
    subst g0 g1 g2
    exact ⟨k, m, s, rfl⟩

set_option maxRecDepth 100000 in
theorem open_cells52 {cs : List Value} {x : DataW H × List MemPlace} (h : DataW.trod enc Tryz.prog w base spare held fuel 93 cs = some x) :
    ∃ r : Row, cs = rowC r := by
  obtain ⟨xs, n, _, _, hlen, hxl, hf⟩ := DataW.trod_struct Tryz.underlying93 h
  rw [Tryz.cells93] at hlen
  match cs, hlen with
  | [c0, c1, c2, c3, c4], _ =>
    obtain ⟨y0, e0⟩ := some_at (l := xs) (i := 0) (by rw [hxl]; decide)
    obtain ⟨y1, e1⟩ := some_at (l := xs) (i := 1) (by rw [hxl]; decide)
    obtain ⟨y2, e2⟩ := some_at (l := xs) (i := 2) (by rw [hxl]; decide)
    have h0 : DataW.trod enc Tryz.prog w base spare held n 3 (List.take (Tryz.prog.cellsOf 3) [c0, c1, c2, c3, c4]) = xs[0]? := hf 0 _ rfl
    have h1 : DataW.trod enc Tryz.prog w base spare held n 3 (List.take (Tryz.prog.cellsOf 3) [c1, c2, c3, c4]) = xs[1]? := hf 1 _ rfl
    have h2 : DataW.trod enc Tryz.prog w base spare held n 91 (List.take (Tryz.prog.cellsOf 91) [c2, c3, c4]) = xs[2]? := hf 2 _ rfl
    rw [e0, Tryz.cells3] at h0
    rw [e1, Tryz.cells3] at h1
    rw [e2, Tryz.cells91] at h2
    obtain ⟨f, g0, -⟩ := DataW.trod_int Tryz.underlying3 h0
    obtain ⟨e, g1, -⟩ := DataW.trod_int Tryz.underlying3 h1
    obtain ⟨k, m, s, g2⟩ := open_cells25 h2
    replace g0 : [c0] = [_] := g0
    replace g1 : [c1] = [_] := g1
    replace g2 : [c2, c3, c4] = [_, _, _] := g2
    injection g0 with g0
    injection g1 with g1
    injection g2 with g2 g3
    injection g3 with g3 g4
    injection g4 with g4
    subst g0 g1 g2 g3 g4
    exact ⟨(f, e, k, m, s), rfl⟩

set_option maxRecDepth 100000 in
theorem add_plain {w : World} {a : Addr} {j : Nat} {v : Value} (h : w.cell? (a.add j) = some v) (j0 : w.cell? a ≠ none) : ∃ b o, a = ⟨b, o, none⟩ := by
  obtain ⟨b, o, s⟩ := a
  cases s with
  | none => exact ⟨b, o, rfl⟩
  | some s =>
    exfalso
    apply j0
    unfold World.cell?
    simp only
    split <;> simp

set_option maxRecDepth 100000 in
theorem choose_list {α : Type} (n : Nat) (p : Nat → α → Prop) (h : ∀ i, i < n → ∃ x, p i x) : ∃ l : List α, l.length = n ∧ ∀ i (hi : i < l.length), p i l[i] := by
  induction n with
  | zero => exact ⟨[], rfl, fun i hi => by cases hi⟩
  | succ n ih =>
    obtain ⟨l, hl, hp⟩ := ih fun i hi => h i (by omega)
    obtain ⟨x, hx⟩ := h n (by omega)
    refine ⟨l ++ [x], by simp [hl], fun i hi => ?_⟩
    by_cases hi' : i < l.length
    · rw [List.getElem_append_left hi']; exact hp i hi'
    · have : i = l.length := by simp at hi; omega
      subst this
      simpa [hl] using hx

set_option maxRecDepth 100000 in
/-- A slice of rows that came in. -/
theorem open_rows {v : Value} {d : DataW H} {p : List MemPlace} (hv : ∃ a len cap, v = .slice a len cap) (h : DataW.Trod enc Tryz.prog w 0 (fun _ => true) held 23 v d p) : ∃ l, RowsAt w w.heap.size v l := by
  obtain ⟨A, len, cap, rfl⟩ := hv
  obtain ⟨fuel, hf⟩ := h
  rcases open_slice Tryz.underlying23 hf with ⟨h0, _⟩ | ⟨a, len', cap', m, n, D, Pl, hcs, _, hl, hm, hmm, _, hi⟩
  · have e : Value.slice A len cap = .slice none 0 0 := by simpa [Value.cells] using h0
    injection e with e1 e2 e3
    subst e1 e2 e3
    exact ⟨[], ⟨none, 0, rfl, Nat.le_refl _, Nat.zero_le _, fun h => by simp at h⟩⟩
  · have e : Value.slice A len cap = .slice (some a) len' cap' := by simpa [Value.cells] using hcs
    injection e with e1 e2 e3
    subst e1 e2 e3
    simp only [if_true] at hmm
    subst hmm
    obtain ⟨l, hll, hlr⟩ := choose_list len (fun i (r : Row) => ∀ j, j < 5 → w.cell? (a.add (i * 5 + j)) = (rowC r)[j]?) (fun i hi' => by
      obtain ⟨cs, hc, ht⟩ := hi i (by omega)
      rw [Tryz.cells93] at hc
      obtain ⟨_, _, hat⟩ := World.cells?_some hc
      obtain ⟨r, rfl⟩ := open_cells52 ht
      exact ⟨r, fun j hj => by rw [← Go.Deep.add_add]; exact hat j hj⟩)
    refine ⟨l, ⟨some a, _, by rw [hll], by omega, hm, fun h0 => ?_⟩⟩
    have c0 := hlr 0 h0 0 (by omega)
    have ha0 : a.add (0 * 5 + 0) = a := by unfold Addr.add; simp
    rw [ha0] at c0
    have hb : a.block < w.heap.size := World.block_lt_of_cell? w a (u := .int .i64 (l[0]).1) c0
    obtain ⟨b, o, rfl⟩ := add_plain (w := w) (a := a) (j := 0) (v := .int .i64 (l[0]).1) (by unfold Addr.add; simp; exact c0) (by rw [c0]; simp [rowC])
    refine ⟨b, o, rfl, hb, fun i hi' => ?_⟩
    have hc : ∀ j, j < 5 → w.cell? ⟨b, o + i * 5 + j, none⟩ = (rowC l[i])[j]? := fun j hj => by
      have := hlr i hi' j hj
      have e : (⟨b, o, none⟩ : Addr).add (i * 5 + j) = ⟨b, o + i * 5 + j, none⟩ := by
        unfold Addr.add
        split
        · rename_i h
          have h1 : i = 0 := by omega
          have h2 : j = 0 := by omega
          subst h1 h2; rfl
        · simp [Nat.add_assoc]
      rw [e] at this
      exact this
    exact ⟨hc 0 (by omega), hc 1 (by omega), hc 2 (by omega), hc 3 (by omega), hc 4 (by omega)⟩

set_option maxRecDepth 100000 in
/-- What was read is read again, where nothing that lay has turned. -/
theorem trodAll_below {P : Program} (hl : laidOutB P = true) {W W' : World} (hb : Below W.heap.size W W') : ∀ {ts : List TypeId} {vs : List Value} {ds : List (DataW H)} {ps : List MemPlace},
    DataW.TrodAll enc P W 0 (fun _ => true) true ts vs ds ps → (∀ x ∈ ps, x.block < W.heap.size) → (∀ t ∈ ts, P.readableRec t = true ∧ t < P.types.size) →
    DataW.TrodAll enc P W' 0 (fun b => decide (b < W.heap.size)) true ts vs ds ps
  | [], vs, ds, ps, h, _, _ => by
    obtain ⟨rfl, rfl, rfl⟩ := trodAll_nil h
    exact trodAll_mk0
  | t :: ts, vs, ds, ps, h, hlt, ht => by
    obtain ⟨v, vs', d, ds', p, q, rfl, rfl, rfl, h1, h2⟩ := trodAll_cons h
    obtain ⟨a, b⟩ := ht t List.mem_cons_self
    exact trodAll_cons_mk (Below.trod hl a b h1 hb (fun x hx => hlt x (List.mem_append_left _ hx))) (trodAll_below hl hb h2 (fun x hx => hlt x (List.mem_append_right _ hx)) (fun t' ht' => ht t' (List.mem_cons_of_mem _ ht')))
end
end Go.Proofs.YtjanddnlhaionaaGreatDoor.L2
