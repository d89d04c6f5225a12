/-
  The arguments of the laws of layer 4, opened; and read again behind a call that turned nothing. No condition.
-/
import Derived.Test.YtdmalkkpcggifaaU
import Derived.ProofKit
import Derived.OpenShut
import Derived.ShutString
import Derived.Lib.SmallJoins
import Derived.Carry
import Derived.Deep.Slices
import Derived.Deep.Fields
namespace Go.Proofs.Ytdmalkkpcggifaa
open Go.ChangeShapes Go.WideShapes Go.ChangeAt Go.RowKit Go.Joins Go.Deep

theorem Try.own : ownKnob Try.prog.godebug = none := by kernel_rfl
theorem Try.cells25 : Try.prog.cellsOf 25 = 4 := by kernel_rfl
theorem Try.cells22 : Try.prog.cellsOf 22 = 1 := by kernel_rfl
theorem Try.cells3 : Try.prog.cellsOf 3 = 1 := by kernel_rfl
theorem Try.cells9 : Try.prog.cellsOf 9 = 1 := by kernel_rfl
theorem Try.cells23 : Try.prog.cellsOf 23 = 1 := by kernel_rfl
theorem Try.laidOut : laidOutB Try.prog = true := by kernel_rfl

section
variable {H : Type} {enc : TypeId × Value → H} {w : World} {held : Bool}

theorem some_at {α : Type} {l : List α} {i : Nat} (h : i < l.length) : ∃ x, l[i]? = some x := ⟨l[i], List.getElem?_eq_getElem h⟩
theorem add_plain {w : World} {a : Addr} (j0 : w.cell? a ≠ none) : ∃ b o, a = ⟨b, o, none⟩ := by
  obtain ⟨b, o, s⟩ := a
  cases s with
  | none => exact ⟨b, o, rfl⟩
  | some s =>
    exfalso
    apply j0
    unfold World.cell?
    simp only
    split <;> simp
theorem add_at (b o j : Nat) : (⟨b, o, none⟩ : Addr).add j = ⟨b, o + j, none⟩ := by
  unfold Addr.add
  split
  · rename_i h; subst h; rfl
  · rfl
theorem choose_list {α : Type} (n : Nat) (p : Nat → α → Prop) (h : ∀ i, i < n → ∃ x, p i x) : ∃ l : List α, l.length = n ∧ ∀ i (hi : i < l.length), p i l[i] := by
  induction n with
  | zero => exact ⟨[], rfl, fun i hi => by cases hi⟩
  | succ n ih =>
    obtain ⟨l, hl, hp⟩ := ih fun i hi => h i (by omega)
    obtain ⟨x, hx⟩ := h n (by omega)
    refine ⟨l ++ [x], by simp [hl], fun i hi => ?_⟩
    by_cases hi' : i < l.length
    · rw [List.getElem_append_left hi']; exact hp i hi'
    · have : i = l.length := by simp at hi; omega
      subst this
      simpa [hl] using hx
theorem int_bounds {k : Int} (h : (Lit.int .i64 k).wf = true) : -9223372036854775808 ≤ k ∧ k ≤ 9223372036854775807 := by
  have h' : IntKind.i64.min ≤ k ∧ k ≤ IntKind.i64.max := by simpa [Lit.wf] using h
  rw [show IntKind.i64.min = -9223372036854775808 from rfl, show IntKind.i64.max = 9223372036854775807 from rfl] at h'
  exact h'

theorem open_cells (fuel : Nat) : ∀ (cs : List Value) (x : DataW H × List MemPlace), DataW.trod enc Try.prog w 0 (fun _ => true) held fuel 25 cs = some x →
    ∃ (c : C) (u : Value), cs = [.int .i64 c.k, .int .i64 c.n, .string c.s, u] ∧ LAt w w.heap.size (fuel + 1) u c.l ∧ Wf c := by
  induction fuel using Nat.strongRecOn with
  | _ fuel ih =>
  intro cs x h
  obtain ⟨xs, n, hfu, _, hlen, hxl, hf⟩ := DataW.trod_struct Try.underlying25 h
  rw [Try.cells25] at hlen
  match cs, hlen with
  | [c0, c1, c2, c3], _ =>
    obtain ⟨y0, e0⟩ := some_at (l := xs) (i := 0) (by rw [hxl]; decide)
    obtain ⟨y1, e1⟩ := some_at (l := xs) (i := 1) (by rw [hxl]; decide)
    obtain ⟨y2, e2⟩ := some_at (l := xs) (i := 2) (by rw [hxl]; decide)
    obtain ⟨y3, e3⟩ := some_at (l := xs) (i := 3) (by rw [hxl]; decide)
    have h0 : DataW.trod enc Try.prog w 0 (fun _ => true) held n 22 (List.take (Try.prog.cellsOf 22) [c0, c1, c2, c3]) = xs[0]? := hf 0 _ rfl
    have h1 : DataW.trod enc Try.prog w 0 (fun _ => true) held n 3 (List.take (Try.prog.cellsOf 3) [c1, c2, c3]) = xs[1]? := hf 1 _ rfl
    have h2 : DataW.trod enc Try.prog w 0 (fun _ => true) held n 9 (List.take (Try.prog.cellsOf 9) [c2, c3]) = xs[2]? := hf 2 _ rfl
    have h3 : DataW.trod enc Try.prog w 0 (fun _ => true) held n 23 (List.take (Try.prog.cellsOf 23) [c3]) = xs[3]? := hf 3 _ rfl
    rw [e0, Try.cells22] at h0
    rw [e1, Try.cells3] at h1
    rw [e2, Try.cells9] at h2
    rw [e3, Try.cells23] at h3
    obtain ⟨k, g0, -, wk⟩ := DataW.trod_int Try.underlying22 h0
    obtain ⟨m, g1, -, wm⟩ := DataW.trod_int Try.underlying3 h1
    obtain ⟨s, g2, -, ws⟩ := DataW.trod_string Try.underlying9 h2
    replace g0 : [c0] = [_] := g0
    replace g1 : [c1] = [_] := g1
    replace g2 : [c2] = [_] := g2
    injection g0 with g0
    injection g1 with g1
    injection g2 with g2
    subst g0 g1 g2
    have wk := int_bounds wk
    have wm := int_bounds wm
    unfold maxLen at ws
    have key : ∃ l, LAt w w.heap.size (fuel + 1) c3 l := by
      rcases DataW.trod_slice Try.underlying23 h3 with ⟨h4, -⟩ | ⟨a, len, cap, elems, rest, n2, hn2, h4, -, -, hlc, hcm, hel, hi, -, -⟩
      · replace h4 : [c3] = [_] := h4
        injection h4 with h4
        subst h4
        exact ⟨[], LAt.nil _ _ _⟩
      · replace h4 : [c3] = [_] := h4
        injection h4 with h4
        subst h4
        obtain ⟨L, hLl, hLr⟩ := choose_list len (fun i (r : C × Value) => (∀ j, j < 4 → w.cell? ((a.add (i * 4)).add j) = [Value.int .i64 r.1.k, .int .i64 r.1.n, .string r.1.s, r.2][j]?) ∧ LAt w w.heap.size (n2 + 1) r.2 r.1.l ∧ Wf r.1) (fun i hi' => by
          have hb := hi i hi'
          obtain ⟨y, ey⟩ := some_at (l := elems) (i := i) (by omega)
          rw [ey, Try.cells25] at hb
          cases hc : w.cells? 0 (a.add (i * 4)) 4 with
          | none => rw [hc] at hb; cases hb
          | some cs' =>
            rw [hc] at hb
            obtain ⟨c, u, rfl, hL, hw⟩ := ih n2 (by omega) cs' y hb
            obtain ⟨_, _, hat⟩ := World.cells?_some hc
            exact ⟨(c, u), fun j hj => hat j hj, hL, hw⟩)
        refine ⟨L.map (·.1), ?_⟩
        refine LAt.up (d := n2 + 2) ?_ (by omega)
        refine ⟨some a, cap, by rw [List.length_map, hLl], by rw [List.length_map, hLl]; exact hlc, hcm, fun h0 => ?_⟩
        rw [List.length_map] at h0
        have c0 := (hLr 0 h0).1 0 (by omega)
        have ha0 : (a.add (0 * 4)).add 0 = a := by unfold Addr.add; simp
        rw [ha0] at c0
        have hb : a.block < w.heap.size := World.block_lt_of_cell? w a (u := .int .i64 (L[0]).1.k) c0
        obtain ⟨b, o, rfl⟩ := add_plain (w := w) (a := a) (by rw [c0]; simp)
        refine ⟨b, o, rfl, hb, fun i hi' => ?_⟩
        rw [List.length_map] at hi'
        obtain ⟨hcl, hLt, hWf⟩ := hLr i hi'
        have hc : ∀ j, j < 4 → w.cell? ⟨b, o + i * 4 + j, none⟩ = [Value.int .i64 L[i].1.k, .int .i64 L[i].1.n, .string L[i].1.s, L[i].2][j]? := fun j hj => by
          have := hcl j hj
          rw [add_at, add_at] at this
          exact this
        refine ⟨L[i].2, ?_, by simpa using hWf, by simpa using hLt⟩
        simp only [List.getElem_map]
        exact ⟨hc 0 (by omega), hc 1 (by omega), hc 2 (by omega), hc 3 (by omega)⟩
    obtain ⟨l, hl⟩ := key
    exact ⟨.mk k m s l, c3, rfl, hl, ⟨wk.1, wk.2, wm.1, wm.2, by rw [s_mk]; omega⟩⟩

/-- A cell that came in. -/
theorem open_cell {v : Value} {d : DataW H} {p : List MemPlace} (hv : ∃ cs, v = .agg cs) (h : DataW.Trod enc Try.prog w 0 (fun _ => true) held 25 v d p) :
    ∃ (k n : Int) (s : ByteArray) (l : List C) (u : Value) (D : Nat), v = .agg #[.int .i64 k, .int .i64 n, .string s, u] ∧ LAt w w.heap.size D u l ∧ Wf (.mk k n s l) := by
  obtain ⟨cs, rfl⟩ := hv
  obtain ⟨fuel, hf⟩ := h
  obtain ⟨⟨k, n, s, l⟩, u, hcs, hL, hw⟩ := open_cells fuel _ _ hf
  refine ⟨k, n, s, l, u, fuel + 1, ?_, hL, hw⟩
  have : cs.toList = [.int .i64 k, .int .i64 n, .string s, u] := hcs
  rw [show cs = cs.toList.toArray by simp, this]

/-- What was read is read again, where nothing that lay has turned. -/
theorem trodAll_below {P : Program} (hl : laidOutB P = true) {W W' : World} (hb : Below W.heap.size W W') : ∀ {ts : List TypeId} {vs : List Value} {ds : List (DataW H)} {ps : List MemPlace},
    DataW.TrodAll enc P W 0 (fun _ => true) true ts vs ds ps → (∀ x ∈ ps, x.block < W.heap.size) → (∀ t ∈ ts, P.readableRec t = true ∧ t < P.types.size) →
    DataW.TrodAll enc P W' 0 (fun b => decide (b < W.heap.size)) true ts vs ds ps
  | [], vs, ds, ps, h, _, _ => by
    obtain ⟨rfl, rfl, rfl⟩ := trodAll_nil h
    exact trodAll_mk0
  | t :: ts, vs, ds, ps, h, hlt, ht => by
    obtain ⟨v, vs', d, ds', p, q, rfl, rfl, rfl, h1, h2⟩ := trodAll_cons h
    obtain ⟨a, b⟩ := ht t List.mem_cons_self
    exact trodAll_cons_mk (Below.trod hl a b h1 hb (fun x hx => hlt x (List.mem_append_left _ hx))) (trodAll_below hl hb h2 (fun x hx => hlt x (List.mem_append_right _ hx)) (fun t' ht' => ht t' (List.mem_cons_of_mem _ ht')))
end
end Go.Proofs.Ytdmalkkpcggifaa
