/-
  The arguments of the laws of layer 5, opened; and read again behind a call that turned nothing. No condition.
-/
import Derived.Test.YtjanddnlhaionaaGreatDoorL6I
import Derived.Carry
import Derived.Deep.Slices
import Derived.Deep.Fields
import Derived.Lib.SmallJoins
namespace Go.Proofs.YtjanddnlhaionaaGreatDoor.L6
open Go.ChangeShapes Go.WideShapes Go.ChangeAt Go.RowKit Go.Joins Go.Deep

/-- A call of a script: its kind, its number, its text, its list. -/
structure Ac where
  k : Int
  i : Int
  s : ByteArray
  v : Value
  keep : List Int
structure AcAt (w : World) (B b o : Nat) (a : Ac) : Prop where
  c0 : w.cell? ⟨b, o, none⟩ = some (.int .i64 a.k)
  c1 : w.cell? ⟨b, o + 1, none⟩ = some (.int .i64 a.i)
  c2 : w.cell? ⟨b, o + 2, none⟩ = some (.string a.s)
  c3 : w.cell? ⟨b, o + 3, none⟩ = some a.v
  ints : IntsAt w B a.v a.keep
  top : a.i ≤ 9223372036854775807
/-- v is a slice of calls that reads L, in blocks below B. -/
def AcsAt (w : World) (B : Nat) (v : Value) (L : List Ac) : Prop :=
  ∃ a c, v = .slice a L.length c ∧ (0 < L.length → ∃ b o, a = some ⟨b, o, none⟩ ∧ b < B ∧ ∀ i (h : i < L.length), AcAt w B b (o + i * 4) L[i])
set_option maxRecDepth 100000 in
theorem AcAt.below {w w' : World} {B b o : Nat} {a : Ac} (h : AcAt w B b o a) (hb : Below B w w') (hlt : b < B) : AcAt w' B b o a :=
  ⟨by rw [hb.cell (p := ⟨b, o, none⟩) hlt]; exact h.c0, by rw [hb.cell (p := ⟨b, o + 1, none⟩) hlt]; exact h.c1, by rw [hb.cell (p := ⟨b, o + 2, none⟩) hlt]; exact h.c2, by rw [hb.cell (p := ⟨b, o + 3, none⟩) hlt]; exact h.c3, h.ints.below hb, h.top⟩
set_option maxRecDepth 100000 in
theorem AcsAt.below {w w' : World} {B : Nat} {v : Value} {L : List Ac} (h : AcsAt w B v L) (hb : Below B w w') : AcsAt w' B v L := by
  obtain ⟨a, c, rfl, h⟩ := h
  refine ⟨a, c, rfl, fun h0 => ?_⟩
  obtain ⟨b, o, rfl, hlt, hc⟩ := h h0
  exact ⟨b, o, rfl, hlt, fun i hi => (hc i hi).below hb hlt⟩
set_option maxRecDepth 100000 in
theorem IntsAt.more {w : World} {B B' : Nat} {v : Value} {l : List Int} (h : IntsAt w B v l) (hB : B ≤ B') : IntsAt w B' v l := by
  obtain ⟨a, c, rfl, h⟩ := h
  refine ⟨a, c, rfl, fun h0 => ?_⟩
  obtain ⟨b, o, rfl, hlt, hc⟩ := h h0
  exact ⟨b, o, rfl, by omega, hc⟩

set_option maxRecDepth 100000 in
theorem Tryz.own : ownKnob Tryz.prog.godebug = none := by kernel_rfl
set_option maxRecDepth 100000 in
theorem Tryz.cells3 : Tryz.prog.cellsOf 3 = 1 := by kernel_rfl
set_option maxRecDepth 100000 in
theorem Tryz.cells9 : Tryz.prog.cellsOf 9 = 1 := by kernel_rfl
set_option maxRecDepth 100000 in
theorem Tryz.cells71 : Tryz.prog.cellsOf 71 = 1 := by kernel_rfl
set_option maxRecDepth 100000 in
theorem Tryz.laidOut : laidOutB Tryz.prog = true := by kernel_rfl

section
variable {H : Type} {enc : TypeId × Value → H} {w : World} {base : Nat} {spare : Nat → Bool} {held : Bool} {fuel : Nat}

set_option maxRecDepth 100000 in
theorem some_at {α : Type} {l : List α} {i : Nat} (h : i < l.length) : ∃ x, l[i]? = some x := ⟨l[i], List.getElem?_eq_getElem h⟩
set_option maxRecDepth 100000 in
theorem add_plain {w : World} {a : Addr} (j0 : w.cell? a ≠ none) : ∃ b o, a = ⟨b, o, none⟩ := by
  obtain ⟨b, o, s⟩ := a
  cases s with
  | none => exact ⟨b, o, rfl⟩
  | some s =>
    exfalso
    apply j0
    unfold World.cell?
    simp only
    split <;> simp
set_option maxRecDepth 100000 in
theorem choose_list {α : Type} (n : Nat) (p : Nat → α → Prop) (h : ∀ i, i < n → ∃ x, p i x) : ∃ l : List α, l.length = n ∧ ∀ i (hi : i < l.length), p i l[i] := by
  induction n with
  | zero => exact ⟨[], rfl, fun i hi => by cases hi⟩
  | succ n ih =>
    obtain ⟨l, hl, hp⟩ := ih fun i hi => h i (by omega)
    obtain ⟨x, hx⟩ := h n (by omega)
    refine ⟨l ++ [x], by simp [hl], fun i hi => ?_⟩
    by_cases hi' : i < l.length
    · rw [List.getElem_append_left hi']; exact hp i hi'
    · have : i = l.length := by simp at hi; omega
      subst this
      simpa [hl] using hx
set_option maxRecDepth 100000 in
theorem addr_add (b o j : Nat) : (⟨b, o, none⟩ : Addr).add j = ⟨b, o + j, none⟩ := by unfold Addr.add; split <;> simp_all

set_option maxRecDepth 100000 in
/-- A slice of ints that came in. -/
theorem open_ints' {cs : List Value} {x : DataW H × List MemPlace} (h : DataW.trod enc Tryz.prog w 0 (fun _ => true) held fuel 71 cs = some x) : ∃ v l, cs = [v] ∧ IntsAt w w.heap.size v l := by
  rcases open_slice Tryz.underlying71 h with ⟨h0, _⟩ | ⟨a, len, cap, m, n, D, Pl, hcs, _, hl, hm, hmm, _, hi⟩
  · exact ⟨_, [], h0, IntsAt.nil _ _⟩
  · simp only [if_true] at hmm
    subst hmm
    obtain ⟨l, hll, hlr⟩ := choose_list len (fun i (r : Int) => w.cell? (a.add i) = some (.int .i64 r)) (fun i hi' => by
      obtain ⟨cs', hc, ht⟩ := hi i (by omega)
      rw [Tryz.cells3] at hc
      obtain ⟨_, hlen, hat⟩ := World.cells?_some hc
      obtain ⟨r, hr, -⟩ := DataW.trod_int Tryz.underlying3 ht
      refine ⟨r, ?_⟩
      have := hat 0 (by omega)
      rw [hr] at this
      have e : (a.add (i * 1)).add 0 = a.add i := by rw [Nat.mul_one]; unfold Addr.add; simp
      rw [e] at this
      exact this)
    refine ⟨_, l, hcs, some a, _, by rw [hll], fun h0 => ?_⟩
    have c0 := hlr 0 h0
    have ha0 : a.add 0 = a := by unfold Addr.add; simp
    rw [ha0] at c0
    have hb : a.block < w.heap.size := World.block_lt_of_cell? w a c0
    obtain ⟨b, o, rfl⟩ := add_plain (w := w) (a := a) (by rw [c0]; simp)
    exact ⟨b, o, rfl, hb, fun i hi' => by rw [← addr_add]; exact hlr i hi'⟩
set_option maxRecDepth 100000 in
theorem open_ints {v : Value} {d : DataW H} {p : List MemPlace} (hv : ∃ a len cap, v = .slice a len cap) (h : DataW.Trod enc Tryz.prog w 0 (fun _ => true) held 71 v d p) : ∃ l, IntsAt w w.heap.size v l := by
  obtain ⟨A, len, cap, rfl⟩ := hv
  obtain ⟨fuel, hf⟩ := h
  obtain ⟨v', l, e, hl⟩ := open_ints' hf
  have e : Value.slice A len cap = v' := by simpa [Value.cells] using e
  subst e
  exact ⟨l, hl⟩

set_option maxRecDepth 100000 in
/-- What was read is read again, where nothing that lay has turned. -/
theorem trodAll_below {P : Program} (hl : laidOutB P = true) {W W' : World} (hb : Below W.heap.size W W') : ∀ {ts : List TypeId} {vs : List Value} {ds : List (DataW H)} {ps : List MemPlace},
    DataW.TrodAll enc P W 0 (fun _ => true) true ts vs ds ps → (∀ x ∈ ps, x.block < W.heap.size) → (∀ t ∈ ts, P.readableRec t = true ∧ t < P.types.size) →
    DataW.TrodAll enc P W' 0 (fun b => decide (b < W.heap.size)) true ts vs ds ps
  | [], vs, ds, ps, h, _, _ => by
    obtain ⟨rfl, rfl, rfl⟩ := trodAll_nil h
    exact trodAll_mk0
  | t :: ts, vs, ds, ps, h, hlt, ht => by
    obtain ⟨v, vs', d, ds', p, q, rfl, rfl, rfl, h1, h2⟩ := trodAll_cons h
    obtain ⟨a, b⟩ := ht t List.mem_cons_self
    exact trodAll_cons_mk (Below.trod hl a b h1 hb (fun x hx => hlt x (List.mem_append_left _ hx))) (trodAll_below hl hb h2 (fun x hx => hlt x (List.mem_append_right _ hx)) (fun t' ht' => ht t' (List.mem_cons_of_mem _ ht')))
end
end Go.Proofs.YtjanddnlhaionaaGreatDoor.L6
