/-
  The parts of ShelfIds. No condition.
-/
import Derived.Test.YtjanddnlhaionaaGreatDoorST
import Derived.Test.YtjanddnlhaionaaGreatDoorSO
namespace Go.Proofs.YtjanddnlhaionaaGreatDoor
open Go.RowKit
open L3 (Tabs St)
open L4 (C LAt LIn LNF Wf okC encC putS putE Box)
open L2 (Row)

/-! ### Objects in a row -/
structure OAt (w : World) (b o : Nat) (x : Ob) (r k p : Value) : Prop where
  ob : ObAt w r k p x
  c0 : w.cell? ⟨b, o, none⟩ = some (.int .i64 x.k)
  c1 : w.cell? ⟨b, o + 1, none⟩ = some (.string x.label)
  c2 : w.cell? ⟨b, o + 2, none⟩ = some r
  c3 : w.cell? ⟨b, o + 3, none⟩ = some k
  c4 : w.cell? ⟨b, o + 4, none⟩ = some p
  c5 : w.cell? ⟨b, o + 5, none⟩ = some (.int .i64 x.stamp)
  c6 : w.cell? ⟨b, o + 6, none⟩ = some (.string x.note)
  c7 : w.cell? ⟨b, o + 7, none⟩ = some (.string x.root)
def ObsAt (w : World) (v : Value) (l : List Ob) : Prop :=
  ∃ A cap, v = .slice A l.length cap ∧ l.length ≤ cap ∧ cap ≤ maxLen ∧ (0 < l.length → ∃ b o, A = some ⟨b, o, none⟩ ∧ b < w.heap.size ∧ ∀ i (h : i < l.length), ∃ r k p, OAt w b (o + i * 8) l[i] r k p)
/-! ### The calls, of an object as one -/
section
variable {w0 w : World} {sb mb bt bl b : Nat} {fv : Value} {d : L6.D} {st : Sf}
theorem put38o (K : List Int) (I : St) (h : SfAt w0 w sb mb fv bt bl b d st) (hT : Tabs K I w0) (o : Ob) (r k p : Value) (ho : ObAt w r k p o) (hc : st.c < 1000000) (hfr : st.fresh.length < 1000000) :
    Calls Tryz.prog 38 #[.pointer (some ⟨sb, 0, none⟩), .agg #[.int .i64 o.k, .string o.label, r, k, p, .int .i64 o.stamp, .string o.note, .string o.root]] w fun e w' =>
      ∃ fv', e = .returned (.tuple #[.string (putId K I st o), .int .i64 (putEr K I st o)]) ∧ SfAt w0 w' sb mb fv' bt bl b d (putSt K I st o) ∧ L6.Turn (Mine sb mb fv) w w' ∧ (∀ j, fv'.ownBlock = some j → fv.ownBlock = some j ∨ w.heap.size ≤ j) := by
  cases o
  exact put38 K I h hT _ _ _ _ _ _ _ _ r k p ho hc hfr
theorem SfAt.mine_lt (h : SfAt w0 w sb mb fv bt bl b d st) : ∀ k, Mine sb mb fv k → k < w.heap.size := fun k hk => by
  obtain ⟨-, o, ho, -⟩ := h.mine k hk
  exact (Array.getElem?_eq_some_iff.1 ho).1
theorem PN_lower {w0 w1 w2 : World} (h : L6.PN w1 w2 b d) (hb : Below w0.heap.size w0 w1) : L6.PN w0 w2 b d := by
  obtain ⟨F, hP, hF, hB⟩ := h
  exact ⟨F, hP, fun k hk => Nat.le_trans hb.size (hF k hk), hb.trans (hB.mono hb.size)⟩
end

/-! ### After the commit -/
structure Done (K : List Int) (I : St) (st : Sf) : Prop where
  ids : ∀ id ∈ st.fresh, id.size ≤ maxLen
  fl : st.fresh.length ≤ 20
  sz : ∀ s ∈ encs st, s.size ≤ 8500
  len : okC 16 (batC c7 (encs st)) = true → (encC 16 (batC c7 (encs st))).length ≤ 1000000
  ct : st.t.count = 0
  e : comE st (L6.newD 4000) c7 = 0
  cr : L6.crashD (comD st (L6.newD 4000) c7) [] = comD st (L6.newD 4000) c7
  wl : (comD st (L6.newD 4000) c7).W.length = 0
  m : (comSt st (L6.newD 4000) c7).m = st.m
  c : (comSt st (L6.newD 4000) c7).c = st.c
  oe : L6.openE (comD st (L6.newD 4000) c7) = 0
  recs : (L6.scanD (comD st (L6.newD 4000) c7)).recs = ([(c7, encs st)] : List Bt).map btS
  bt : ∀ r ∈ ([(c7, encs st)] : List Bt), BtOk r
  ld : loadS K I (fun _ => none) 0 (allE [(c7, encs st)]) = some (st.m, st.c)
  al : (allE [(c7, encs st)]).length ≤ 1000000
/-! ### Two boxes and an element of the row -/
structure T2 (w0 : World) (P Q b o : Nat) (x : Ob) (r1 k1 p1 r2 k2 p2 r k p : Value) (W : World) : Prop where
  b1 : W.heap[P]? = some (.cells #[.int .i64 x.k, .string x.label, r1, k1, p1, .int .i64 x.stamp, .string x.note, .string x.root] 27 (0, 0))
  b2 : W.heap[Q]? = some (.cells #[.int .i64 x.k, .string x.label, r2, k2, p2, .int .i64 x.stamp, .string x.note, .string x.root] 27 (0, 0))
  o1 : ObAt W r1 k1 p1 x
  o2 : ObAt W r2 k2 p2 x
  el : OAt W b o x r k p
  lt : b < W.heap.size
  below : Below w0.heap.size w0 W
end Go.Proofs.YtjanddnlhaionaaGreatDoor
