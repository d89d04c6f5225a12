/-
  The arguments of the laws of layer 5, opened; and read again behind a call that turned nothing. No condition. A drum that a tape filled from the beginning; a slice of strings that came in. No condition. A tape and rows of strings beside it; the walk of TapeWhole. No condition.
-/
import Derived.Test.YtjanddnlhaionaaGreatDoorL6x2
import Derived.Carry
import Derived.Deep.Slices
import Derived.Deep.Fields
import Derived.Lib.SmallJoins
import Derived.Test.YtjanddnlhaionaaGreatDoorL6x5
import Derived.OpenShut
set_option maxRecDepth 100000
namespace Go.Proofs.YtjanddnlhaionaaGreatDoor.L6
open Go.ChangeShapes Go.WideShapes Go.ChangeAt Go.RowKit Go.Joins Go.Deep

/-- A call of a script: its kind, its number, its text, its list. -/
structure Ac where
  k : Int
  i : Int
  s : ByteArray
  v : Value
  keep : List Int
structure AcAt (w : World) (B b o : Nat) (a : Ac) : Prop where
  c0 : w.cell? ⟨b, o, none⟩ = some (.int .i64 a.k)
  c1 : w.cell? ⟨b, o + 1, none⟩ = some (.int .i64 a.i)
  c2 : w.cell? ⟨b, o + 2, none⟩ = some (.string a.s)
  c3 : w.cell? ⟨b, o + 3, none⟩ = some a.v
  ints : IntsAt w B a.v a.keep
  top : a.i ≤ 9223372036854775807
/-- v is a slice of calls that reads L, in blocks below B. -/
def AcsAt (w : World) (B : Nat) (v : Value) (L : List Ac) : Prop :=
  ∃ a c, v = .slice a L.length c ∧ (0 < L.length → ∃ b o, a = some ⟨b, o, none⟩ ∧ b < B ∧ ∀ i (h : i < L.length), AcAt w B b (o + i * 4) L[i])
theorem AcAt.below {w w' : World} {B b o : Nat} {a : Ac} (h : AcAt w B b o a) (hb : Below B w w') (hlt : b < B) : AcAt w' B b o a :=
  ⟨by rw [hb.cell (p := ⟨b, o, none⟩) hlt]; exact h.c0, by rw [hb.cell (p := ⟨b, o + 1, none⟩) hlt]; exact h.c1, by rw [hb.cell (p := ⟨b, o + 2, none⟩) hlt]; exact h.c2, by rw [hb.cell (p := ⟨b, o + 3, none⟩) hlt]; exact h.c3, h.ints.below hb, h.top⟩
theorem AcsAt.below {w w' : World} {B : Nat} {v : Value} {L : List Ac} (h : AcsAt w B v L) (hb : Below B w w') : AcsAt w' B v L := by
  obtain ⟨a, c, rfl, h⟩ := h
  refine ⟨a, c, rfl, fun h0 => ?_⟩
  obtain ⟨b, o, rfl, hlt, hc⟩ := h h0
  exact ⟨b, o, rfl, hlt, fun i hi => (hc i hi).below hb hlt⟩
theorem IntsAt.more {w : World} {B B' : Nat} {v : Value} {l : List Int} (h : IntsAt w B v l) (hB : B ≤ B') : IntsAt w B' v l := by
  obtain ⟨a, c, rfl, h⟩ := h
  refine ⟨a, c, rfl, fun h0 => ?_⟩
  obtain ⟨b, o, rfl, hlt, hc⟩ := h h0
  exact ⟨b, o, rfl, by omega, hc⟩

theorem Tryz.own : ownKnob Tryz.prog.godebug = none := by kernel_rfl
theorem Tryz.cells3 : Tryz.prog.cellsOf 3 = 1 := by kernel_rfl
theorem Tryz.cells9 : Tryz.prog.cellsOf 9 = 1 := by kernel_rfl
theorem Tryz.cells71 : Tryz.prog.cellsOf 71 = 1 := by kernel_rfl
theorem Tryz.laidOut : laidOutB Tryz.prog = true := by kernel_rfl

section
variable {H : Type} {enc : TypeId × Value → H} {w : World} {base : Nat} {spare : Nat → Bool} {held : Bool} {fuel : Nat}

theorem some_at {α : Type} {l : List α} {i : Nat} (h : i < l.length) : ∃ x, l[i]? = some x := ⟨l[i], List.getElem?_eq_getElem h⟩
theorem add_plain {w : World} {a : Addr} (j0 : w.cell? a ≠ none) : ∃ b o, a = ⟨b, o, none⟩ := by
  obtain ⟨b, o, s⟩ := a
  cases s with
  | none => exact ⟨b, o, rfl⟩
  | some s =>
    exfalso
    apply j0
    unfold World.cell?
    simp only
    split <;> simp
theorem choose_list {α : Type} (n : Nat) (p : Nat → α → Prop) (h : ∀ i, i < n → ∃ x, p i x) : ∃ l : List α, l.length = n ∧ ∀ i (hi : i < l.length), p i l[i] := by
  induction n with
  | zero => exact ⟨[], rfl, fun i hi => by cases hi⟩
  | succ n ih =>
    obtain ⟨l, hl, hp⟩ := ih fun i hi => h i (by omega)
    obtain ⟨x, hx⟩ := h n (by omega)
    refine ⟨l ++ [x], by simp [hl], fun i hi => ?_⟩
    by_cases hi' : i < l.length
    · rw [List.getElem_append_left hi']; exact hp i hi'
    · have : i = l.length := by simp at hi; omega
      subst this
      simpa [hl] using hx
theorem addr_add (b o j : Nat) : (⟨b, o, none⟩ : Addr).add j = ⟨b, o + j, none⟩ := by unfold Addr.add; split <;> simp_all

/-- A slice of ints that came in. -/
theorem open_ints' {cs : List Value} {x : DataW H × List MemPlace} (h : DataW.trod enc Tryz.prog w 0 (fun _ => true) held fuel 71 cs = some x) : ∃ v l, cs = [v] ∧ IntsAt w w.heap.size v l := by
  rcases open_slice Tryz.underlying71 h with ⟨h0, _⟩ | ⟨a, len, cap, m, n, D, Pl, hcs, _, hl, hm, hmm, _, hi⟩
  · exact ⟨_, [], h0, IntsAt.nil _ _⟩
  · simp only [if_true] at hmm
    subst hmm
    obtain ⟨l, hll, hlr⟩ := choose_list len (fun i (r : Int) => w.cell? (a.add i) = some (.int .i64 r)) (fun i hi' => by
      obtain ⟨cs', hc, ht⟩ := hi i (by omega)
      rw [Tryz.cells3] at hc
      obtain ⟨_, hlen, hat⟩ := World.cells?_some hc
      obtain ⟨r, hr, -⟩ := DataW.trod_int Tryz.underlying3 ht
      refine ⟨r, ?_⟩
      have := hat 0 (by omega)
      rw [hr] at this
      have e : (a.add (i * 1)).add 0 = a.add i := by rw [Nat.mul_one]; unfold Addr.add; simp
      rw [e] at this
      exact this)
    refine ⟨_, l, hcs, some a, _, by rw [hll], fun h0 => ?_⟩
    have c0 := hlr 0 h0
    have ha0 : a.add 0 = a := by unfold Addr.add; simp
    rw [ha0] at c0
    have hb : a.block < w.heap.size := World.block_lt_of_cell? w a c0
    obtain ⟨b, o, rfl⟩ := add_plain (w := w) (a := a) (by rw [c0]; simp)
    exact ⟨b, o, rfl, hb, fun i hi' => by rw [← addr_add]; exact hlr i hi'⟩
theorem open_ints {v : Value} {d : DataW H} {p : List MemPlace} (hv : ∃ a len cap, v = .slice a len cap) (h : DataW.Trod enc Tryz.prog w 0 (fun _ => true) held 71 v d p) : ∃ l, IntsAt w w.heap.size v l := by
  obtain ⟨A, len, cap, rfl⟩ := hv
  obtain ⟨fuel, hf⟩ := h
  obtain ⟨v', l, e, hl⟩ := open_ints' hf
  have e : Value.slice A len cap = v' := by simpa [Value.cells] using e
  subst e
  exact ⟨l, hl⟩

/-- What was read is read again, where nothing that lay has turned. -/
theorem trodAll_below {P : Program} (hl : laidOutB P = true) {W W' : World} (hb : Below W.heap.size W W') : ∀ {ts : List TypeId} {vs : List Value} {ds : List (DataW H)} {ps : List MemPlace},
    DataW.TrodAll enc P W 0 (fun _ => true) true ts vs ds ps → (∀ x ∈ ps, x.block < W.heap.size) → (∀ t ∈ ts, P.readableRec t = true ∧ t < P.types.size) →
    DataW.TrodAll enc P W' 0 (fun b => decide (b < W.heap.size)) true ts vs ds ps
  | [], vs, ds, ps, h, _, _ => by
    obtain ⟨rfl, rfl, rfl⟩ := trodAll_nil h
    exact trodAll_mk0
  | t :: ts, vs, ds, ps, h, hlt, ht => by
    obtain ⟨v, vs', d, ds', p, q, rfl, rfl, rfl, h1, h2⟩ := trodAll_cons h
    obtain ⟨a, b⟩ := ht t List.mem_cons_self
    exact trodAll_cons_mk (Below.trod hl a b h1 hb (fun x hx => hlt x (List.mem_append_left _ hx))) (trodAll_below hl hb h2 (fun x hx => hlt x (List.mem_append_right _ hx)) (fun t' ht' => ht t' (List.mem_cons_of_mem _ ht')))
end
end Go.Proofs.YtjanddnlhaionaaGreatDoor.L6
namespace Go.Proofs.YtjanddnlhaionaaGreatDoor.L6
open Go.ChangeShapes Go.WideShapes Go.ChangeAt Go.RowKit Go.Joins Go.Deep

/-! ### Pending writes to consecutive sectors -/
def pend : Nat → List ByteArray → List (Nat × ByteArray)
  | _, [] => []
  | o, x :: l => (o, x) :: pend (o + 1) l
theorem pend_len : ∀ (o : Nat) (l : List ByteArray), (pend o l).length = l.length
  | _, [] => rfl
  | o, x :: l => by simp [pend, pend_len (o + 1) l]
theorem pend_append : ∀ (o : Nat) (a b : List ByteArray), pend o (a ++ b) = pend o a ++ pend (o + a.length) b
  | o, [], b => by simp [pend]
  | o, x :: a, b => by
    simp only [List.cons_append, pend, pend_append (o + 1) a b, List.length_cons]
    rw [show o + 1 + a.length = o + (a.length + 1) by omega]
theorem pend_get : ∀ (o : Nat) (l : List ByteArray) (k : Nat) (h : k < l.length), (pend o l)[k]? = some (o + k, l[k])
  | o, x :: l, 0, _ => by simp [pend]
  | o, x :: l, k + 1, h => by
    have hk : k < l.length := by simpa using h
    simp only [pend, List.getElem?_cons_succ, pend_get (o + 1) l k hk, List.getElem_cons_succ]
    rw [show o + 1 + k = o + (k + 1) by omega]
theorem pw_pend (o : Nat) (l : List ByteArray) (k : Nat) (h : k < l.length) : pw (pend o l) k = (o + k, l[k]) := by
  unfold pw
  rw [List.getD_eq_getElem?_getD, pend_get o l k h]
  rfl
theorem ap_pend (n : Nat) (l : List ByteArray) (hl : l.length ≤ n) : ∀ k, k ≤ l.length → ap allF (List.replicate n z64) (pend 0 l) k = l.take k ++ List.replicate (n - k) z64
  | 0, _ => by simp [ap]
  | k + 1, h => by
    have hk : k < l.length := by omega
    rw [ap, ap_pend n l hl k (by omega), pw_pend 0 l k hk]
    have ha : allF k = true := rfl
    rw [ha, if_pos rfl]
    simp only [Nat.zero_add]
    have hlen : (l.take k).length = k := by rw [List.length_take]; omega
    rw [List.take_succ_eq_append_getElem hk, show n - k = (n - (k + 1)) + 1 by omega, List.replicate_succ, List.set_append_right _ _ (by omega), hlen, Nat.sub_self, List.set_cons_zero, List.append_assoc]
    rfl

/-- A drum of n sectors that holds nothing durable, with all of l pending. -/
structure Wh (n : Nat) (l : List ByteArray) (d : D) (t : T) : Prop where
  s : d.S = List.replicate n z64
  w : d.W = pend 0 (allSecs 1 1 l)
  f : d.fuse = -1
  g : d.gone = false
  t : t = ⟨l.length, 1, (allSecs 1 1 l).length, 0⟩
  le : (allSecs 1 1 l).length ≤ n
theorem burn_none {d : D} (h : d.fuse = -1) : burn d = d := by
  unfold burn
  rw [if_neg (by rw [h]; omega), if_neg (by rw [h]; omega)]
theorem write_none {d : D} (hf : d.fuse = -1) (hg : d.gone = false) (i : Nat) (s : ByteArray) (hi : i < d.S.length) (hs : s.size = 64) : writeE d (i : Int) s = 0 ∧ writeD d (i : Int) s = { d with W := d.W ++ [(i, s)] } := by
  have ho : writeOk d (i : Int) s = true := by
    unfold writeOk
    rw [Bool.and_eq_true, hasB_iff, decide_eq_true_eq]
    exact ⟨by omega, hs⟩
  unfold writeE writeD
  rw [ho, burn_none hf, hg]
  simp [hg]
theorem wrK_none (t : T) (s : ByteArray) (d : D) (hf : d.fuse = -1) (hg : d.gone = false) (hp : t.pos + needN s.size ≤ d.S.length) : ∀ k, k ≤ needN s.size →
    wrK t s d k = ({ d with W := d.W ++ pend t.pos (((List.range k).map fun i => layB (partOf t.life (t.count + 1) s i))) }, 0)
  | 0, _ => by simp [wrK, pend]
  | k + 1, h => by
    have ih := wrK_none t s d hf hg hp k (by omega)
    have hsz : (layB (partOf t.life (t.count + 1) s k)).size = 64 := layB_size _ (by unfold partOf; simp only [List.length_take]; omega)
    obtain ⟨e1, e2⟩ := write_none (d := { d with W := d.W ++ pend t.pos (((List.range k).map fun i => layB (partOf t.life (t.count + 1) s i))) }) hf hg (t.pos + k) (layB (partOf t.life (t.count + 1) s k)) (by show t.pos + k < d.S.length; omega) hsz
    unfold wrK
    rw [ih]
    simp only [if_true]
    rw [e1, e2]
    simp only
    congr 1
    congr 1
    rw [List.append_assoc, List.range_succ, List.map_append, pend_append]
    simp [pend]
theorem Wh.app {n : Nat} {l : List ByteArray} {d : D} {t : T} (h : Wh n l d t) (s : ByteArray) : (needN s.size + (allSecs 1 1 l).length ≤ n → appE t d s = 0 ∧ Wh n (l ++ [s]) (appD t d s) (appT t d s)) ∧ (¬ needN s.size + (allSecs 1 1 l).length ≤ n → appE t d s = 8 ∧ appD t d s = d ∧ appT t d s = t) := by
  have ht := h.t
  have hS : d.S.length = n := by rw [h.s]; simp
  have hp : t.pos = (allSecs 1 1 l).length := by rw [ht]
  have he : t.err = 0 := by rw [ht]
  have hc : t.count = l.length := by rw [ht]
  have hli : t.life = 1 := by rw [ht]
  refine ⟨fun hf => ?_, fun hf => ?_⟩
  · have e1 : appFits t d s = true := by unfold appFits; rw [decide_eq_true he, decide_eq_true (by rw [hp, hS]; exact hf)]; rfl
    have ek := wrK_none t s d h.f h.g (by rw [hp, hS]; omega) (needN s.size) (Nat.le_refl _)
    have hsec : ((List.range (needN s.size)).map fun i => layB (partOf t.life (t.count + 1) s i)) = secsOf 1 (1 + l.length) s := by rw [hc, hli, Nat.add_comm l.length 1]; rfl
    rw [hsec] at ek
    have hall : allSecs 1 1 (l ++ [s]) = allSecs 1 1 l ++ secsOf 1 (1 + l.length) s := allSecs_snoc 1 1 l s
    refine ⟨by unfold appE; rw [if_pos he, if_pos (by rw [hp, hS]; exact hf), ek], ?_⟩
    unfold appD appT
    rw [if_pos e1, if_pos e1, ek]
    simp only [if_true]
    refine ⟨h.s, ?_, h.f, h.g, ?_, ?_⟩
    · rw [hall, pend_append, h.w, hp, Nat.zero_add]
    · rw [hall, ht]
      simp [secsOf_len]
    · rw [hall, List.length_append, secsOf_len]; omega
  · have hf' : ¬ needN s.size + t.pos ≤ d.S.length := by rw [hp, hS]; exact hf
    have e1 : appFits t d s = false := by unfold appFits; rw [decide_eq_false hf', Bool.and_false]
    refine ⟨by unfold appE; rw [if_pos he, if_neg (by rw [hp, hS]; exact hf)], by unfold appD; rw [e1]; rfl, by unfold appT; rw [e1]; rfl⟩
/-- A drum at rest. -/
def rest (S : List ByteArray) : D := ⟨S, [], -1, false⟩
theorem Wh.settle {n : Nat} {l : List ByteArray} {d : D} {t : T} (h : Wh n l d t) : flushE t d = 0 ∧ flushD t d = rest (allSecs 1 1 l ++ List.replicate (n - (allSecs 1 1 l).length) z64) := by
  have he : t.err = 0 := by rw [h.t]
  unfold flushE flushD settleE settleD
  rw [if_pos he, if_pos he, burn_none h.f, h.g]
  simp only [Bool.false_eq_true, if_false, true_and]
  unfold rest
  have hw := h.w
  have hs := h.s
  have hf := h.f
  have hg := h.g
  have e : ap allF d.S d.W d.W.length = allSecs 1 1 l ++ List.replicate (n - (allSecs 1 1 l).length) z64 := by
    rw [hw, hs, pend_len, ap_pend n _ h.le _ (Nat.le_refl _), List.take_length]
  rw [e, hf, hg]
theorem crash_rest (S : List ByteArray) : crashD (rest S) [] = rest S := rfl
theorem shown_rest (S : List ByteArray) : shown (rest S) = S := by
  unfold shown rest sh
  refine List.ext_getElem (by simp) fun i h1 h2 => ?_
  simp [h2]
theorem Wh.new (n : Nat) : Wh n [] (newD n) (openT (newD n)) ∧ openE (newD n) = 0 ∧ (scanD (newD n)).recs = [] := by
  have hs : scanD (newD n) = scanL (List.replicate n z64) := by unfold scanD; rw [show newD n = rest (List.replicate n z64) from rfl, shown_rest]
  obtain ⟨b1, b2, b3⟩ := visit_blank n rd0
  have c1 : (scanD (newD n)).recs = [] := by rw [hs]; exact b1
  have c2 : (scanD (newD n)).occ = 0 := by rw [hs]; exact b2
  have c3 : (scanD (newD n)).great = 0 := by rw [hs]; exact b3
  refine ⟨⟨rfl, rfl, rfl, rfl, ?_, Nat.zero_le _⟩, ?_, c1⟩
  · unfold openT; rw [c1, c2, c3]; rfl
  · unfold openE; rw [c3]; rfl
theorem Wh.again {n : Nat} {l : List ByteArray} (hl : l.length ≤ 1000000) (hle : (allSecs 1 1 l).length ≤ n) (hn : n ≤ 4096) :
    openE (rest (allSecs 1 1 l ++ List.replicate (n - (allSecs 1 1 l).length) z64)) = 0 ∧ (scanD (rest (allSecs 1 1 l ++ List.replicate (n - (allSecs 1 1 l).length) z64))).recs = l ∧ (openT (rest (allSecs 1 1 l ++ List.replicate (n - (allSecs 1 1 l).length) z64))).count = l.length ∧
      (openT (rest (allSecs 1 1 l ++ List.replicate (n - (allSecs 1 1 l).length) z64))).pos = (allSecs 1 1 l).length := by
  have hne : ∀ s ∈ l, needN s.size ≤ 65536 := by
    intro s hs
    have : needN s.size ≤ (allSecs 1 1 l).length := by
      have H : ∀ (m : List ByteArray) (rec : Nat), s ∈ m → needN s.size ≤ (allSecs 1 rec m).length := by
        intro m
        induction m with
        | nil => intro rec h; cases h
        | cons a m ih =>
          intro rec h
          simp only [allSecs, List.length_append, secsOf_len]
          rcases List.mem_cons.1 h with rfl | h
          · omega
          · have := ih (rec + 1) h; omega
      exact H l 1 hs
    omega
  obtain ⟨s1, s2, s3⟩ := scan_whole 1 (by omega) (by omega) l (n - (allSecs 1 1 l).length) (by omega) hne
  have hsc : scanD (rest (allSecs 1 1 l ++ List.replicate (n - (allSecs 1 1 l).length) z64)) = scanL (allSecs 1 1 l ++ List.replicate (n - (allSecs 1 1 l).length) z64) := by unfold scanD; rw [shown_rest]
  rw [← hsc] at s1 s2 s3
  refine ⟨?_, s1, by show (scanD _).recs.length = _; rw [s1], s2⟩
  unfold openE
  rw [if_neg (by simp [rest]), if_neg (by omega)]

/-! ### A slice of strings that came in -/
def SAt (w : World) (B : Nat) (v : Value) (l : List ByteArray) : Prop :=
  ∃ a c, v = .slice a l.length c ∧ (0 < l.length → ∃ b o, a = some ⟨b, o, none⟩ ∧ b < B ∧ ∀ i (h : i < l.length), w.cell? ⟨b, o + i, none⟩ = some (.string l[i]))
theorem SAt.below {w w' : World} {B : Nat} {v : Value} {l : List ByteArray} (h : SAt w B v l) (hb : Below B w w') : SAt w' B v l := by
  obtain ⟨a, c, rfl, h⟩ := h
  refine ⟨a, c, rfl, fun h0 => ?_⟩
  obtain ⟨b, o, rfl, hlt, hc⟩ := h h0
  exact ⟨b, o, rfl, hlt, fun i hi => by rw [hb.cell (p := ⟨b, o + i, none⟩) hlt]; exact hc i hi⟩
theorem SAt.cell {w : World} {B b o n c : Nat} {l : List ByteArray} (h : SAt w B (.slice (some ⟨b, o, none⟩) n c) l) (i : Nat) (hi : i < l.length) : w.cell? ⟨b, o + i, none⟩ = some (.string l[i]) := by
  obtain ⟨a, c', e, h⟩ := h
  obtain ⟨b', o', rfl, -, hc⟩ := h (by omega)
  injection e with e1 e2 e3
  injection e1 with e1
  injection e1 with e4 e5
  subst e4 e5
  exact hc i hi
theorem SAt.some_ {w : World} {B : Nat} {a : Option Addr} {n c : Nat} {l : List ByteArray} (h : SAt w B (.slice a n c) l) (h0 : 0 < l.length) : ∃ b o, a = some ⟨b, o, none⟩ := by
  obtain ⟨a', c', e, h⟩ := h
  injection e with e1 e2 e3
  subst e1
  obtain ⟨b, o, rfl, -, -⟩ := h h0
  exact ⟨b, o, rfl⟩
section
variable {H : Type} {enc : TypeId × Value → H} {w : World} {held : Bool}
theorem open_strs {v : Value} {d : DataW H} {p : List MemPlace} (hv : ∃ a len cap, v = .slice a len cap) (h : DataW.Trod enc Tryz.prog w 0 (fun _ => true) held 25 v d p) : ∃ l, SAt w w.heap.size v l := by
  obtain ⟨A, len, cap, rfl⟩ := hv
  obtain ⟨fuel, hf⟩ := h
  rcases open_strings Tryz.underlying25 Tryz.under9 Tryz.cells9 hf with ⟨h0, _⟩ | ⟨a, len', cap', ss, hcs, _, hl, hm, hss, _, hcell, _⟩
  · have e : Value.slice A len cap = .slice none 0 0 := by simpa [Value.cells] using h0
    injection e with e1 e2 e3
    subst e1 e2 e3
    exact ⟨[], none, 0, rfl, fun h => by simp at h⟩
  · have e : Value.slice A len cap = .slice (some a) len' cap' := by simpa [Value.cells] using hcs
    injection e with e1 e2 e3
    subst e1 e2 e3
    simp only [if_true] at hss
    have hlen : (ss.take len).length = len := by simp; omega
    refine ⟨ss.take len, some a, cap, by rw [hlen], fun h0 => ?_⟩
    rw [hlen] at h0
    obtain ⟨b, off, spot⟩ := a
    have hspot : spot = none := by simpa [Addr.add] using World.cell?_spot (hcell 0 (by omega))
    subst hspot
    have hc : ∀ i, i < ss.length → w.cell? ⟨b, off + i, none⟩ = some (.string (ss.getD i ByteArray.empty)) := fun i hi => by
      rw [← Go.WideShapes.add_plain]; exact hcell i hi
    refine ⟨b, off, rfl, World.block_lt_of_cell? w _ (hc 0 (by omega)), fun i hi => ?_⟩
    rw [hlen] at hi
    rw [hc i (by omega)]
    have hi' : i < ss.length := by omega
    simp [hi']
end
end Go.Proofs.YtjanddnlhaionaaGreatDoor.L6
namespace Go.Proofs.YtjanddnlhaionaaGreatDoor.L6
open Go.RowKit

/-- What lies in rows of strings has not turned. -/
def Keep9 (w w' : World) : Prop := ∀ (k : Nat) (cs : Array Value), w.heap[k]? = some (Obj.cells cs 9 (0, 0)) → w'.heap[k]? = w.heap[k]?
theorem Keep9.row {w w' : World} (h : Keep9 w w') {B : Nat} {v : Value} {n : Nat} {xs : List Value} (ho : w.ownsRow B 9 1 v n xs) : w'.ownsRow B 9 1 v n xs := row_keep ho fun k hk => by
  obtain ⟨cs, hc⟩ := row_ty ho hk
  exact h k cs hc
theorem Keep9.of {F : Nat → Prop} {w w' : World} (ht : Turn F w w') (hF : ∀ k, F k → ∃ cs t, w.heap[k]? = some (Obj.cells cs t (0, 0)) ∧ t ≠ 9) : Keep9 w w' := fun k cs hc => ht.block k (Array.getElem?_eq_some_iff.1 hc).1 (fun hk => by
  obtain ⟨cs', t, hc', ht9⟩ := hF k hk
  exact ty_ne hc' hc ht9 rfl)
theorem TN.core {w0 w : World} {bt bl b : Nat} {d : D} {t : T} (h : TN w0 w bt bl b d t) : ∃ F, TAt w F bt bl b d t ∧ (∀ k, F k → w0.heap.size ≤ k) ∧ w0.heap.size ≤ bt ∧ w0.heap.size ≤ bl ∧ Below w0.heap.size w0 w ∧ ∀ k, F k → ∃ cs ty, w.heap[k]? = some (Obj.cells cs ty (0, 0)) ∧ (ty = 120 ∨ ty = 144 ∨ ty = 146) := by
  obtain ⟨F, h1, h2, h3, h4, h5⟩ := h
  obtain ⟨G, g1, g2, g3⟩ := h1.p.core
  exact ⟨G, ⟨h1.l, g1, h1.ok, fun hk => h1.n1 (g2 _ hk), fun hk => h1.n2 (g2 _ hk)⟩, fun k hk => h2 k (g2 k hk), h3, h4, h5, g3⟩
theorem fl9 {w : World} {F : Nat → Prop} {bt bl b : Nat} {t : T} (hl : LogAt w bt bl b t) (hF : ∀ k, F k → ∃ cs ty, w.heap[k]? = some (Obj.cells cs ty (0, 0)) ∧ (ty = 120 ∨ ty = 144 ∨ ty = 146)) : ∀ k, FL F bl k → ∃ cs t, w.heap[k]? = some (Obj.cells cs t (0, 0)) ∧ t ≠ 9 := fun k hk => by
  rcases hk with hk | rfl
  · obtain ⟨cs, ty, hc, ht⟩ := hF k hk
    exact ⟨cs, ty, hc, by rcases ht with rfl | rfl | rfl <;> decide⟩
  · exact ⟨_, _, hl.rl, by decide⟩
theorem appendK {w0 w : World} {bt bl b : Nat} {d : D} {t : T} (h : TN w0 w bt bl b d t) (hw : d.W.length + 4096 ≤ 1000000) (hc : t.count < 1000000) (s : ByteArray) (hs : s.size ≤ 1000000000) :
    Calls Tryz.prog 132 #[.pointer (some ⟨bt, 0, none⟩), .string s] w fun e w' => e = .returned (.int .i64 (appE t d s)) ∧ TN w0 w' bt bl b (appD t d s) (appT t d s) ∧ Keep9 w w' ∧ Below w0.heap.size w w' := by
  obtain ⟨F, h1, h2, h3, h4, h5, h6⟩ := h.core
  refine (append26 h1 hw hc s hs).mono ?_
  rintro e w' ⟨he, G, g1, g2, g3⟩
  have hb := g3.below _ h5.size (fun k hk => by rcases hk with hk | rfl; exact h2 k hk; exact h4)
  exact ⟨he, ⟨G, g1, fun k hk => by rcases g2 k hk with h | h; exact h2 k h; exact Nat.le_trans h5.size h, h3, h4, h5.trans hb⟩, Keep9.of g3 (fl9 h1.l h6), hb⟩
theorem settleK {w0 w : World} {bt bl b : Nat} {d : D} {t : T} (h : TN w0 w bt bl b d t) (hw : d.W.length ≤ 1000000) :
    Calls Tryz.prog 133 #[.pointer (some ⟨bt, 0, none⟩)] w fun e w' => e = .returned (.int .i64 (flushE t d)) ∧ TN w0 w' bt bl b (flushD t d) (flushT t d) ∧ Keep9 w w' ∧ Below w0.heap.size w w' := by
  obtain ⟨F, h1, h2, h3, h4, h5, h6⟩ := h.core
  refine (settle20 h1 hw).mono ?_
  rintro e w' ⟨he, g1, g3⟩
  have hb := g3.below _ h5.size (fun k hk => by rcases hk with hk | rfl; exact h2 k hk; exact h4)
  exact ⟨he, ⟨F, g1, h2, h3, h4, h5.trans hb⟩, Keep9.of g3 (fl9 h1.l h6), hb⟩
theorem crashK {w0 w : World} {b : Nat} {d : D} (h : PN w0 w b d) (hw : d.W.length ≤ 1000000) (l : List Int) (lv : Value) (hl : IntsAt w w.heap.size lv l) (hll : l.length ≤ 1000000) :
    Calls Tryz.prog 36 #[.pointer (some ⟨b, 0, none⟩), lv] w fun e w' => e = .returned (.int .i64 0) ∧ PN w0 w' b (crashD d l) ∧ Keep9 w w' ∧ Below w0.heap.size w w' := by
  obtain ⟨F, hP, hF, hB⟩ := h
  obtain ⟨G, g1, g2, g3⟩ := hP.core
  refine (crash16 g1 hw l lv hl hll).mono ?_
  rintro e w' ⟨he, hP', hT⟩
  exact ⟨he, PN.turn (fun k hk => hF k (g2 k hk)) hB hP' hT, Keep9.of hT (fun k hk => by obtain ⟨cs, ty, hc, ht⟩ := g3 k hk; exact ⟨cs, ty, hc, by rcases ht with rfl | rfl | rfl <;> decide⟩), hT.below _ hB.size (fun k hk => hF k (g2 k hk))⟩
theorem TN.grown {w0 w w' : World} {bt bl b : Nat} {d : D} {t : T} {row : Option Nat} (h : TN w0 w bt bl b d t) (hg : w.grownBy w' row) (hr : ∀ k, row = some k → w0.heap.size ≤ k ∧ ∃ cs, w.heap[k]? = some (Obj.cells cs 9 (0, 0))) : TN w0 w' bt bl b d t := by
  obtain ⟨F, h1, h2, h3, h4, h5, h6⟩ := h.core
  have hne : ∀ (k : Nat) (cs : Array Value) (ty : TypeId), w.heap[k]? = some (Obj.cells cs ty (0, 0)) → ty ≠ 9 → w'.heap[k]? = w.heap[k]? := fun k cs ty hc hty => hg.block k (Array.getElem?_eq_some_iff.1 hc).1 (fun e => by
    obtain ⟨-, cs', hc'⟩ := hr k e.symm
    exact ty_ne hc hc' hty rfl)
  have hT : Turn (fun k => row = some k) w w' := Turn.of_grown hg (fun k e => e)
  refine ⟨F, ⟨h1.l.keep (hne _ _ _ h1.l.rt (by decide)) (hne _ _ _ h1.l.rl (by decide)), h1.p.keep hT (fun k hk e => ?_), h1.ok, h1.n1, h1.n2⟩, h2, h3, h4, h5.grown hg h5.size (fun k e => (hr k e).1)⟩
  obtain ⟨cs, ty, hc, ht⟩ := h6 k hk
  obtain ⟨-, cs', hc'⟩ := hr k e
  exact ty_ne hc hc' (by rcases ht with rfl | rfl | rfl <;> decide) rfl

end Go.Proofs.YtjanddnlhaionaaGreatDoor.L6
