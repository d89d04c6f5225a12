/-
  Contracts of the small functions of package span and of the document's answer. No condition.
-/
import Derived.Test.YtecefhoinggmgaaQ
import Derived.Test.YtecefhoinggmgaaPA
namespace Go.Proofs.Ytecefhoinggmgaa
open Go.RowKit

abbrev Vl := Int × Int × ByteArray
abbrev Row := Seg Vl
abbrev Pc := Seg (Vl × Vl)
instance decVl : DecidableEq Vl := inferInstance
instance decVl2 : DecidableEq (Vl × Vl) := fun a b => decidable_of_iff (a.1 = b.1 ∧ a.2 = b.2) ⟨fun h => Prod.ext h.1 h.2, fun h => h ▸ ⟨rfl, rfl⟩⟩
instance decPc : DecidableEq Pc := inferInstance
def vz : Vl := (0, 0, ByteArray.empty)

def maxT : Int := 1099511627776
def isTimeB (t : Int) : Bool := decide (0 ≤ t) && decide (t ≤ 1099511627776)
def isSpanB (f t : Int) : Bool := decide (0 ≤ f) && (decide (f < t) && decide (t ≤ 1099511627776))

theorem isSpanB_iff {f t : Int} : isSpanB f t = true ↔ 0 ≤ f ∧ f < t ∧ t ≤ 1099511627776 := by simp [isSpanB]
theorem isTimeB_iff {t : Int} : isTimeB t = true ↔ 0 ≤ t ∧ t ≤ 1099511627776 := by simp [isTimeB]

set_option maxHeartbeats 400000 in
theorem isTime35 (t : Int) (w : World) : Calls Try.prog 35 #[.int .i64 t] w fun e w' => e = .returned (.bool (isTimeB t)) ∧ w = w' := by
  cases h0 : decide (0 ≤ t) with
  | false =>
    have hA : Hid (isTimeB t = false) := by simp [Hid, isTimeB, h0]
    rw [hA.out]
    go_enter Try.func35, Try.ntmps35
    go_wp2
    go_ret
    exact ⟨rfl, rfl⟩
  | true =>
    have hA : Hid (isTimeB t = decide (t ≤ 1099511627776)) := by simp [Hid, isTimeB, h0]
    rw [hA.out]
    go_enter Try.func35, Try.ntmps35
    go_wp2
    go_ret
    exact ⟨rfl, rfl⟩

set_option maxHeartbeats 400000 in
theorem isSpan38 (f t : Int) (w : World) : Calls Try.prog 38 #[.int .i64 f, .int .i64 t] w fun e w' => e = .returned (.bool (isSpanB f t)) ∧ w = w' := by
  have HF := Lib.hid (isTime35 f)
  have HT := Lib.hid (isTime35 t)
  have hA : Hid (isSpanB f t = (isTimeB f && (isTimeB t && decide (f < t)))) := by
    unfold Hid
    rw [Bool.eq_iff_iff, isSpanB_iff]
    simp only [Bool.and_eq_true, isTimeB_iff, decide_eq_true_eq]
    omega
  rw [hA.out]
  clear hA
  cases h0 : isTimeB f with
  | false =>
    rw [h0] at HF
    rw [show (false && (isTimeB t && decide (f < t))) = false from rfl]
    clear h0
    go_enter Try.func38, Try.ntmps38
    go_wp2_with fail
    refine (HF.out _).mono ?_
    rintro e w' ⟨rfl, rfl⟩
    go_wp2
    go_ret
    exact ⟨rfl, rfl⟩
  | true =>
    rw [h0] at HF
    clear h0
    cases h1 : isTimeB t with
    | false =>
      rw [h1] at HT
      rw [show (true && (false && decide (f < t))) = false from rfl]
      clear h1
      go_enter Try.func38, Try.ntmps38
      go_wp2_with fail
      refine (HF.out _).mono ?_
      rintro e w' ⟨rfl, rfl⟩
      go_wp2_with fail
      refine (HT.out _).mono ?_
      rintro e w' ⟨rfl, rfl⟩
      go_wp2
      go_ret
      exact ⟨rfl, rfl⟩
    | true =>
      rw [h1] at HT
      rw [show (true && (true && decide (f < t))) = decide (f < t) from rfl]
      clear h1
      go_enter Try.func38, Try.ntmps38
      go_wp2_with fail
      refine (HF.out _).mono ?_
      rintro e w' ⟨rfl, rfl⟩
      go_wp2_with fail
      refine (HT.out _).mono ?_
      rintro e w' ⟨rfl, rfl⟩
      go_wp2
      go_ret
      exact ⟨rfl, rfl⟩

set_option maxHeartbeats 400000 in
theorem span32 (f t : Int) (w : World) : Calls Try.prog 32 #[.int .i64 f, .int .i64 t] w fun e w' => e = .returned (.bool (isSpanB f t)) ∧ w = w' := by
  cases h0 : decide (0 ≤ f) with
  | false =>
    have hA : Hid (isSpanB f t = false) := by simp [Hid, isSpanB, h0]
    rw [hA.out]
    go_enter Try.func32, Try.ntmps32
    go_wp2
    go_ret
    exact ⟨rfl, rfl⟩
  | true =>
    cases h1 : decide (f < t) with
    | false =>
      have hA : Hid (isSpanB f t = false) := by simp [Hid, isSpanB, h1]
      rw [hA.out]
      go_enter Try.func32, Try.ntmps32
      go_wp2
      go_ret
      exact ⟨rfl, rfl⟩
    | true =>
      have hA : Hid (isSpanB f t = decide (t ≤ 1099511627776)) := by simp [Hid, isSpanB, h0, h1]
      rw [hA.out]
      go_enter Try.func32, Try.ntmps32
      go_wp2
      go_ret
      exact ⟨rfl, rfl⟩

def edge (t f e : Int) : Int := if t < f then f else e
set_option maxHeartbeats 400000 in
theorem nextEdge53 (t f e : Int) (w : World) : Calls Try.prog 53 #[.int .i64 t, .int .i64 f, .int .i64 e] w fun x w' => x = .returned (.int .i64 (edge t f e)) ∧ w = w' := by
  unfold edge
  by_cases h : t < f
  · rw [if_pos h]
    go_enter Try.func53, Try.ntmps53
    go_wp2
    go_ret
    exact ⟨rfl, rfl⟩
  · rw [if_neg h]
    go_enter Try.func53, Try.ntmps53
    go_wp2
    go_ret
    exact ⟨rfl, rfl⟩

/-- What a row is in memory. -/
def rowV (r : Row) : Value := .agg #[.int .i64 r.1, .int .i64 r.2.1, .int .i64 r.2.2.1, .int .i64 r.2.2.2.1, .string r.2.2.2.2]

def contB (a b : Row) : Bool := decide (a.2.1 = b.1) && decide (a.2.2 = b.2.2)

set_option maxHeartbeats 400000 in
theorem continues39 (a b : Row) (w : World) : Calls Try.prog 39 #[rowV a, rowV b] w fun e w' => e = .returned (.bool (contB a b)) ∧ Below w.heap.size w w' := by
  obtain ⟨af, ae, ak, an, sa⟩ := a
  obtain ⟨bf, be, bk, bn, sb⟩ := b
  unfold rowV
  simp only
  have hend : Below w.heap.size w ((w.alloc (.cells #[.int .i64 af, .int .i64 ae, .int .i64 ak, .int .i64 an, .string sa] 52)).alloc (.cells #[.int .i64 bf, .int .i64 be, .int .i64 bk, .int .i64 bn, .string sb] 52)) :=
    ((Below.refl _ w).alloc (Nat.le_refl _) _).alloc (by simp) _
  cases h0 : (ae == bf) with
  | false =>
    have hA : Hid (contB (af, ae, ak, an, sa) (bf, be, bk, bn, sb) = false) := by unfold Hid; simp at h0; simp [contB, h0]
    rw [hA.out]
    go_enter Try.func39, Try.ntmps39
    go_wp2
    go_ret
    exact ⟨rfl, hend⟩
  | true =>
    have hA : Hid (contB (af, ae, ak, an, sa) (bf, be, bk, bn, sb) = decide (ak = bk ∧ an = bn ∧ sa = sb)) := by unfold Hid; simp at h0; simp [contB, h0]
    rw [hA.out]
    obtain ⟨t, ht⟩ : ∃ t, decide (ak = bk ∧ an = bn ∧ sa = sb) = t := ⟨_, rfl⟩
    rw [ht]
    have heq := fun W => eql24 ak an sa bk bn sb t ht W
    clear ht hA
    go_enter Try.func39, Try.ntmps39
    go_wp2
    go_ret
    exact ⟨rfl, hend⟩

/-! ### Rows in memory -/

structure RowAt (w : World) (b o : Nat) (r : Row) : Prop where
  c0 : w.cell? ⟨b, o, none⟩ = some (.int .i64 r.1)
  c1 : w.cell? ⟨b, o + 1, none⟩ = some (.int .i64 r.2.1)
  c2 : w.cell? ⟨b, o + 2, none⟩ = some (.int .i64 r.2.2.1)
  c3 : w.cell? ⟨b, o + 3, none⟩ = some (.int .i64 r.2.2.2.1)
  c4 : w.cell? ⟨b, o + 4, none⟩ = some (.string r.2.2.2.2)

theorem RowAt.keep {w w' : World} {b o : Nat} {r : Row} (h : RowAt w b o r) (hk : ∀ o, w'.cell? ⟨b, o, none⟩ = w.cell? ⟨b, o, none⟩) : RowAt w' b o r :=
  ⟨(hk _).trans h.c0, (hk _).trans h.c1, (hk _).trans h.c2, (hk _).trans h.c3, (hk _).trans h.c4⟩
theorem RowAt.below {w w' : World} {b o B : Nat} {r : Row} (h : RowAt w b o r) (hb : Below B w w') (hl : b < B) : RowAt w' b o r :=
  h.keep fun o => hb.cell (p := ⟨b, o, none⟩) hl

/-- The slice v reads as the rows l, below block B. -/
def RowsAt (w : World) (B : Nat) (v : Value) (l : List Row) : Prop :=
  ∃ A cap, v = .slice A l.length cap ∧ l.length ≤ cap ∧ cap ≤ maxLen ∧ (0 < l.length → ∃ b o, A = some ⟨b, o, none⟩ ∧ b < B ∧ ∀ i (h : i < l.length), RowAt w b (o + i * 5) l[i])

theorem RowsAt.keep {w w' : World} {B : Nat} {v : Value} {l : List Row} (h : RowsAt w B v l) (hk : ∀ b o, b < B → w'.cell? ⟨b, o, none⟩ = w.cell? ⟨b, o, none⟩) : RowsAt w' B v l := by
  obtain ⟨A, cap, rfl, h1, h2, h3⟩ := h
  refine ⟨A, cap, rfl, h1, h2, fun hl => ?_⟩
  obtain ⟨b, o, rfl, hb, hr⟩ := h3 hl
  exact ⟨b, o, rfl, hb, fun i hi => (hr i hi).keep fun o => hk b o hb⟩
theorem RowsAt.below {w w' : World} {B : Nat} {v : Value} {l : List Row} (h : RowsAt w B v l) (hb : Below B w w') : RowsAt w' B v l :=
  h.keep fun b o hl => hb.cell (p := ⟨b, o, none⟩) hl
theorem RowsAt.more {w : World} {B B' : Nat} {v : Value} {l : List Row} (h : RowsAt w B v l) (hB : B ≤ B') : RowsAt w B' v l := by
  obtain ⟨A, cap, rfl, h1, h2, h3⟩ := h
  refine ⟨A, cap, rfl, h1, h2, fun hl => ?_⟩
  obtain ⟨b, o, rfl, hb, hr⟩ := h3 hl
  exact ⟨b, o, rfl, by omega, hr⟩
theorem RowsAt.step {w w' : World} {v : Value} {l : List Row} (h : RowsAt w w.heap.size v l) (hb : Below w.heap.size w w') : RowsAt w' w'.heap.size v l :=
  (h.below hb).more hb.size

def lkD (l : List Row) (t : Int) : Vl := (lk l t).getD vz
def valV (v : Vl) : Value := .agg #[.int .i64 v.1, .int .i64 v.2.1, .string v.2.2]

theorem drop_get {α : Type} (l : List α) (k : Nat) (h : k < l.length) : l.drop k = l[k] :: l.drop (k + 1) := List.drop_eq_getElem_cons h

/-! ### Pieces in memory -/
def pcV (p : Pc) : Value := .agg #[.int .i64 p.1, .int .i64 p.2.1, .int .i64 p.2.2.1.1, .int .i64 p.2.2.1.2.1, .string p.2.2.1.2.2, .int .i64 p.2.2.2.1, .int .i64 p.2.2.2.2.1, .string p.2.2.2.2.2]
structure PcAt (w : World) (b o : Nat) (p : Pc) : Prop where
  c0 : w.cell? ⟨b, o, none⟩ = some (.int .i64 p.1)
  c1 : w.cell? ⟨b, o + 1, none⟩ = some (.int .i64 p.2.1)
  c2 : w.cell? ⟨b, o + 2, none⟩ = some (.int .i64 p.2.2.1.1)
  c3 : w.cell? ⟨b, o + 3, none⟩ = some (.int .i64 p.2.2.1.2.1)
  c4 : w.cell? ⟨b, o + 4, none⟩ = some (.string p.2.2.1.2.2)
  c5 : w.cell? ⟨b, o + 5, none⟩ = some (.int .i64 p.2.2.2.1)
  c6 : w.cell? ⟨b, o + 6, none⟩ = some (.int .i64 p.2.2.2.2.1)
  c7 : w.cell? ⟨b, o + 7, none⟩ = some (.string p.2.2.2.2.2)

theorem PcAt.keep {w w' : World} {b o : Nat} {r : Pc} (h : PcAt w b o r) (hk : ∀ o, w'.cell? ⟨b, o, none⟩ = w.cell? ⟨b, o, none⟩) : PcAt w' b o r :=
  ⟨(hk _).trans h.c0, (hk _).trans h.c1, (hk _).trans h.c2, (hk _).trans h.c3, (hk _).trans h.c4, (hk _).trans h.c5, (hk _).trans h.c6, (hk _).trans h.c7⟩

/-- The slice v reads as the pieces l, below block B. -/
def PcsAt (w : World) (B : Nat) (v : Value) (l : List Pc) : Prop :=
  ∃ A cap, v = .slice A l.length cap ∧ l.length ≤ cap ∧ cap ≤ maxLen ∧ (0 < l.length → ∃ b o, A = some ⟨b, o, none⟩ ∧ b < B ∧ ∀ i (h : i < l.length), PcAt w b (o + i * 8) l[i])

theorem PcsAt.keep {w w' : World} {B : Nat} {v : Value} {l : List Pc} (h : PcsAt w B v l) (hk : ∀ b o, b < B → w'.cell? ⟨b, o, none⟩ = w.cell? ⟨b, o, none⟩) : PcsAt w' B v l := by
  obtain ⟨A, cap, rfl, h1, h2, h3⟩ := h
  refine ⟨A, cap, rfl, h1, h2, fun hl => ?_⟩
  obtain ⟨b, o, rfl, hb, hr⟩ := h3 hl
  exact ⟨b, o, rfl, hb, fun i hi => (hr i hi).keep fun o => hk b o hb⟩
theorem PcsAt.below {w w' : World} {B : Nat} {v : Value} {l : List Pc} (h : PcsAt w B v l) (hb : Below B w w') : PcsAt w' B v l :=
  h.keep fun b o hl => hb.cell (p := ⟨b, o, none⟩) hl
theorem PcsAt.more {w : World} {B B' : Nat} {v : Value} {l : List Pc} (h : PcsAt w B v l) (hB : B ≤ B') : PcsAt w B' v l := by
  obtain ⟨A, cap, rfl, h1, h2, h3⟩ := h
  refine ⟨A, cap, rfl, h1, h2, fun hl => ?_⟩
  obtain ⟨b, o, rfl, hb, hr⟩ := h3 hl
  exact ⟨b, o, rfl, by omega, hr⟩
theorem PcsAt.step {w w' : World} {v : Value} {l : List Pc} (h : PcsAt w w.heap.size v l) (hb : Below w.heap.size w w') : PcsAt w' w'.heap.size v l :=
  (h.below hb).more hb.size
end Go.Proofs.Ytecefhoinggmgaa
