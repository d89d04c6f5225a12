/-
  Plain lists: segments of time with values, their canonical form, and that it is one. No condition. Contracts of the small functions of package span and of the document's answer. No condition. Contracts of Had, few, Same and SamePieces. No condition. Contracts of span.Check and of the document's Right and Check. No condition. Rows that a call owns; the contract of span.addRow. No condition.
-/
import Derived.Test.YtjanddnlhaionaaGreatDoorL2x0
import Derived.Deep.QuietTactic
import Derived.BigQuiet
import Derived.Deep.RegionHeld3
import Derived.IntWalk
import Derived.Test.YtjanddnlhaionaaGreatDoorRows
import Derived.WalkKit
import Derived.ProofKit
import Derived.OpenShut
import Derived.ShutString
import Derived.Lib.SmallJoins
import Derived.Deep.AppendLies
import Derived.OwnWalk
set_option maxRecDepth 100000
namespace Go.Proofs.YtjanddnlhaionaaGreatDoor.L2

abbrev Seg (α : Type) := Int × Int × α

section
variable {α : Type}

def lk : List (Seg α) → Int → Option α
  | [], _ => none
  | x :: r, t => if x.1 ≤ t ∧ t < x.2.1 then some x.2.2 else lk r t

/-- Sorted and apart, from lo on. -/
def Up : Int → List (Seg α) → Prop
  | _, [] => True
  | lo, x :: r => lo ≤ x.1 ∧ x.1 < x.2.1 ∧ Up x.2.1 r

/-- Canonical: sorted, and no two that touch have one value; all of it ends at E or before. -/
def CE : Int → Option α → List (Seg α) → Int → Prop
  | lo, _, [], E => lo ≤ E
  | lo, pv, x :: r, E => lo ≤ x.1 ∧ x.1 < x.2.1 ∧ ¬ (x.1 = lo ∧ pv = some x.2.2) ∧ CE x.2.1 (some x.2.2) r E

section
variable [DecidableEq α]
/-- One more behind; it is one with the last one that it touches and that has its value. -/
def addL : List (Seg α) → Seg α → List (Seg α)
  | [], x => [x]
  | [y], x => if y.2.1 = x.1 ∧ y.2.2 = x.2.2 then [(y.1, x.2.1, y.2.2)] else [y, x]
  | y :: z :: r, x => y :: addL (z :: r) x

def joinStep (nn : α → Bool) (out : List (Seg α)) (x : Seg α) : List (Seg α) := if nn x.2.2 then out else addL out x
def joins (nn : α → Bool) (out : List (Seg α)) (S : List (Seg α)) : List (Seg α) := S.foldl (joinStep nn) out

end

/-! Times that rise, and segments between them. -/

def Inc : List Int → Prop
  | [] => True
  | [_] => True
  | a :: b :: r => a < b ∧ Inc (b :: r)

def segs (g : Int → Int → α) : List Int → List (Seg α)
  | a :: b :: r => (a, b, g a b) :: segs g (b :: r)
  | _ => []

/-- Times with one more. -/
def insL : List Int → Int → List Int
  | [], n => [n]
  | a :: r, n => if n ≤ a then n :: (a :: r).filter (fun x => decide (x ≠ n)) else a :: insL r n

def boundsL {β : Type} (more : List Int) (l : List (Seg β)) : List Int := l.foldl (fun out x => insL (insL out x.1) x.2.1) more
end
end Go.Proofs.YtjanddnlhaionaaGreatDoor.L2
namespace Go.Proofs.YtjanddnlhaionaaGreatDoor.L2
open Go.RowKit

abbrev Vl := Int × Int × ByteArray
abbrev Row := Seg Vl
abbrev Pc := Seg (Vl × Vl)
instance decVl : DecidableEq Vl := inferInstance
instance decVl2 : DecidableEq (Vl × Vl) := fun a b => decidable_of_iff (a.1 = b.1 ∧ a.2 = b.2) ⟨fun h => Prod.ext h.1 h.2, fun h => h ▸ ⟨rfl, rfl⟩⟩
instance decPc : DecidableEq Pc := inferInstance
def vz : Vl := (0, 0, ByteArray.empty)

def maxT : Int := 1099511627776
def isTimeB (t : Int) : Bool := decide (0 ≤ t) && decide (t ≤ 1099511627776)
def isSpanB (f t : Int) : Bool := decide (0 ≤ f) && (decide (f < t) && decide (t ≤ 1099511627776))

theorem isSpanB_iff {f t : Int} : isSpanB f t = true ↔ 0 ≤ f ∧ f < t ∧ t ≤ 1099511627776 := by simp [isSpanB]
theorem isTimeB_iff {t : Int} : isTimeB t = true ↔ 0 ≤ t ∧ t ≤ 1099511627776 := by simp [isTimeB]

set_option maxHeartbeats 400000 in
theorem isTime35 (t : Int) (w : World) : Calls Tryz.prog 149 #[.int .i64 t] w fun e w' => e = .returned (.bool (isTimeB t)) ∧ w = w' := by
  cases h0 : decide (0 ≤ t) with
  | false =>
    have hA : Hid (isTimeB t = false) := by simp [Hid, isTimeB, h0]
    rw [hA.out]
    go_enter Tryz.func149, Tryz.ntmps149
    go_wp2
    go_ret
    exact ⟨rfl, rfl⟩
  | true =>
    have hA : Hid (isTimeB t = decide (t ≤ 1099511627776)) := by simp [Hid, isTimeB, h0]
    rw [hA.out]
    go_enter Tryz.func149, Tryz.ntmps149
    go_wp2
    go_ret
    exact ⟨rfl, rfl⟩

set_option maxHeartbeats 400000 in
theorem isSpan38 (f t : Int) (w : World) : Calls Tryz.prog 106 #[.int .i64 f, .int .i64 t] w fun e w' => e = .returned (.bool (isSpanB f t)) ∧ w = w' := by
  have HF := Lib.hid (isTime35 f)
  have HT := Lib.hid (isTime35 t)
  have hA : Hid (isSpanB f t = (isTimeB f && (isTimeB t && decide (f < t)))) := by
    unfold Hid
    rw [Bool.eq_iff_iff, isSpanB_iff]
    simp only [Bool.and_eq_true, isTimeB_iff, decide_eq_true_eq]
    omega
  rw [hA.out]
  clear hA
  cases h0 : isTimeB f with
  | false =>
    rw [h0] at HF
    rw [show (false && (isTimeB t && decide (f < t))) = false from rfl]
    clear h0
    go_enter Tryz.func106, Tryz.ntmps106
    go_wp2_with fail
    refine (HF.out _).mono ?_
    rintro e w' ⟨rfl, rfl⟩
    go_wp2
    go_ret
    exact ⟨rfl, rfl⟩
  | true =>
    rw [h0] at HF
    clear h0
    cases h1 : isTimeB t with
    | false =>
      rw [h1] at HT
      rw [show (true && (false && decide (f < t))) = false from rfl]
      clear h1
      go_enter Tryz.func106, Tryz.ntmps106
      go_wp2_with fail
      refine (HF.out _).mono ?_
      rintro e w' ⟨rfl, rfl⟩
      go_wp2_with fail
      refine (HT.out _).mono ?_
      rintro e w' ⟨rfl, rfl⟩
      go_wp2
      go_ret
      exact ⟨rfl, rfl⟩
    | true =>
      rw [h1] at HT
      rw [show (true && (true && decide (f < t))) = decide (f < t) from rfl]
      clear h1
      go_enter Tryz.func106, Tryz.ntmps106
      go_wp2_with fail
      refine (HF.out _).mono ?_
      rintro e w' ⟨rfl, rfl⟩
      go_wp2_with fail
      refine (HT.out _).mono ?_
      rintro e w' ⟨rfl, rfl⟩
      go_wp2
      go_ret
      exact ⟨rfl, rfl⟩

def edge (t f e : Int) : Int := if t < f then f else e
/-- What a row is in memory. -/
def rowV (r : Row) : Value := .agg #[.int .i64 r.1, .int .i64 r.2.1, .int .i64 r.2.2.1, .int .i64 r.2.2.2.1, .string r.2.2.2.2]

def contB (a b : Row) : Bool := decide (a.2.1 = b.1) && decide (a.2.2 = b.2.2)

set_option maxHeartbeats 400000 in
theorem continues39 (a b : Row) (w : World) : Calls Tryz.prog 108 #[rowV a, rowV b] w fun e w' => e = .returned (.bool (contB a b)) ∧ Below w.heap.size w w' := by
  obtain ⟨af, ae, ak, an, sa⟩ := a
  obtain ⟨bf, be, bk, bn, sb⟩ := b
  unfold rowV
  simp only
  have hend : Below w.heap.size w ((w.alloc (.cells #[.int .i64 af, .int .i64 ae, .int .i64 ak, .int .i64 an, .string sa] 93)).alloc (.cells #[.int .i64 bf, .int .i64 be, .int .i64 bk, .int .i64 bn, .string sb] 93)) :=
    ((Below.refl _ w).alloc (Nat.le_refl _) _).alloc (by simp) _
  cases h0 : (ae == bf) with
  | false =>
    have hA : Hid (contB (af, ae, ak, an, sa) (bf, be, bk, bn, sb) = false) := by unfold Hid; simp at h0; simp [contB, h0]
    rw [hA.out]
    go_enter Tryz.func108, Tryz.ntmps108
    go_wp2
    go_ret
    exact ⟨rfl, hend⟩
  | true =>
    have hA : Hid (contB (af, ae, ak, an, sa) (bf, be, bk, bn, sb) = decide (ak = bk ∧ an = bn ∧ sa = sb)) := by unfold Hid; simp at h0; simp [contB, h0]
    rw [hA.out]
    obtain ⟨t, ht⟩ : ∃ t, decide (ak = bk ∧ an = bn ∧ sa = sb) = t := ⟨_, rfl⟩
    rw [ht]
    have heq := fun W => eql24 ak an sa bk bn sb t ht W
    clear ht hA
    go_enter Tryz.func108, Tryz.ntmps108
    go_wp2
    go_ret
    exact ⟨rfl, hend⟩

/-! ### Rows in memory -/

structure RowAt (w : World) (b o : Nat) (r : Row) : Prop where
  c0 : w.cell? ⟨b, o, none⟩ = some (.int .i64 r.1)
  c1 : w.cell? ⟨b, o + 1, none⟩ = some (.int .i64 r.2.1)
  c2 : w.cell? ⟨b, o + 2, none⟩ = some (.int .i64 r.2.2.1)
  c3 : w.cell? ⟨b, o + 3, none⟩ = some (.int .i64 r.2.2.2.1)
  c4 : w.cell? ⟨b, o + 4, none⟩ = some (.string r.2.2.2.2)

theorem RowAt.keep {w w' : World} {b o : Nat} {r : Row} (h : RowAt w b o r) (hk : ∀ o, w'.cell? ⟨b, o, none⟩ = w.cell? ⟨b, o, none⟩) : RowAt w' b o r :=
  ⟨(hk _).trans h.c0, (hk _).trans h.c1, (hk _).trans h.c2, (hk _).trans h.c3, (hk _).trans h.c4⟩
theorem RowAt.below {w w' : World} {b o B : Nat} {r : Row} (h : RowAt w b o r) (hb : Below B w w') (hl : b < B) : RowAt w' b o r :=
  h.keep fun o => hb.cell (p := ⟨b, o, none⟩) hl

/-- The slice v reads as the rows l, below block B. -/
def RowsAt (w : World) (B : Nat) (v : Value) (l : List Row) : Prop :=
  ∃ A cap, v = .slice A l.length cap ∧ l.length ≤ cap ∧ cap ≤ maxLen ∧ (0 < l.length → ∃ b o, A = some ⟨b, o, none⟩ ∧ b < B ∧ ∀ i (h : i < l.length), RowAt w b (o + i * 5) l[i])

theorem RowsAt.keep {w w' : World} {B : Nat} {v : Value} {l : List Row} (h : RowsAt w B v l) (hk : ∀ b o, b < B → w'.cell? ⟨b, o, none⟩ = w.cell? ⟨b, o, none⟩) : RowsAt w' B v l := by
  obtain ⟨A, cap, rfl, h1, h2, h3⟩ := h
  refine ⟨A, cap, rfl, h1, h2, fun hl => ?_⟩
  obtain ⟨b, o, rfl, hb, hr⟩ := h3 hl
  exact ⟨b, o, rfl, hb, fun i hi => (hr i hi).keep fun o => hk b o hb⟩
theorem RowsAt.below {w w' : World} {B : Nat} {v : Value} {l : List Row} (h : RowsAt w B v l) (hb : Below B w w') : RowsAt w' B v l :=
  h.keep fun b o hl => hb.cell (p := ⟨b, o, none⟩) hl
theorem RowsAt.more {w : World} {B B' : Nat} {v : Value} {l : List Row} (h : RowsAt w B v l) (hB : B ≤ B') : RowsAt w B' v l := by
  obtain ⟨A, cap, rfl, h1, h2, h3⟩ := h
  refine ⟨A, cap, rfl, h1, h2, fun hl => ?_⟩
  obtain ⟨b, o, rfl, hb, hr⟩ := h3 hl
  exact ⟨b, o, rfl, by omega, hr⟩
theorem RowsAt.step {w w' : World} {v : Value} {l : List Row} (h : RowsAt w w.heap.size v l) (hb : Below w.heap.size w w') : RowsAt w' w'.heap.size v l :=
  (h.below hb).more hb.size

def lkD (l : List Row) (t : Int) : Vl := (lk l t).getD vz
def valV (v : Vl) : Value := .agg #[.int .i64 v.1, .int .i64 v.2.1, .string v.2.2]

theorem drop_get {α : Type} (l : List α) (k : Nat) (h : k < l.length) : l.drop k = l[k] :: l.drop (k + 1) := List.drop_eq_getElem_cons h

/-! ### Pieces in memory -/
def pcV (p : Pc) : Value := .agg #[.int .i64 p.1, .int .i64 p.2.1, .int .i64 p.2.2.1.1, .int .i64 p.2.2.1.2.1, .string p.2.2.1.2.2, .int .i64 p.2.2.2.1, .int .i64 p.2.2.2.2.1, .string p.2.2.2.2.2]
structure PcAt (w : World) (b o : Nat) (p : Pc) : Prop where
  c0 : w.cell? ⟨b, o, none⟩ = some (.int .i64 p.1)
  c1 : w.cell? ⟨b, o + 1, none⟩ = some (.int .i64 p.2.1)
  c2 : w.cell? ⟨b, o + 2, none⟩ = some (.int .i64 p.2.2.1.1)
  c3 : w.cell? ⟨b, o + 3, none⟩ = some (.int .i64 p.2.2.1.2.1)
  c4 : w.cell? ⟨b, o + 4, none⟩ = some (.string p.2.2.1.2.2)
  c5 : w.cell? ⟨b, o + 5, none⟩ = some (.int .i64 p.2.2.2.1)
  c6 : w.cell? ⟨b, o + 6, none⟩ = some (.int .i64 p.2.2.2.2.1)
  c7 : w.cell? ⟨b, o + 7, none⟩ = some (.string p.2.2.2.2.2)

/-- The slice v reads as the pieces l, below block B. -/
def PcsAt (w : World) (B : Nat) (v : Value) (l : List Pc) : Prop :=
  ∃ A cap, v = .slice A l.length cap ∧ l.length ≤ cap ∧ cap ≤ maxLen ∧ (0 < l.length → ∃ b o, A = some ⟨b, o, none⟩ ∧ b < B ∧ ∀ i (h : i < l.length), PcAt w b (o + i * 8) l[i])

end Go.Proofs.YtjanddnlhaionaaGreatDoor.L2
namespace Go.Proofs.YtjanddnlhaionaaGreatDoor.L2
open Go.RowKit

def fewB (l : List Row) : Bool := decide (l.length ≤ 80) && l.all fun r => decide (r.2.2.2.2.size ≤ 200)

theorem neqRow (a b : Row) (t : Bool) (h : decide (a ≠ b) = t) (w : World) : (binOp .neq 93 (rowV a) (rowV b)).run Tryz.prog w = .ok (.bool t) w := by
  subst h
  obtain ⟨af, ae, ak, an, sa⟩ := a
  obtain ⟨bf, be, bk, bn, sb⟩ := b
  unfold rowV
  by_cases h1 : af = bf
  · by_cases h2 : ae = be
    · by_cases h3 : ak = bk
      · by_cases h4 : an = bn
        · by_cases h5 : sa.toList = sb.toList
          · have := bytes_ext h5
            simp [go_sem, h1, h2, h3, h4, this]
          · have h6 : ¬ sa = sb := fun e => h5 (by rw [e])
            simp [go_sem, h1, h2, h3, h4, h5, h6]
        · simp [go_sem, h1, h2, h3, h4]
      · simp [go_sem, h1, h2, h3]
    · simp [go_sem, h1, h2]
  · simp [go_sem, h1]

theorem below_drewN {B : Nat} {a w : World} (h : Below B a w) (n : Nat) : Below B a (w.drewN n) := ⟨h.os, h.tape, h.output, h.size, h.block⟩

theorem decide_cons {α : Type} [DecidableEq α] (x y : α) (l l' : List α) : decide (x :: l = y :: l') = (decide (x = y) && decide (l = l')) := by
  rw [Bool.eq_iff_iff]; simp

set_option maxHeartbeats 800000 in
theorem same17 (l l' : List Row) (v v' : Value) (w : World) (h : RowsAt w w.heap.size v l) (h' : RowsAt w w.heap.size v' l') :
    Calls Tryz.prog 25 #[v, v'] w fun e w' => e = .returned (.bool (decide (l = l'))) ∧ Below w.heap.size w w' := by
  obtain ⟨A, cap, rfl, h1, h2, h3⟩ := h
  obtain ⟨A', cap', rfl, h1', h2', h3'⟩ := h'
  unfold maxLen at h2 h2'
  cases hlen : ((l.length : Int) == (l'.length : Int)) with
  | false =>
    have hA : Hid (decide (l = l') = false) := by
      unfold Hid
      rw [decide_eq_false_iff_not]
      rintro rfl
      simp at hlen
    rw [hA.out]
    have hne : ((l.length : Int) != (l'.length : Int)) = true := by rw [bne, hlen]; rfl
    go_enter Tryz.func25, Tryz.ntmps25
    go_wp2
    go_ret
    exact ⟨rfl, Below.refl _ _⟩
  | true =>
    have hle : l.length = l'.length := Int.ofNat.inj (by simpa using hlen)
    have hne : ((l.length : Int) != (l'.length : Int)) = false := by rw [bne, hlen]; rfl
    obtain ⟨q, hq⟩ : ∃ q, decide (l = l') = q := ⟨_, rfl⟩
    rw [hq]
    have HQ := Lib.hid hq
    have HL := Lib.hid hle
    clear hq hle hlen
    go_enter Tryz.func25, Tryz.ntmps25
    go_wp2
    go_loopw [5] (fun i wr => ∃ k d : Nat, k ≤ l.length ∧ i = .int .i64 k ∧ wr = w.drewN d ∧ Hid (decide (l.drop k = l'.drop k) = q)) (fun i _ => l.length - (intOf i).toNat)
    case atStart => exact ⟨0, 0, Nat.zero_le _, rfl, rfl, HQ⟩
    case round =>
      obtain ⟨k, d, hk, rfl, rfl, HK⟩ := hrel
      by_cases hlt : k < l.length
      · have hlt' : k < l'.length := by have := HL.out; omega
        obtain ⟨b, o, rfl, hb, hr⟩ := h3 (by omega)
        obtain ⟨b', o', rfl, hb', hr'⟩ := h3' (by omega)
        have hd := drop_get l k hlt
        have hd' := drop_get l' k hlt'
        have hr := hr k hlt
        have hr' := hr' k hlt'
        generalize l[k] = r at hd hr
        generalize l'[k] = r' at hd' hr'
        have hdc := decide_cons r r' (l.drop (k + 1)) (l'.drop (k + 1))
        rw [← hd, ← hd', HK.out] at hdc
        obtain ⟨q0, hq0⟩ : ∃ q0, decide (r ≠ r') = q0 := ⟨_, rfl⟩
        have hneq := neqRow r r' q0 hq0
        obtain ⟨f, e, kk, n, s⟩ := r
        obtain ⟨f', e', kk', n', s'⟩ := r'
        obtain ⟨c0, c1, c2, c3, c4⟩ := hr
        obtain ⟨c0', c1', c2', c3', c4'⟩ := hr'
        unfold rowV at hneq
        simp only at c0 c1 c2 c3 c4 c0' c1' c2' c3' c4' hneq
        clear hd hd' h3 h3'
        cases q0 with
        | true =>
          have hq : q = false := by
            rw [hdc]
            rw [decide_eq_false (of_decide_eq_true hq0)]; rfl
          subst hq
          clear HQ HK hdc hq0
          go_wp2_with fail
          go_quiet (fail)
          go_wp2
          go_ret
          exact ⟨rfl, below_drewN (below_drewN (Below.refl _ _) _) _⟩
        | false =>
          have HN : Hid (decide (l.drop (k + 1) = l'.drop (k + 1)) = q) := by
            unfold Hid
            rw [hdc]
            rw [decide_eq_true (Decidable.not_not.1 (of_decide_eq_false hq0))]; rfl
          clear HQ HK hdc hq0
          go_wp2_with fail
          go_quiet (fail)
          go_wp2
          go_roundw
          case rel => exact ⟨k + 1, _, by omega, by go_num, rfl, HN⟩
          case measure => simp [intOf]; omega
      · have hq : q = true := by
          rw [← HK.out, List.drop_of_length_le (by omega), List.drop_of_length_le (by have := HL.out; omega)]; rfl
        subst hq
        clear HQ HK
        go_wp2
        go_ret
        exact ⟨rfl, below_drewN (Below.refl _ _) _⟩

end Go.Proofs.YtjanddnlhaionaaGreatDoor.L2
namespace Go.Proofs.YtjanddnlhaionaaGreatDoor.L2
open Go.RowKit

def valOK (v : Vl) : Bool := validV v.1 v.2.1 v.2.2
def rowOK (r : Row) : Bool := isSpanB r.1 r.2.1 && valOK r.2.2
def nextOK (p r : Row) : Bool := !decide (r.1 < p.2.1) && !contB p r
def okFrom : Option Row → List Row → Bool
  | _, [] => true
  | none, r :: l => rowOK r && okFrom (some r) l
  | some p, r :: l => rowOK r && (nextOK p r && okFrom (some r) l)
def rowsOK (l : List Row) : Bool := decide (l.length ≤ 64) && okFrom none l

def prevAt (l : List Row) (k : Nat) : Option Row := if k = 0 then none else l[k - 1]?

theorem check28 (v : Vl) (w : World) : Calls Tryz.prog 107 #[valV v] w fun e w' => e = .returned (.int .i64 (if valOK v then 0 else 2)) ∧ Below w.heap.size w w' :=
  check14 v.1 v.2.1 v.2.2 w
/-- A row in a block of its own, and what lay. -/
structure Loc (w : World) (r : Row) (w' : World) : Prop where
  r : RowAt w' w.heap.size 0 r
  lt : w.heap.size < w'.heap.size
  below : Below w.heap.size w w'
theorem Loc.start (w : World) (f e k n : Int) (s : ByteArray) : Loc w (f, e, k, n, s) (w.alloc (.cells #[.int .i64 f, .int .i64 e, .int .i64 k, .int .i64 n, .string s] 93)) :=
  ⟨⟨by simp [go_sem], by simp [go_sem], by simp [go_sem], by simp [go_sem], by simp [go_sem]⟩, by simp, (Below.refl _ _).alloc (Nat.le_refl _) _⟩
theorem Loc.step {w : World} {r : Row} {w1 w2 : World} (h : Loc w r w1) (hb : Below w1.heap.size w1 w2) : Loc w r w2 :=
  ⟨h.r.below hb h.lt, Nat.lt_of_lt_of_le h.lt hb.size, h.below.trans (hb.mono (Nat.le_of_lt h.lt))⟩

/-- Two rows, one behind the other in the list, one in a block of its own. -/
structure Duo (w : World) (b o : Nat) (p : Row) (c : Nat) (r : Row) (w' : World) : Prop where
  p : RowAt w' b o p
  r : RowAt w' c 0 r
  hb : b < w'.heap.size
  hc : c < w'.heap.size
  below : Below w.heap.size w w'
theorem Duo.drew {w : World} {b o : Nat} {p : Row} {c : Nat} {r : Row} {w' : World} (h : Duo w b o p c r w') : Duo w b o p c r w'.drew := ⟨h.p.keep fun _ => rfl, h.r.keep fun _ => rfl, h.hb, h.hc, h.below.drew⟩
theorem Duo.step {w : World} {b o : Nat} {p : Row} {c : Nat} {r : Row} {w1 w2 : World} (h : Duo w b o p c r w1) (hb : Below w1.heap.size w1 w2) : Duo w b o p c r w2 :=
  ⟨h.p.below hb h.hb, h.r.below hb h.hc, Nat.lt_of_lt_of_le h.hb hb.size, Nat.lt_of_lt_of_le h.hc hb.size, h.below.trans (hb.mono h.below.size)⟩
theorem SD {w : World} {b o : Nat} {pf pe pk pn : Int} {ps : ByteArray} {c : Nat} {f e k n : Int} {s : ByteArray} {w' : World} (h : Duo w b o (pf, pe, pk, pn, ps) c (f, e, k, n, s) w') :
    w'.cell? ⟨b, o, none⟩ = some (.int .i64 pf) ∧ w'.cell? ⟨b, o + 1, none⟩ = some (.int .i64 pe) ∧ w'.cell? ⟨b, o + 2, none⟩ = some (.int .i64 pk) ∧ w'.cell? ⟨b, o + 3, none⟩ = some (.int .i64 pn) ∧ w'.cell? ⟨b, o + 4, none⟩ = some (.string ps) ∧
      w'.cell? ⟨c, 0, none⟩ = some (.int .i64 f) ∧ w'.cell? ⟨c, 1, none⟩ = some (.int .i64 e) ∧ w'.cell? ⟨c, 2, none⟩ = some (.int .i64 k) ∧ w'.cell? ⟨c, 3, none⟩ = some (.int .i64 n) ∧ w'.cell? ⟨c, 4, none⟩ = some (.string s) ∧ Duo w b o (pf, pe, pk, pn, ps) c (f, e, k, n, s) w' :=
  ⟨h.p.c0, h.p.c1, h.p.c2, h.p.c3, h.p.c4, by simpa using h.r.c0, by simpa using h.r.c1, by simpa using h.r.c2, by simpa using h.r.c3, by simpa using h.r.c4, h⟩

set_option maxHeartbeats 800000 in
theorem check18 (l : List Row) (v : Value) (w : World) (h : RowsAt w w.heap.size v l) :
    Calls Tryz.prog 52 #[v] w fun e w' => e = .returned (.int .i64 (if rowsOK l then 0 else 2)) ∧ Below w.heap.size w w' := by
  obtain ⟨A, cap, rfl, h1, h2, h3⟩ := h
  unfold maxLen at h2
  by_cases h64 : (64 : Int) < l.length
  · have hA : Hid ((if rowsOK l then (0 : Int) else 2) = 2) := by unfold Hid rowsOK; rw [decide_eq_false (by omega)]; rfl
    rw [hA.out]
    go_enter Tryz.func52, Tryz.ntmps52
    go_wp2
    go_ret
    exact ⟨rfl, Below.refl _ _⟩
  · obtain ⟨q, hq⟩ : ∃ q, rowsOK l = q := ⟨_, rfl⟩
    rw [hq]
    have HQ : Hid (okFrom none l = q) := by unfold Hid; rw [← hq]; unfold rowsOK; rw [decide_eq_true (by omega)]; rfl
    clear hq
    obtain ⟨ans, hans⟩ : ∃ ans : Int, (if q then (0 : Int) else 2) = ans := ⟨_, rfl⟩
    rw [hans]
    have HANS := Lib.hid hans
    clear hans
    go_enter Tryz.func52, Tryz.ntmps52
    go_wp2
    go_loopw [10] (fun i wr => ∃ k : Nat, k ≤ l.length ∧ i = .int .i64 k ∧ Below w.heap.size w wr ∧ Hid (okFrom (prevAt l k) (l.drop k) = q)) (fun i _ => l.length - (intOf i).toNat)
    case atStart => exact ⟨0, Nat.zero_le _, rfl, Below.refl _ _, HQ⟩
    case round =>
      obtain ⟨k, hk, rfl, hbw, HK⟩ := hrel
      by_cases hlt : k < l.length
      · obtain ⟨b, o, rfl, hb, hr⟩ := h3 (by omega)
        have hd := drop_get l k hlt
        have hrk := (hr k hlt).below hbw hb
        generalize l[k] = r at hd hrk
        have HR := Lib.hid hr
        obtain ⟨f, e, kk, n, s⟩ := r
        obtain ⟨c0, c1, c2, c3, c4⟩ := hrk
        simp only at c0 c1 c2 c3 c4
        have HD := Lib.hid hd
        have hbl : b < wr.heap.size := Nat.lt_of_lt_of_le hb hbw.size
        clear hd h3 hr
        have HS := Lib.hid (isSpan38 f e)
        have HV := Lib.hid (check28 (kk, n, s))
        have HOK : Hid (rowOK (f, e, kk, n, s) = (isSpanB f e && valOK (kk, n, s))) := rfl
        have HL := Lib.hid (Loc.start wr f e kk n s)
        unfold valV at HV
        simp only at HV
        generalize isSpanB f e = q1 at HS HOK
        generalize valOK (kk, n, s) = q2 at HV HOK
        go_wp2_with fail
        refine (HS.out _).mono ?_
        rintro e' w' ⟨rfl, rfl⟩
        cases q1 with
        | false =>
          have hq : q = false := by
            rw [← HK.out, HD.out]
            cases prevAt l k <;> simp [okFrom, HOK.out]
          subst hq
          have hans : ans = 2 := HANS.out.symm
          subst hans
          clear HQ HK HANS HS HV HOK HD HR
          have HB : Hid (Below w.heap.size w _) := hbw.trans (HL.out.below.mono hbw.size)
          go_wp2
          go_ret
          exact ⟨rfl, HB.out⟩
        | true =>
          go_wp2_with fail
          refine (HV.out _).mono ?_
          rintro e' w' ⟨rfl, hb1⟩
          replace HL : Hid (Loc wr (f, e, kk, n, s) w') := HL.out.step hb1
          clear hb1
          cases q2 with
          | false =>
            have hq : q = false := by
              rw [← HK.out, HD.out]
              cases prevAt l k <;> simp [okFrom, HOK.out]
            subst hq
            have hans : ans = 2 := HANS.out.symm
            subst hans
            clear HQ HK HANS HS HV HOK HD HR
            have HB : Hid (Below w.heap.size w w') := hbw.trans (HL.out.below.mono hbw.size)
            go_wp2
            go_ret
            exact ⟨rfl, HB.out⟩
          | true =>
            clear HS HV
            have hrow : rowOK (f, e, kk, n, s) = true := HOK.out
            have HROW := Lib.hid hrow
            clear HOK hrow
            by_cases hk0 : k = 0
            · subst hk0
              have HN : Hid (okFrom (prevAt l 1) (l.drop 1) = q) := by
                unfold Hid
                have hp : prevAt l 1 = some (f, e, kk, n, s) := by
                  have := HD.out
                  rw [List.drop_zero] at this
                  unfold prevAt
                  rw [this]; rfl
                rw [← HK.out, HD.out, hp]
                show _ = okFrom none _
                rw [okFrom, HROW.out]; rfl
              clear HQ HK HD HROW HR
              have HB : Hid (Below w.heap.size w w') := hbw.trans (HL.out.below.mono hbw.size)
              clear hbw
              go_wp2_with fail
              go_quiet (fail)
              go_wp2
              exact ⟨⟨1, by omega, rfl, below_drewN HB.out _, HN⟩, by simp [intOf]; omega⟩
            · obtain ⟨j, rfl⟩ : ∃ j, k = j + 1 := ⟨k - 1, by omega⟩
              have hp := (HR.out j (by omega)).below (hbw.trans (HL.out.below.mono hbw.size)) hb
              have hpv : prevAt l (j + 1) = some l[j] := by
                unfold prevAt
                rw [if_neg (by omega)]
                exact List.getElem?_eq_getElem (by omega)
              generalize l[j] = p at hp hpv
              obtain ⟨pf, pe, pk, pn, ps⟩ := p
              have HN : Hid ((nextOK (pf, pe, pk, pn, ps) (f, e, kk, n, s) && okFrom (prevAt l (j + 1 + 1)) (l.drop (j + 1 + 1))) = q) := by
                unfold Hid
                have hp : prevAt l (j + 1 + 1) = some (f, e, kk, n, s) := by
                  have := HD.out
                  unfold prevAt
                  rw [if_neg (by omega)]
                  have e0 : l[j + 1 + 1 - 1]? = (l.drop (j + 1))[0]? := by rw [List.getElem?_drop]; rfl
                  rw [e0, this]; rfl
                rw [← HK.out, HD.out, hpv, hp, okFrom, HROW.out]; rfl
              clear HQ HK HD HROW HR hpv
              have HB : Hid (Below w.heap.size w w') := hbw.trans (HL.out.below.mono hbw.size)
              have hlo := HL.out.r
              have hbw' : b < w'.heap.size := Nat.lt_of_lt_of_le hbl HL.out.below.size
              have hwl : wr.heap.size < w'.heap.size := HL.out.lt
              have hD : Duo w b (o + j * 5) (pf, pe, pk, pn, ps) wr.heap.size (f, e, kk, n, s) w' := ⟨hp, hlo, hbw', hwl, HB.out⟩
              have HDU := Lib.hid hD
              clear hD
              obtain ⟨p0, p1, p2, p3, p4⟩ := hp
              obtain ⟨l0, l1, l2, l3, l4⟩ := hlo
              simp only [Nat.zero_add] at p0 p1 p2 p3 p4 l0 l1 l2 l3 l4
              clear hbw c0 c1 c2 c3 c4 HL
              cases hlt' : decide (f < pe) with
              | true =>
                have hq : q = false := by
                  rw [← HN.out, nextOK]
                  simp only
                  rw [hlt']; rfl
                subst hq
                have hans : ans = 2 := HANS.out.symm
                subst hans
                clear HN HANS
                go_wp2_with fail
                go_quiet (fail)
                go_wp2
                go_ret
                exact ⟨rfl, below_drewN HB.out _⟩
              | false =>
                have HC := Lib.hid (continues39 (pf, pe, pk, pn, ps) (f, e, kk, n, s))
                have HN2 : Hid ((!contB (pf, pe, pk, pn, ps) (f, e, kk, n, s) && okFrom (prevAt l (j + 1 + 1)) (l.drop (j + 1 + 1))) = q) := by
                  unfold Hid
                  rw [← HN.out, nextOK]
                  simp only
                  rw [hlt']; rfl
                clear HN
                unfold rowV at HC
                simp only at HC
                generalize contB (pf, pe, pk, pn, ps) (f, e, kk, n, s) = q3 at HC HN2
                cases q3 with
                | true =>
                  have hq : q = false := HN2.out.symm
                  subst hq
                  have hans : ans = 2 := HANS.out.symm
                  subst hans
                  clear HN2 HANS
                  go_wp2_with fail
                  have hD := HDU.out
                  have hi0 : (0 : Int) ≤ (j : Int) := by omega
                  have hi1 : (j : Int) < (l.length : Int) := by omega
                  have hi2 : (j : Int) + 1 - 1 = (j : Int) := by omega
                  have hi3 : IntKind.i64.wrap (j : Int) = (j : Int) := IntWalk.i64_in _ (by omega)
                  clear HDU
                  go_region_held3 (fun w'' => w''.cell? ⟨b, o + j * 5, none⟩ = some (.int .i64 pf) ∧ w''.cell? ⟨b, o + j * 5 + 1, none⟩ = some (.int .i64 pe) ∧ w''.cell? ⟨b, o + j * 5 + 2, none⟩ = some (.int .i64 pk) ∧ w''.cell? ⟨b, o + j * 5 + 3, none⟩ = some (.int .i64 pn) ∧ w''.cell? ⟨b, o + j * 5 + 4, none⟩ = some (.string ps) ∧
                    w''.cell? ⟨wr.heap.size, 0, none⟩ = some (.int .i64 f) ∧ w''.cell? ⟨wr.heap.size, 1, none⟩ = some (.int .i64 e) ∧ w''.cell? ⟨wr.heap.size, 2, none⟩ = some (.int .i64 kk) ∧ w''.cell? ⟨wr.heap.size, 3, none⟩ = some (.int .i64 n) ∧ w''.cell? ⟨wr.heap.size, 4, none⟩ = some (.string s) ∧ Duo w b (o + j * 5) (pf, pe, pk, pn, ps) wr.heap.size (f, e, kk, n, s) w'')
                    ((apply SD; repeat (first | exact hD.drew | refine Duo.step ?_ (by assumption))))
                    (first | (go_at_call 108; refine (HC.out _).mono ?_; rintro e' w3 ⟨rfl, hbb⟩))
                  rename_i hHeld
                  obtain ⟨-, -, -, -, -, -, -, -, -, -, hD'⟩ := hHeld
                  have HB' := Lib.hid hD'.below
                  clear hD hD' p0 p1 p2 p3 p4 l0 l1 l2 l3 l4 HC HB
                  go_wp2
                  go_ret
                  exact ⟨rfl, HB'.out⟩
                | false =>
                  replace HN2 : Hid (okFrom (prevAt l (j + 1 + 1)) (l.drop (j + 1 + 1)) = q) := HN2.out
                  go_wp2_with fail
                  have hD := HDU.out
                  have hi0 : (0 : Int) ≤ (j : Int) := by omega
                  have hi1 : (j : Int) < (l.length : Int) := by omega
                  have hi2 : (j : Int) + 1 - 1 = (j : Int) := by omega
                  have hi3 : IntKind.i64.wrap (j : Int) = (j : Int) := IntWalk.i64_in _ (by omega)
                  clear HDU
                  go_region_held3 (fun w'' => w''.cell? ⟨b, o + j * 5, none⟩ = some (.int .i64 pf) ∧ w''.cell? ⟨b, o + j * 5 + 1, none⟩ = some (.int .i64 pe) ∧ w''.cell? ⟨b, o + j * 5 + 2, none⟩ = some (.int .i64 pk) ∧ w''.cell? ⟨b, o + j * 5 + 3, none⟩ = some (.int .i64 pn) ∧ w''.cell? ⟨b, o + j * 5 + 4, none⟩ = some (.string ps) ∧
                    w''.cell? ⟨wr.heap.size, 0, none⟩ = some (.int .i64 f) ∧ w''.cell? ⟨wr.heap.size, 1, none⟩ = some (.int .i64 e) ∧ w''.cell? ⟨wr.heap.size, 2, none⟩ = some (.int .i64 kk) ∧ w''.cell? ⟨wr.heap.size, 3, none⟩ = some (.int .i64 n) ∧ w''.cell? ⟨wr.heap.size, 4, none⟩ = some (.string s) ∧ Duo w b (o + j * 5) (pf, pe, pk, pn, ps) wr.heap.size (f, e, kk, n, s) w'')
                    ((apply SD; repeat (first | exact hD.drew | refine Duo.step ?_ (by assumption))))
                    (first | (go_at_call 108; refine (HC.out _).mono ?_; rintro e' w3 ⟨rfl, hbb⟩))
                  rename_i hHeld
                  obtain ⟨-, -, -, -, -, -, -, -, -, -, hD'⟩ := hHeld
                  have HB' := Lib.hid hD'.below
                  clear hD hD' p0 p1 p2 p3 p4 l0 l1 l2 l3 l4 HC HB
                  go_wp2
                  go_roundw
                  case rel => exact ⟨j + 1 + 1, by omega, by go_num, HB'.out, HN2⟩
                  case measure => simp [intOf]; omega
      · have hq : q = true := by
          rw [← HK.out, List.drop_of_length_le (by omega)]
          cases prevAt l k <;> rfl
        subst hq
        have hans : ans = 0 := HANS.out.symm
        subst hans
        clear HQ HK HANS
        go_wp2
        go_ret
        exact ⟨rfl, hbw⟩

structure One (w : World) (b o : Nat) (r : Row) (w' : World) : Prop where
  r : RowAt w' b o r
  hb : b < w'.heap.size
  below : Below w.heap.size w w'
end Go.Proofs.YtjanddnlhaionaaGreatDoor.L2
namespace Go.Proofs.YtjanddnlhaionaaGreatDoor.L2
open Go.ChangeShapes Go.WideShapes Go.ChangeAt Go.RowKit Go.Joins
open Go.ChangeMaps (open_string shut_string)

end Go.Proofs.YtjanddnlhaionaaGreatDoor.L2
namespace Go.Proofs.YtjanddnlhaionaaGreatDoor.L2
open Go.RowKit

def rowC (r : Row) : List Value := [.int .i64 r.1, .int .i64 r.2.1, .int .i64 r.2.2.1, .int .i64 r.2.2.2.1, .string r.2.2.2.2]
def rcells (l : List Row) : List Value := l.flatMap rowC
theorem rcells_cons (r : Row) (l : List Row) : rcells (r :: l) = rowC r ++ rcells l := rfl
theorem rcells_append (a b : List Row) : rcells (a ++ b) = rcells a ++ rcells b := by simp [rcells]
theorem rcells_length : ∀ l : List Row, (rcells l).length = l.length * 5
  | [] => rfl
  | r :: l => by rw [rcells_cons, List.length_append, rcells_length l, List.length_cons]; show 5 + _ = _; omega
theorem rcells_get : ∀ (l : List Row) (i j : Nat) (h : i < l.length), j < 5 → (rcells l)[i * 5 + j]? = (rowC l[i])[j]?
  | r :: l, 0, j, _, hj => by
    rw [rcells_cons, List.getElem?_append_left (by show _ < 5; omega), Nat.zero_mul, Nat.zero_add]; rfl
  | r :: l, i + 1, j, h, hj => by
    rw [rcells_cons, List.getElem?_append_right (by show 5 ≤ _; omega)]
    have := rcells_get l i j (by simpa using h) hj
    rw [show (i + 1) * 5 + j - (rowC r).length = i * 5 + j by show (i + 1) * 5 + j - 5 = _; omega, this]; rfl
/-- The slice v is the call's own, and reads as l. -/
def OwnR (w : World) (n₀ : Nat) (v : Value) (l : List Row) : Prop := w.ownsRow n₀ 52 5 v l.length (rcells l)

theorem grown_of_below {a w : World} (h : Below a.heap.size a w) (row : Option Nat) : a.grownBy w row := ⟨h.os, h.tape, h.output, h.size, fun i hi _ => h.block i hi⟩
/-- What addRow leaves. -/
structure Added (n₀ : Nat) (w : World) (v : Value) (l : List Row) (v' : Value) (w' : World) : Prop where
  own : OwnR w' n₀ v' l
  grown : w.grownBy w' v.ownBlock
  row : v'.ownBlock = v.ownBlock ∨ ∃ k, v'.ownBlock = some k ∧ w.heap.size ≤ k

end Go.Proofs.YtjanddnlhaionaaGreatDoor.L2
