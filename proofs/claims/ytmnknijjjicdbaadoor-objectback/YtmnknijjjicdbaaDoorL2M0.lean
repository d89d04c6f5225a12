/-
  Plain lists: segments of time with values, their canonical form, and that it is one. No condition.
-/
import Derived.Test.YtmnknijjjicdbaaDoorRows
import Derived.WalkKit
import Derived.WalkSpells
import Derived.WalkLawsBesides
import Derived.Lib.Hide
import Derived.Deep.QuietTactic
import Derived.BigQuiet
import Derived.Lib.OthersKept
import Derived.Lib.AppendStr
import Derived.Recover
import Derived.Deep.DeepMust
import Derived.Laws.BytesString
import Derived.Laws.BytesArg
import Derived.WalkSmall
import Derived.Deep.AppendLies
import Derived.Deep.RegionLaw
import Derived.BigRegion
import Derived.Deep.RegionHeld3
namespace Go.Proofs.YtmnknijjjicdbaaDoor.L2
open Go.RowKit

def decL (l : List UInt8) : Nat × Nat := Utf8.decode ⟨l.toArray⟩ 0
def badL (l : List UInt8) : Bool := (decL l).1 == 65533 && !(l.take 3 == [239, 191, 189])

/-- The walk over a text, code point by code point: the offset of what does not fit, or the state behind the last. -/
def runL {σ : Type} (step : σ → Int → Option σ) : Nat → Nat → List UInt8 → σ → Nat ⊕ σ
  | 0, _, _, r => .inr r
  | f + 1, pos, l, r =>
    if l = [] then .inr r
    else if badL l then .inl pos
    else match step r (decL l).1 with
      | none => .inl pos
      | some r' => runL step f (pos + (decL l).2) (l.drop (decL l).2) r'

theorem get!_list (l : List UInt8) (k : Nat) : (⟨l.toArray⟩ : ByteArray).get! k = l.getD k default := by
  show (l.toArray)[k]! = _
  rw [List.getElem!_toArray]
  simp [List.getD, List.getElem!_eq_getElem?_getD]

theorem get!_any (s : ByteArray) (k : Nat) : s.get! k = s.data.toList.getD k default := get!_list s.data.toList k

theorem get!_drop (s : ByteArray) (pos k : Nat) : (⟨(s.data.toList.drop pos).toArray⟩ : ByteArray).get! (0 + k) = s.get! (pos + k) := by
  rw [get!_list, get!_any]
  simp only [List.getD, List.getElem?_drop, Nat.zero_add]

theorem size_list (l : List UInt8) : (⟨l.toArray⟩ : ByteArray).size = l.length := rfl
theorem size_drop (s : ByteArray) (pos : Nat) : (⟨(s.data.toList.drop pos).toArray⟩ : ByteArray).size = s.size - pos := by
  rw [size_list, List.length_drop]; rfl

theorem decode_drop (s : ByteArray) (pos : Nat) : Utf8.decode s pos = decL (s.data.toList.drop pos) := by
  unfold decL Utf8.decode
  simp only [get!_drop, size_drop]
  have h : ∀ k, decide (0 + k < s.size - pos) = decide (pos + k < s.size) := fun k => by
    rw [decide_eq_decide]; omega
  simp only [h]

theorem decL_width (l : List UInt8) : 1 ≤ (decL l).2 := by
  unfold decL Utf8.decode
  simp only
  repeat' split
  all_goals simp

def swB (s : ByteArray) : Bool := decide ((3 : Int) ≤ s.size) && ((s.extract 0 3).toList == [239, 191, 189])

theorem extract_list (s : ByteArray) (a b : Nat) : (s.extract a b).data.toList = (s.data.toList.drop a).take (b - a) := by
  rw [ByteArray.data_extract, Array.toList_extract, List.extract_eq_take_drop]

theorem swB_eq (s : ByteArray) (pos : Nat) : swB (s.extract pos s.size) = ((s.data.toList.drop pos).take 3 == [239, 191, 189]) := by
  unfold swB
  rw [ByteArray.toList_eq, extract_list, extract_list]
  have hl : s.data.toList.length = s.size := rfl
  have e1 : (s.data.toList.drop pos).take (s.size - pos) = s.data.toList.drop pos := List.take_of_length_le (by rw [List.length_drop, hl]; exact Nat.le_refl _)
  rw [e1, List.drop_zero]
  by_cases h : (s.data.toList.drop pos).take 3 = [239, 191, 189]
  · have h3 := congrArg List.length h
    rw [List.length_take, List.length_drop, hl] at h3
    have hz : (s.extract pos s.size).size = s.size - pos := by
      have := congrArg List.length (extract_list s pos s.size)
      rw [e1, List.length_drop, hl] at this
      exact this
    have h3' : min 3 (s.size - pos) = 3 := h3
    have : (3 : Int) ≤ ((s.extract pos s.size).size : Int) := by rw [hz]; omega
    rw [decide_eq_true this, Bool.true_and]
  · simp [h]

set_option maxHeartbeats 400000 in
theorem sw46 (s : ByteArray) (w : World) :
    Calls Tryd.prog 82 #[.string s, .string ⟨#[239, 191, 189]⟩] w fun e w' => e = .returned (.bool (swB s)) ∧ w = w' := by
  by_cases h : (3 : Int) ≤ s.size
  · have hA : Hid (swB s = ((s.extract 0 3).toList == [239, 191, 189])) := by simp [Hid, swB, h]
    go_enter Tryd.func82, Tryd.ntmps82
    go_wp2
    go_ret
    exact ⟨by rw [hA.out]; rfl, rfl⟩
  · have hA : Hid (swB s = false) := by simp [Hid, swB, h]
    go_enter Tryd.func82, Tryd.ntmps82
    go_wp2
    go_ret
    exact ⟨by rw [hA.out]; rfl, rfl⟩

theorem drop_ne {s : ByteArray} {pos : Nat} (h : pos < s.size) : s.data.toList.drop pos ≠ [] := by
  intro e
  have := congrArg List.length e
  rw [List.length_drop] at this
  have hl : s.data.toList.length = s.size := rfl
  simp only [List.length_nil] at this
  omega
theorem drop_nil {s : ByteArray} {pos : Nat} (h : ¬ pos < s.size) : s.data.toList.drop pos = [] :=
  List.drop_eq_nil_of_le (by have hl : s.data.toList.length = s.size := rfl; omega)

theorem runL_end {σ : Type} {step : σ → Int → Option σ} {f pos : Nat} {r : σ} : runL step f pos [] r = .inr r := by
  cases f <;> simp [runL]

end Go.Proofs.YtmnknijjjicdbaaDoor.L2
namespace Go.Proofs.YtmnknijjjicdbaaDoor.L2
open Go.RowKit

theorem hmf : ∀ (fn : Fn) (first cap : Array Value) (w : World), (Instr.makeFunc fn first cap).run Tryd.prog w = .ok (.func fn first cap) w := fun _ _ _ _ => rfl

theorem assert57 (n : Int) (w : World) : (Instr.typeAssert (.iface 165 (.int .i64 n)) 20 165 true).run Tryd.prog w = .ok (.tuple #[.int .i64 n, .bool true]) w := by kernel_rfl

def R0 : R := ⟨0, false, 0, false, [], 0⟩
/-- What Parse answers. -/
structure PRes where
  k : Int
  n : Int
  s : ByteArray
  at' : Int
  e : Int
def parseEnd (len : Nat) : Nat ⊕ R → PRes
  | .inl p => ⟨0, 0, ⟨#[]⟩, p, 4⟩
  | .inr r => if completeR r = false then ⟨0, 0, ⟨#[]⟩, len, 3⟩ else if bigR r = true then ⟨0, 0, ⟨#[]⟩, 0, 5⟩ else ⟨vKind r, vNum r, vText r, len, 0⟩
def parseR (l : List UInt8) : PRes := parseEnd l.length (runL readR l.length 0 l R0)
def pVal (p : PRes) : Value := .tuple #[.agg #[.int .i64 p.k, .int .i64 p.n, .string p.s], .int .i64 p.at', .int .i64 p.e]

theorem Ok0 : Ok R0 := by unfold Ok R0; simp

/-- The cells of the named results, behind whatever left them alone. -/
structure Res3 (w w1 : World) : Prop where
  p0 : w1.cell? ⟨w.heap.size, 0, none⟩ = some (.int .i64 0)
  p1 : w1.cell? ⟨w.heap.size, 1, none⟩ = some (.int .i64 0)
  p2 : w1.cell? ⟨w.heap.size, 2, none⟩ = some (.string ⟨#[]⟩)
  q : w1.cell? ⟨w.heap.size + 1, 0, none⟩ = some (.int .i64 0)
  u : w1.cell? ⟨w.heap.size + 1 + 1, 0, none⟩ = some (.int .i64 0)
  fp0 : w1.frozen? ⟨w.heap.size, 0, none⟩ = false
  fp1 : w1.frozen? ⟨w.heap.size, 1, none⟩ = false
  fp2 : w1.frozen? ⟨w.heap.size, 2, none⟩ = false
  fq : w1.frozen? ⟨w.heap.size + 1, 0, none⟩ = false
  fu : w1.frozen? ⟨w.heap.size + 1 + 1, 0, none⟩ = false

end Go.Proofs.YtmnknijjjicdbaaDoor.L2
namespace Go.Proofs.YtmnknijjjicdbaaDoor.L2
open Go.RowKit

/-- Block p holds the number n. -/
def Nd (_B p : Nat) (n : Int) (w : World) : Prop := w.heap[p]? = some (.cells #[.int .i64 n] 3 (0, 0))
def Fp (B p : Nat) (w w' : World) : Prop := Below B w w' ∧ Lib.OthersKept 5 (some p) w w'

theorem Own.iter {B : Nat} {v : Value} {l : List UInt8} {w : World} (ho : Own B v l w) {k : Nat} {s : ByteArray} {pos : Nat} (hk : w.heap[k]? = some (.stringIter s pos)) (q : Nat) : Own B v l (w.iterAt k s q) := by
  refine ⟨ho.1, ?_⟩
  rcases ho.2 with hn | ⟨g, cap, cur, e, h1, hg, h2⟩
  · exact .inl hn
  · have hgk : g ≠ k := fun e => by subst e; rw [hk] at hg; cases hg
    exact .inr ⟨g, cap, cur, e, h1, by rw [Lib.iterAt_other _ _ _ _ _ hgk]; exact hg, h2⟩
theorem Nd.iter {B p : Nat} {n : Int} {w : World} (h : Nd B p n w) {k : Nat} {s : ByteArray} {pos : Nat} (hk : w.heap[k]? = some (.stringIter s pos)) (q : Nat) : Nd B p n (w.iterAt k s q) := by
  unfold Nd at h ⊢
  have hbk : p ≠ k := fun e => by subst e; rw [hk] at h; cases h
  rw [Lib.iterAt_other _ _ _ _ _ hbk]; exact h
theorem Nd.alloc {B p : Nat} {n : Int} {w : World} (h : Nd B p n w) (o : Obj) : Nd B p n (w.alloc o) := by
  unfold Nd at h ⊢
  rw [Below.heap_alloc _ _ _ (Array.getElem?_eq_some_iff.1 h).1]; exact h
theorem Nd.lt {B p : Nat} {n : Int} {w : World} (h : Nd B p n w) : p < w.heap.size := (Array.getElem?_eq_some_iff.1 h).1

def quoteStep (l : List UInt8) (c : Int) : Option (List UInt8) := some (l ++ pointText c)
def countStep (n : Int) (_ : Int) : Option Int := some (n + 1)
def QOk (pos : Nat) (l : List UInt8) : Prop := l.length ≤ 1 + 4 * pos
def NOk (pos : Nat) (n : Int) : Prop := 0 ≤ n ∧ n ≤ pos

theorem pointText_len (c : Int) : (pointText c).length ≤ 4 := by
  have := encode_len c
  unfold pointText
  repeat' split
  all_goals first | (simp; done) | exact this

/-- What a closure that is called once a code point comes to. -/
def Did {σ : Type} (Inv : σ → World → Prop) (Fr' : World → World → Prop) (w : World) (st : σ) (e : Ending) (w' : World) : Prop := e = .returned (.tuple #[]) ∧ Inv st w' ∧ Fr' w w'

set_option maxHeartbeats 400000 in
theorem count34 (B p : Nat) (n : Int) (at' c : Int) (w : World) (h : Nd B p n w) (hB : B ≤ p) (h0 : 0 ≤ n) (h1 : n < 9223372036854775807) :
    Calls Tryd.prog 80 #[.int .i64 at', .int .i32 c, .pointer (some ⟨p, 0, none⟩)] w (Did (Nd B p) (Fp B p) w (n + 1)) := by
  have hc0 : w.cell? ⟨p, 0, none⟩ = some (.int .i64 n) := by rw [cell_of_row w p _ _ 3 (0, 0) h]; rfl
  have hf0 : w.frozen? ⟨p, 0, none⟩ = false := by unfold Nd at h; simp [World.frozen?, h]
  have HB := Lib.hid h; clear h
  go_enter Tryd.func80, Tryd.ntmps80
  go_wp2
  go_end0
  exact ⟨rfl, heap_setCell_same w p 0 _ 3 _ HB.out, (Below.refl B w).setCell hB _, (Lib.OthersKept.refl 5 (some p) w).setCell _ rfl _⟩

def WalkS {σ : Type} (Inv : σ → World → Prop) (Okk : Nat → σ → Prop) (B len : Nat) (w : World) (o : Nat ⊕ σ) (e : Ending) (w' : World) : Prop :=
  match o with
  | .inr st => e = .returned (.tuple #[]) ∧ Inv st w' ∧ (∃ q, q < len + 4 ∧ Okk q st) ∧ Below B w w'
  | .inl p => e = .panicked [{ v := .iface 165 (.int .i64 p), recovered := false }] ∧ (∃ st, Inv st w') ∧ Below B w w'

/-- What holds at the head of walk's loop; k: the iterator's block. -/
def LoopS {σ : Type} (step : σ → Int → Option σ) (Inv : σ → World → Prop) (Okk : Nat → σ → Prop) (B : Nat) (s : ByteArray) (k : Nat) (w : World) (res : Nat ⊕ σ) (w' : World) : Prop :=
  ∃ (pos f : Nat) (st : σ), w'.heap[k]? = some (.stringIter s pos) ∧ Inv st w' ∧ Okk pos st ∧ pos < s.size + 4 ∧ Below B w w' ∧ runL step f pos (s.data.toList.drop pos) st = res ∧ s.size ≤ pos + f

theorem decL_width4 (l : List UInt8) : (decL l).2 ≤ 4 := by
  unfold decL Utf8.decode
  simp only
  repeat' split
  all_goals simp

set_option maxHeartbeats 400000 in
theorem walkN (s : ByteArray) (B p : Nat) (st0 : Int) (w : World) (hs : s.size ≤ 9223372036854775000) (hB : B ≤ p) (hr : Nd B p st0 w) (hk : NOk 0 st0) :
    Calls Tryd.prog 79 #[.string s, .func (.func 80) #[] #[.pointer (some ⟨p, 0, none⟩)]] w (WalkS (Nd B p) NOk B s.size w (runL countStep s.size 0 s.data.toList st0)) := by
  have hbl : p < w.heap.size := hr.lt
  have hr1 : Nd B p st0 (w.iter s 0) := hr.alloc (.stringIter s 0)
  have hst : LoopS countStep (Nd B p) NOk B s w.heap.size w (runL countStep s.size 0 s.data.toList st0) (w.iter s 0) :=
    ⟨0, s.size, st0, World.iter_heap w s 0, hr1, hk, by omega, (Below.refl _ _).alloc (by omega) _, by simp, by omega⟩
  generalize runL countStep s.size 0 s.data.toList st0 = res at hst ⊢
  have HST := Lib.hid hst; clear hst
  clear hr hr1 hk
  go_enter Tryd.func79, Tryd.ntmps79
  go_wp2
  go_loopw [4] (fun _ w' => LoopS countStep (Nd B p) NOk B s w.heap.size w res w') (fun _ w' => s.size - w'.iterPos w.heap.size)
  case atStart => exact HST.out
  case round =>
    obtain ⟨pos, f, st, hit, hrd, hok, hpl, hbe, hrun, hf⟩ := hrel
    have HRUN := Lib.hid hrun; clear hrun
    have HIT := Lib.hid hit; clear hit
    by_cases hp : pos < s.size
    · obtain ⟨c, d, hcd⟩ : ∃ c d, decL (s.data.toList.drop pos) = (c, d) := ⟨_, _, rfl⟩
      have hd1 : 1 ≤ d := by have := decL_width (s.data.toList.drop pos); rw [hcd] at this; exact this
      have hd4 : d ≤ 4 := by have := decL_width4 (s.data.toList.drop pos); rw [hcd] at this; exact this
      obtain ⟨w1, hw1⟩ : ∃ w1, wr.iterAt w.heap.size s (pos + d) = w1 := ⟨_, rfl⟩
      have hnx : ∀ ty, (Instr.next (.pointer (some ⟨w.heap.size, 0, none⟩)) true ty).run Tryd.prog wr = .ok (.tuple #[.bool true, .int .i64 pos, .int .i32 c]) w1 := fun ty => by
        rw [Lib.run_next_any_at wr w.heap.size s pos ty HIT.out hp, decode_drop, hcd, ← hw1]
      have hit1 : w1.heap[w.heap.size]? = some (.stringIter s (pos + d)) := by rw [← hw1]; exact Lib.iterAt_heap wr _ s pos _ HIT.out
      have hrd1 : Nd B p st w1 := by rw [← hw1]; exact hrd.iter HIT.out _
      have hbe1 : Below B w w1 := by rw [← hw1]; exact Lib.below_iterAt hbe (by omega) s _
      have hmeas : s.size - (pos + d) < s.size - wr.iterPos w.heap.size := by
        have : wr.iterPos w.heap.size = pos := by simp [World.iterPos, HIT.out]
        rw [this]; omega
      have HIT1 := Lib.hid hit1; clear hit1 hw1 hrd hbe
      have hsw := sw46 (s.extract pos s.size) w1
      rw [swB_eq] at hsw
      have hbad : badL (s.data.toList.drop pos) = ((c : Int) == 65533 && !((s.data.toList.drop pos).take 3 == [239, 191, 189])) := by
        unfold badL; rw [hcd]; simp only; congr 1; rw [Bool.eq_iff_iff]; simp; omega
      have hrun := HRUN.out
      cases f with
      | zero => omega
      | succ f =>
      unfold runL at hrun
      rw [if_neg (drop_ne hp), hbad, hcd, List.drop_drop] at hrun
      simp only [countStep] at hrun
      have hstep := count34 B p st pos c w1 hrd1 hB (by unfold NOk at hok; omega) (by unfold NOk at hok; omega)
      clear hbad HRUN
      generalize ((s.data.toList.drop pos).take 3 == [239, 191, 189]) = sw at hsw hrun
      have HCD := Lib.hid hcd; clear hcd
      have HSW := Lib.hid hsw; clear hsw
      have HSTEP := Lib.hid hstep; clear hstep
      have fin : ∀ w2, Nd B p (st + 1) w2 → Fp B p w1 w2 → runL countStep f (pos + d) (s.data.toList.drop (pos + d)) (st + 1) = res → LoopS countStep (Nd B p) NOk B s w.heap.size w res w2 ∧ s.size - w2.iterPos w.heap.size < s.size - wr.iterPos w.heap.size := by
        intro w2 h2 h3 h4
        have hi2 : w2.heap[w.heap.size]? = some (.stringIter s (pos + d)) := h3.2 _ _ HIT1.out (by simp; omega) (by simp)
        have hpos : w2.iterPos w.heap.size = pos + d := by simp [World.iterPos, hi2]
        exact ⟨⟨pos + d, f, _, hi2, h2, (by unfold NOk at hok ⊢; omega), by omega, hbe1.trans h3.1, h4, by omega⟩, by rw [hpos]; exact hmeas⟩
      have FIN := Lib.hid fin; clear fin
      cases hb1 : ((c : Int) == 65533) with
      | false =>
        rw [hb1] at hrun
        simp only [Bool.false_and, Bool.false_eq_true, if_false] at hrun
        have HR := Lib.hid hrun; clear hrun
        go_wp2_with (first | (go_at_call 80; go_must (refine HSTEP.out.mono ?_); rintro e w' ⟨rfl, hr', hf'⟩))
        exact FIN.out _ hr' hf' HR.out
      | true =>
        rw [hb1] at hrun
        cases sw with
        | true =>
          simp only [Bool.not_true, Bool.and_false, Bool.false_eq_true, if_false] at hrun
          have HR := Lib.hid hrun; clear hrun
          go_wp2_with (first | (go_at_call 82; go_must (refine HSW.out.mono ?_); rintro e w' ⟨rfl, rfl⟩) | (go_at_call 80; go_must (refine HSTEP.out.mono ?_); rintro e w' ⟨rfl, hr', hf'⟩))
          exact FIN.out _ hr' hf' HR.out
        | false =>
          simp only [Bool.not_false, Bool.and_true, if_true] at hrun
          subst hrun
          go_wp2_with (first | (go_at_call 82; go_must (refine HSW.out.mono ?_); rintro e w' ⟨rfl, rfl⟩))
          exact ⟨rfl, rfl, ⟨_, hrd1⟩, hbe1⟩
    · have hnx : ∀ ty, (Instr.next (.pointer (some ⟨w.heap.size, 0, none⟩)) true ty).run Tryd.prog wr = _ := fun ty => Lib.run_next_end_at wr w.heap.size s pos ty HIT.out hp
      go_wp2
      go_end0
      have hres := HRUN.out
      rw [drop_nil hp, runL_end] at hres
      rw [← hres]
      exact ⟨rfl, hrd, ⟨pos, hpl, hok⟩, hbe⟩
end Go.Proofs.YtmnknijjjicdbaaDoor.L2
namespace Go.Proofs.YtmnknijjjicdbaaDoor.L2
open Go.RowKit

set_option maxHeartbeats 400000 in
theorem catch33 (p : Nat) (at' : Int) (x : Value) (older : List PanicEntry) (w : World) (hp : w.cell? ⟨p, 0, none⟩ = some x) (fp : w.frozen? ⟨p, 0, none⟩ = false) :
    CallsD Tryd.prog 78 #[.pointer (some ⟨p, 0, none⟩)] (.panicking ({ v := .iface 165 (.int .i64 at'), recovered := false } :: older)) w fun e m' w' =>
      e = .returned (.tuple #[]) ∧ m' = .panicking ({ v := .iface 165 (.int .i64 at'), recovered := true } :: older) ∧ w' = w.setCell ⟨p, 0, none⟩ (.int .i64 (-1)) := by
  refine callsD_of_wpS Tryd.func78 rfl fun c₀ cs hu => ?_
  apply wpS_seq
  apply wpS_region
  simp [wpOpsS, go_sem, recoverD, hu, Tryd.ntmps78, Exit.thenS]
  refine wpS_of_wp ?_
  go_wp2
  simp [bodyPostS, results, Tryd.results78]

theorem idle33 (p : Nat) (w : World) :
    CallsD Tryd.prog 78 #[.pointer (some ⟨p, 0, none⟩)] .returning w fun e m' w' => e = .returned (.tuple #[]) ∧ m' = .returning ∧ w = w' := by
  refine callsD_of_wpS Tryd.func78 rfl fun c₀ cs hu => ?_
  apply wpS_seq
  apply wpS_region
  simp [wpOpsS, go_sem, recoverD, hu, Tryd.ntmps78, Exit.thenS]
  refine wpS_of_wp ?_
  go_wp2
  cases c₀
  simp_all [bodyPostS, results, Tryd.results78]

def runesEnd : Nat ⊕ Int → Int
  | .inl _ => -1
  | .inr n => n
def runesR (l : List UInt8) : Int := runesEnd (runL countStep l.length 0 l 0)

set_option maxHeartbeats 400000 in
theorem runes18 (s : ByteArray) (w : World) (hs : s.size ≤ 5000) :
    Calls Tryd.prog 70 #[.string s] w fun e w' => e = .returned (.int .i64 (runesR s.data.toList)) ∧ Below w.heap.size w w' := by
  have hmf := hmf
  have hrd : Nd w.heap.size w.heap.size 0 (w.alloc (.cells #[.int .i64 0] 3)) := heap_alloc_new w _
  have hwalk := walkN s w.heap.size w.heap.size 0 _ (by omega) (Nat.le_refl _) hrd ⟨by omega, by omega⟩
  have hP : runesR s.data.toList = runesEnd (runL countStep s.size 0 s.data.toList 0) := rfl
  rw [hP]
  clear hP
  generalize runL countStep s.size 0 s.data.toList 0 = res at hwalk ⊢
  have hb0 : Below w.heap.size w (w.alloc (.cells #[.int .i64 0] 3)) := (Below.refl _ w).alloc (Nat.le_refl _) _
  cases res with
  | inl p =>
    rw [show runesEnd (.inl p) = -1 from rfl]
    have HW := Lib.hid hwalk
    clear hwalk hrd
    go_enter_defers Tryd.func70, Tryd.ntmps70
    go_wp2_with (go_at_call 79; go_must (refine HW.out.mono ?_); rintro e w1 ⟨rfl, ⟨n, hnd⟩, hb1⟩)
    have hc1 : w1.cell? ⟨w.heap.size, 0, none⟩ = some (.int .i64 n) := by rw [cell_of_row w1 _ _ _ 3 (0, 0) hnd]; rfl
    have hf1 : w1.frozen? ⟨w.heap.size, 0, none⟩ = false := by unfold Nd at hnd; simp [World.frozen?, hnd]
    have hbw := hb0.trans hb1
    refine leaves_cons (f := 78) (args := #[.pointer (some ⟨w.heap.size, 0, none⟩)]) (by simp) (by simp [go_sem]) ?_
    refine (catch33 w.heap.size p _ [] w1 hc1 hf1).mono ?_
    rintro e u' w'' ⟨rfl, rfl, rfl⟩
    simp [Leaves, settle, results, Tryd.results70, go_sem, hc1]
    exact hbw.setCell (Nat.le_refl _) _
  | inr n =>
    rw [show runesEnd (.inr n) = n from rfl]
    have HW := Lib.hid hwalk
    clear hwalk hrd
    go_enter_defers Tryd.func70, Tryd.ntmps70
    go_wp2_with fail
    refine HW.out.mono ?_
    rintro e w1 ⟨rfl, hnd, hok, hb1⟩
    have hc1 : w1.cell? ⟨w.heap.size, 0, none⟩ = some (.int .i64 n) := by rw [cell_of_row w1 _ _ _ 3 (0, 0) hnd]; rfl
    have hf1 : w1.frozen? ⟨w.heap.size, 0, none⟩ = false := by unfold Nd at hnd; simp [World.frozen?, hnd]
    have hbw := hb0.trans hb1
    clear hnd
    go_wp2
    refine leaves_cons (f := 78) (args := #[.pointer (some ⟨w.heap.size, 0, none⟩)]) (by simp) (by simp [go_sem]) ?_
    refine (idle33 w.heap.size _).mono ?_
    rintro e u' w'' ⟨rfl, rfl, rfl⟩
    simp [Leaves, settle, results, Tryd.results70, go_sem, hc1]
    exact hbw.setCell (Nat.le_refl _) _

def quoteEnd : Nat ⊕ List UInt8 → List UInt8 × Int
  | .inl _ => ([], 2)
  | .inr x => (x ++ [34], 0)
def quoteR (l : List UInt8) : List UInt8 × Int := quoteEnd (runL quoteStep l.length 0 l [34])

structure Res2 (w w1 : World) : Prop where
  p : w1.cell? ⟨w.heap.size, 0, none⟩ = some (.string ⟨#[]⟩)
  q : w1.cell? ⟨w.heap.size + 1, 0, none⟩ = some (.int .i64 0)
  fp : w1.frozen? ⟨w.heap.size, 0, none⟩ = false
  fq : w1.frozen? ⟨w.heap.size + 1, 0, none⟩ = false
end Go.Proofs.YtmnknijjjicdbaaDoor.L2
namespace Go.Proofs.YtmnknijjjicdbaaDoor.L2
open Go.RowKit

def validV (k n : Int) (s : ByteArray) : Bool := (k == 1 && s.toList.isEmpty) || (k == 2 && (n == 0 && (decide ((s.size : Int) ≤ 40) && decide (0 ≤ runesR s.data.toList))))
def checkR (k n : Int) (s : ByteArray) : Int := if validV k n s then 0 else 2

set_option maxHeartbeats 800000 in
theorem check14 (k n : Int) (s : ByteArray) (w : World) :
    Calls Tryd.prog 51 #[.agg #[.int .i64 k, .int .i64 n, .string s]] w fun e w' => e = .returned (.int .i64 (checkR k n s)) ∧ Below w.heap.size w w' := by
  have hend : Below w.heap.size w (w.alloc (.cells #[.int .i64 k, .int .i64 n, .string s] 41)) := (Below.refl _ _).alloc (Nat.le_refl _) _
  by_cases k1 : k = 1
  · subst k1
    cases e : s.toList.isEmpty with
    | true =>
      have hA : Hid (checkR 1 n s = 0) := by simp [Hid, checkR, validV, e]
      have e' : (!s.toList.isEmpty) = false := by rw [e]; rfl
      rw [hA.out]
      go_enter Tryd.func51, Tryd.ntmps51
      go_wp2
      go_ret
      exact ⟨rfl, hend⟩
    | false =>
      have hA : Hid (checkR 1 n s = 2) := by simp [Hid, checkR, validV, e]
      have e' : (!s.toList.isEmpty) = true := by rw [e]; rfl
      rw [hA.out]
      go_enter Tryd.func51, Tryd.ntmps51
      go_wp2
      go_ret
      exact ⟨rfl, hend⟩
  have b1 : (k == 1) = false := by simpa using k1
  cases b2 : (k == 2) with
  | false =>
    have hA : Hid (checkR k n s = 2) := by simp [Hid, checkR, validV, b1, b2]
    rw [hA.out]
    clear k1
    go_enter Tryd.func51, Tryd.ntmps51
    go_wp2
    go_ret
    exact ⟨rfl, hend⟩
  | true =>
    cases b3 : (n == 0) with
    | false =>
      have hA : Hid (checkR k n s = 2) := by simp [Hid, checkR, validV, b1, b3]
      rw [hA.out]
      clear k1
      go_enter Tryd.func51, Tryd.ntmps51
      go_wp2
      go_ret
      exact ⟨rfl, hend⟩
    | true =>
      by_cases h4 : (s.size : Int) ≤ 40
      · have hru := runes18 s (w.alloc (.cells #[.int .i64 k, .int .i64 n, .string s] 41)) (by omega)
        by_cases h5 : 0 ≤ runesR s.data.toList
        · have hA : Hid (checkR k n s = 0) := by simp [Hid, checkR, validV, b1, b2, b3, h4, h5]
          rw [hA.out]
          generalize runesR s.data.toList = ru at hru h5
          have HR := Lib.hid hru; clear hru
          clear k1
          go_enter Tryd.func51, Tryd.ntmps51
          go_wp2_with (go_at_call 70; go_must (refine HR.out.mono ?_); rintro e w1 ⟨rfl, hb1⟩)
          go_ret
          exact ⟨rfl, hend.trans (hb1.mono (by simp))⟩
        · have hA : Hid (checkR k n s = 2) := by simp [Hid, checkR, validV, b1, b2, b3, h4, h5]
          rw [hA.out]
          generalize runesR s.data.toList = ru at hru h5
          have HR := Lib.hid hru; clear hru
          clear k1
          go_enter Tryd.func51, Tryd.ntmps51
          go_wp2_with (go_at_call 70; go_must (refine HR.out.mono ?_); rintro e w1 ⟨rfl, hb1⟩)
          go_ret
          exact ⟨rfl, hend.trans (hb1.mono (by simp))⟩
      · have hA : Hid (checkR k n s = 2) := by simp [Hid, checkR, validV, b1, b2, b3, h4]
        rw [hA.out]
        clear k1
        go_enter Tryd.func51, Tryd.ntmps51
        go_wp2
        go_ret
        exact ⟨rfl, hend⟩

def textR (k n : Int) (s : ByteArray) : List UInt8 × Int := if validV k n s then (if k = 2 then quoteR s.data.toList else (intText n, 0)) else ([], 2)

theorem toList_empty {s : ByteArray} (h : s.toList.isEmpty = true) : s.size = 0 := by
  rw [ByteArray.toList_eq] at h
  have := List.isEmpty_iff.1 h
  have hl : s.data.toList.length = s.size := rfl
  rw [this] at hl
  exact hl.symm

end Go.Proofs.YtmnknijjjicdbaaDoor.L2
namespace Go.Proofs.YtmnknijjjicdbaaDoor.L2
open Go.RowKit

/-- A comparison by -1, 0 and 1 that is a total order. -/
structure TO {α : Type} (f : α → α → Int) : Prop where
  rng : ∀ a b, f a b = -1 ∨ f a b = 0 ∨ f a b = 1
  anti : ∀ a b, f b a = -f a b
  zero : ∀ a b, f a b = 0 ↔ a = b
  tr : ∀ a b c, f a b ≤ 0 → f b c ≤ 0 → f a c ≤ 0

theorem TO.strict {α : Type} {f : α → α → Int} (h : TO f) (a b c : α) (h1 : f a b < 0) (h2 : f b c ≤ 0) : f a c < 0 := by
  have h3 := h.tr a b c (by omega) h2
  have h4 : f a c ≠ 0 := fun e => by
    have e' := (h.zero a c).1 e
    subst e'
    have := h.anti a b
    omega
  omega

theorem cmpI_to : TO cmpI := by
  refine ⟨fun a b => ?_, fun a b => ?_, fun a b => ?_, fun a b c h1 h2 => ?_⟩
  · unfold cmpI; repeat' split
    all_goals simp
  · unfold cmpI; repeat' split
    all_goals omega
  · unfold cmpI; repeat' split
    all_goals omega
  · unfold cmpI at *; repeat' split
    all_goals (repeat' split at h1) <;> (repeat' split at h2) <;> omega

theorem bl_irrefl : ∀ x : List UInt8, Op.bytesLess x x = false
  | [] => rfl
  | a :: x => by simp [Op.bytesLess, bl_irrefl x]
theorem bl_asymm : ∀ x y : List UInt8, Op.bytesLess x y = true → Op.bytesLess y x = false
  | _, [], h => by simp [Op.bytesLess] at h
  | [], _ :: _, _ => rfl
  | a :: x, b :: y, h => by
    simp only [Op.bytesLess, Bool.or_eq_true, decide_eq_true_eq, Bool.and_eq_true, beq_iff_eq] at h
    have hn : ∀ u v : UInt8, u < v → ¬ v < u := fun u v h1 h2 => by
      rw [UInt8.lt_iff_toNat_lt] at h1 h2; omega
    rcases h with h | ⟨rfl, h⟩
    · have e : ¬ b = a := fun e => by subst e; exact hn _ _ h h
      simp [Op.bytesLess, hn _ _ h, e]
    · simp [Op.bytesLess, bl_asymm x y h]
theorem bl_total : ∀ x y : List UInt8, Op.bytesLess x y = false → ¬ x = y → Op.bytesLess y x = true
  | [], [], _, h => absurd rfl h
  | _ :: _, [], _, _ => rfl
  | [], _ :: _, h, _ => by simp [Op.bytesLess] at h
  | a :: x, b :: y, h, hne => by
    simp only [Op.bytesLess, Bool.or_eq_false_iff, decide_eq_false_iff_not, Bool.and_eq_false_iff, beq_eq_false_iff_ne] at h
    obtain ⟨h1, h2⟩ := h
    by_cases e : a = b
    · subst e
      have hx : ¬ x = y := fun e => hne (by rw [e])
      have := bl_total x y (by rcases h2 with h2 | h2; exact absurd rfl h2; exact h2) hx
      simp [Op.bytesLess, this]
    · have : b < a := by
        rw [UInt8.lt_iff_toNat_lt] at h1 ⊢
        have : a.toNat ≠ b.toNat := fun h => e (UInt8.toNat_inj.1 h)
        omega
      simp [Op.bytesLess, this]
theorem bl_trans : ∀ x y z : List UInt8, Op.bytesLess x y = true → Op.bytesLess y z = true → Op.bytesLess x z = true
  | _, [], _, h, _ => by simp [Op.bytesLess] at h
  | _, _ :: _, [], _, h => by simp [Op.bytesLess] at h
  | [], _ :: _, _ :: _, _, _ => rfl
  | a :: x, b :: y, c :: z, h, k => by
    simp only [Op.bytesLess, Bool.or_eq_true, decide_eq_true_eq, Bool.and_eq_true, beq_iff_eq] at h k ⊢
    rcases h with h | ⟨rfl, h⟩
    · rcases k with k | ⟨rfl, k⟩
      · left; rw [UInt8.lt_iff_toNat_lt] at *; omega
      · left; exact h
    · rcases k with k | ⟨rfl, k⟩
      · left; exact k
      · right; exact ⟨rfl, bl_trans x y z h k⟩

theorem bytes_ext {a b : ByteArray} (h : a.toList = b.toList) : a = b := by
  rw [ByteArray.toList_eq, ByteArray.toList_eq] at h
  cases a; cases b
  simp only at h
  congr 1
  exact Array.toList_inj.1 h

theorem cmpS_neg {a b : ByteArray} : cmpS a b = -1 ↔ Op.bytesLess a.toList b.toList = true := by
  unfold cmpS; split
  · simp [*]
  · split <;> simp [*]
theorem cmpS_zero {a b : ByteArray} : cmpS a b = 0 ↔ a = b := by
  unfold cmpS; split
  · rename_i h
    constructor
    · intro h; omega
    · rintro rfl; rw [bl_irrefl] at h; cases h
  · split
    · rename_i h
      have := bytes_ext (by simpa using h)
      simp [this]
    · rename_i h
      constructor
      · intro h; omega
      · rintro rfl; simp at h
theorem cmpS_rng (a b : ByteArray) : cmpS a b = -1 ∨ cmpS a b = 0 ∨ cmpS a b = 1 := by
  unfold cmpS; repeat' split
  all_goals simp
theorem cmpS_anti (a b : ByteArray) : cmpS b a = -cmpS a b := by
  rcases cmpS_rng a b with h | h | h
  · have h1 := bl_asymm _ _ (cmpS_neg.1 h)
    have h2 : ¬ cmpS b a = -1 := fun e => by rw [cmpS_neg.1 e] at h1; cases h1
    have h3 : ¬ cmpS b a = 0 := fun e => by rw [cmpS_zero.1 e] at h; have := cmpS_zero (a := a) (b := a).2 rfl; omega
    have := cmpS_rng b a
    omega
  · have e := cmpS_zero.1 h; subst e; omega
  · have h1 : ¬ cmpS a b = -1 := by omega
    have h2 : ¬ a = b := fun e => by rw [cmpS_zero.2 e] at h; omega
    have h3 := bl_total a.toList b.toList (by cases hb : Op.bytesLess a.toList b.toList with | false => rfl | true => exact absurd (cmpS_neg.2 hb) h1) (fun e => h2 (bytes_ext e))
    have := cmpS_neg.2 h3
    omega
theorem cmpS_to : TO cmpS := by
  refine ⟨cmpS_rng, cmpS_anti, fun a b => cmpS_zero, fun a b c h1 h2 => ?_⟩
  rcases cmpS_rng a b with h | h | h
  · rcases cmpS_rng b c with k | k | k
    · have := cmpS_neg.2 (bl_trans _ _ _ (cmpS_neg.1 h) (cmpS_neg.1 k)); omega
    · rw [← cmpS_zero.1 k]; omega
    · omega
  · rw [cmpS_zero.1 h]; exact h2
  · omega

def lexC {α β : Type} (f : α → α → Int) (g : β → β → Int) (a b : α × β) : Int := if f a.1 b.1 = 0 then g a.2 b.2 else f a.1 b.1
theorem lex_to {α β : Type} {f : α → α → Int} {g : β → β → Int} (hf : TO f) (hg : TO g) : TO (lexC f g) := by
  refine ⟨fun a b => ?_, fun a b => ?_, fun a b => ?_, fun a b c h1 h2 => ?_⟩
  · unfold lexC; split
    · exact hg.rng _ _
    · exact hf.rng _ _
  · unfold lexC
    have h1 := hf.anti a.1 b.1
    have h2 := hg.anti a.2 b.2
    repeat' split
    all_goals omega
  · unfold lexC
    split
    · rename_i h
      rw [hg.zero, Prod.ext_iff, ← hf.zero]
      exact ⟨fun e => ⟨h, e⟩, fun e => e.2⟩
    · rename_i h
      rw [Prod.ext_iff, ← hf.zero]
      exact ⟨fun e => absurd e h, fun e => absurd e.1 h⟩
  · unfold lexC at *
    by_cases e1 : f a.1 b.1 = 0
    · rw [if_pos e1] at h1
      have e1' := (hf.zero _ _).1 e1
      rw [← e1'] at h2
      by_cases e2 : f a.1 c.1 = 0
      · rw [if_pos e2] at h2 ⊢; exact hg.tr _ _ _ h1 h2
      · rw [if_neg e2] at h2 ⊢; exact h2
    · rw [if_neg e1] at h1
      by_cases e2 : f b.1 c.1 = 0
      · have e2' := (hf.zero _ _).1 e2
        rw [← e2', if_neg e1]; exact h1
      · rw [if_neg e2] at h2
        have := hf.strict _ _ _ (show f a.1 b.1 < 0 by omega) h2
        rw [if_neg (by omega)]; omega

def cmp3 : Int × Int × ByteArray → Int × Int × ByteArray → Int := lexC cmpI (lexC cmpI cmpS)
theorem cmp3_to : TO cmp3 := lex_to cmpI_to (lex_to cmpI_to cmpS_to)
theorem cmpV_eq (ka na : Int) (sa : ByteArray) (kb nb : Int) (sb : ByteArray) : cmpV ka na sa kb nb sb = cmp3 (ka, na, sa) (kb, nb, sb) := rfl
end Go.Proofs.YtmnknijjjicdbaaDoor.L2
namespace Go.Proofs.YtmnknijjjicdbaaDoor.L2
open Go.RowKit

/-- The cells of three boxed values, and what was there before. -/
structure C3 (w0 : World) (ka na : Int) (sa : ByteArray) (kb nb : Int) (sb : ByteArray) (kc nc : Int) (sc : ByteArray) (w : World) : Prop where
  a0 : w.cell? ⟨w0.heap.size, 0, none⟩ = some (.int .i64 ka)
  a1 : w.cell? ⟨w0.heap.size, 1, none⟩ = some (.int .i64 na)
  a2 : w.cell? ⟨w0.heap.size, 2, none⟩ = some (.string sa)
  b0 : w.cell? ⟨w0.heap.size + 1, 0, none⟩ = some (.int .i64 kb)
  b1 : w.cell? ⟨w0.heap.size + 1, 1, none⟩ = some (.int .i64 nb)
  b2 : w.cell? ⟨w0.heap.size + 1, 2, none⟩ = some (.string sb)
  c0 : w.cell? ⟨w0.heap.size + 1 + 1, 0, none⟩ = some (.int .i64 kc)
  c1 : w.cell? ⟨w0.heap.size + 1 + 1, 1, none⟩ = some (.int .i64 nc)
  c2 : w.cell? ⟨w0.heap.size + 1 + 1, 2, none⟩ = some (.string sc)
  below : Below w0.heap.size w0 w

theorem cell_keep {w w' : World} (h : Below w.heap.size w w') {p : Addr} {v : Value} (hp : w.cell? p = some v) : w'.cell? p = some v := by
  rw [h.cell (World.block_lt_of_cell? w p hp)]; exact hp

theorem C3.step {w0 : World} {ka na : Int} {sa : ByteArray} {kb nb : Int} {sb : ByteArray} {kc nc : Int} {sc : ByteArray} {w w' : World} (h : C3 w0 ka na sa kb nb sb kc nc sc w) (hb : Below w.heap.size w w') : C3 w0 ka na sa kb nb sb kc nc sc w' :=
  ⟨cell_keep hb h.a0, cell_keep hb h.a1, cell_keep hb h.a2, cell_keep hb h.b0, cell_keep hb h.b1, cell_keep hb h.b2, cell_keep hb h.c0, cell_keep hb h.c1, cell_keep hb h.c2, h.below.trans (hb.mono h.below.size)⟩

theorem C3.start (w0 : World) (ka na : Int) (sa : ByteArray) (kb nb : Int) (sb : ByteArray) (kc nc : Int) (sc : ByteArray) :
    C3 w0 ka na sa kb nb sb kc nc sc (((w0.alloc (.cells #[.int .i64 ka, .int .i64 na, .string sa] 41)).alloc (.cells #[.int .i64 kb, .int .i64 nb, .string sb] 41)).alloc (.cells #[.int .i64 kc, .int .i64 nc, .string sc] 41)) := by
  constructor
  all_goals first
    | (simp [go_sem]; done)
    | exact (((Below.refl _ w0).alloc (Nat.le_refl _) _).alloc (by simp) _).alloc (by simp; omega) _

theorem C3.drew {w0 : World} {ka na : Int} {sa : ByteArray} {kb nb : Int} {sb : ByteArray} {kc nc : Int} {sc : ByteArray} {w : World} (h : C3 w0 ka na sa kb nb sb kc nc sc w) : C3 w0 ka na sa kb nb sb kc nc sc w.drew :=
  ⟨h.a0, h.a1, h.a2, h.b0, h.b1, h.b2, h.c0, h.c1, h.c2, h.below.drew⟩
theorem S9 {w w' : World} {ka na : Int} {sa : ByteArray} {kb nb : Int} {sb : ByteArray} {kc nc : Int} {sc : ByteArray} (h : C3 w ka na sa kb nb sb kc nc sc w') :
    w'.cell? ⟨w.heap.size, 0, none⟩ = some (.int .i64 ka) ∧ w'.cell? ⟨w.heap.size, 1, none⟩ = some (.int .i64 na) ∧ w'.cell? ⟨w.heap.size, 2, none⟩ = some (.string sa) ∧ w'.cell? ⟨w.heap.size + 1, 0, none⟩ = some (.int .i64 kb) ∧ w'.cell? ⟨w.heap.size + 1, 1, none⟩ = some (.int .i64 nb) ∧ w'.cell? ⟨w.heap.size + 1, 2, none⟩ = some (.string sb) ∧ w'.cell? ⟨w.heap.size + 1 + 1, 0, none⟩ = some (.int .i64 kc) ∧ w'.cell? ⟨w.heap.size + 1 + 1, 1, none⟩ = some (.int .i64 nc) ∧ w'.cell? ⟨w.heap.size + 1 + 1, 2, none⟩ = some (.string sc) ∧ C3 w ka na sa kb nb sb kc nc sc w' := ⟨h.a0, h.a1, h.a2, h.b0, h.b1, h.b2, h.c0, h.c1, h.c2, h⟩

theorem eql24 (ka na : Int) (sa : ByteArray) (kb nb : Int) (sb : ByteArray) (t : Bool) (h : decide (ka = kb ∧ na = nb ∧ sa = sb) = t) (w : World) :
    (binOp .eql 41 (.agg #[.int .i64 ka, .int .i64 na, .string sa]) (.agg #[.int .i64 kb, .int .i64 nb, .string sb])).run Tryd.prog w = .ok (.bool t) w := by
  subst h
  by_cases h1 : ka = kb
  · by_cases h2 : na = nb
    · by_cases h3 : sa.toList = sb.toList
      · have := bytes_ext h3
        simp [go_sem, h1, h2, this]
      · have h4 : ¬ sa = sb := fun e => h3 (by rw [e])
        simp [go_sem, h1, h2, h3, h4]
    · simp [go_sem, h1, h2]
  · simp [go_sem, h1]

end Go.Proofs.YtmnknijjjicdbaaDoor.L2
namespace Go.Proofs.YtmnknijjjicdbaaDoor.L2

abbrev Seg (α : Type) := Int × Int × α

section
variable {α : Type}

def lk : List (Seg α) → Int → Option α
  | [], _ => none
  | x :: r, t => if x.1 ≤ t ∧ t < x.2.1 then some x.2.2 else lk r t

/-- Sorted and apart, from lo on. -/
def Up : Int → List (Seg α) → Prop
  | _, [] => True
  | lo, x :: r => lo ≤ x.1 ∧ x.1 < x.2.1 ∧ Up x.2.1 r

/-- Canonical: sorted, and no two that touch have one value; all of it ends at E or before. -/
def CE : Int → Option α → List (Seg α) → Int → Prop
  | lo, _, [], E => lo ≤ E
  | lo, pv, x :: r, E => lo ≤ x.1 ∧ x.1 < x.2.1 ∧ ¬ (x.1 = lo ∧ pv = some x.2.2) ∧ CE x.2.1 (some x.2.2) r E

theorem CE.up : ∀ {l : List (Seg α)} {lo : Int} {pv : Option α} {E : Int}, CE lo pv l E → Up lo l
  | [], _, _, _, _ => trivial
  | _ :: _, _, _, _, h => ⟨h.1, h.2.1, h.2.2.2.up⟩
theorem CE.le : ∀ {l : List (Seg α)} {lo : Int} {pv : Option α} {E : Int}, CE lo pv l E → lo ≤ E
  | [], _, _, _, h => h
  | x :: r, _, _, _, h => by have h1 := h.2.2.2.le; have := h.1; have := h.2.1; omega
theorem CE.mono : ∀ {l : List (Seg α)} {lo : Int} {pv : Option α} {E E' : Int}, CE lo pv l E → E ≤ E' → CE lo pv l E'
  | [], _, _, _, _, h, h' => Int.le_trans h h'
  | _ :: _, _, _, _, _, h, h' => ⟨h.1, h.2.1, h.2.2.1, h.2.2.2.mono h'⟩
theorem CE.from_ : ∀ {l : List (Seg α)} {lo lo' : Int} {E : Int}, CE lo none l E → lo' ≤ lo → CE lo' none l E
  | [], _, _, _, h, h' => Int.le_trans h' h
  | _ :: _, _, _, _, h, h' => ⟨Int.le_trans h' h.1, h.2.1, by simp, h.2.2.2⟩
theorem CE.any : ∀ {l : List (Seg α)} {lo : Int} {pv : Option α} {E : Int}, CE lo pv l E → CE lo none l E
  | [], _, _, _, h => h
  | _ :: _, _, _, _, h => ⟨h.1, h.2.1, by simp, h.2.2.2⟩
theorem Up.from_ : ∀ {l : List (Seg α)} {lo lo' : Int}, Up lo l → lo' ≤ lo → Up lo' l
  | [], _, _, _, _ => trivial
  | _ :: _, _, _, h, h' => ⟨Int.le_trans h' h.1, h.2⟩

theorem lk_before : ∀ {l : List (Seg α)} {lo t : Int}, Up lo l → t < lo → lk l t = none
  | [], _, _, _, _ => rfl
  | x :: r, lo, t, h, ht => by
    have h1 := h.1
    have h2 := h.2.1
    rw [lk, if_neg (by omega)]
    exact lk_before h.2.2 (by omega)
theorem lk_after : ∀ {l : List (Seg α)} {lo E t : Int} {pv : Option α}, CE lo pv l E → E ≤ t → lk l t = none
  | [], _, _, _, _, _, _ => rfl
  | x :: r, lo, E, t, _, h, ht => by
    have h1 := h.2.2.2.le
    rw [lk, if_neg (by omega)]
    exact lk_after h.2.2.2 ht
theorem lk_tail {x : Seg α} {r : List (Seg α)} {t : Int} (ht : x.2.1 ≤ t) : lk (x :: r) t = lk r t := by
  rw [lk, if_neg (by omega)]

/-- The canonical form is one. -/
theorem canon_eq : ∀ {l l' : List (Seg α)} {lo E E' : Int} {pv pv' : Option α}, CE lo pv l E → CE lo pv' l' E' → (∀ t, lo ≤ t → lk l t = lk l' t) → l = l'
  | [], [], _, _, _, _, _, _, _, _ => rfl
  | [], y :: r', lo, _, _, _, _, _, h', hh => by
    have h1 := h'.1
    have h2 := h'.2.1
    have := hh y.1 h1
    rw [lk, lk, if_pos (by omega)] at this
    cases this
  | x :: r, [], lo, _, _, _, _, h, _, hh => by
    have h1 := h.1
    have h2 := h.2.1
    have := hh x.1 h1
    rw [lk, lk, if_pos (by omega)] at this
    cases this
  | x :: r, y :: r', lo, E, E', pv, pv', h, h', hh => by
    obtain ⟨f, e, v⟩ := x
    obtain ⟨f', e', v'⟩ := y
    obtain ⟨h1, h2, _, h4⟩ := h
    obtain ⟨g1, g2, _, g4⟩ := h'
    simp only at h1 h2 h4 g1 g2 g4
    have hf : f = f' := by
      rcases Int.lt_trichotomy f f' with a | a | a
      · have := hh f h1
        rw [lk, if_pos (by simp only; omega), lk, if_neg (by simp only; omega), lk_before g4.up (by omega)] at this
        cases this
      · exact a
      · have := hh f' g1
        rw [lk, if_neg (by simp only; omega), lk_before h4.up (by omega), lk, if_pos (by simp only; omega)] at this
        cases this
    subst hf
    have hv : v = v' := by
      have := hh f h1
      rw [lk, if_pos (by simp only; omega), lk, if_pos (by simp only; omega)] at this
      injection this
    subst hv
    have key : ∀ {r : List (Seg α)} {e e' E : Int}, CE e (some v) r E → e < e' → lk r e ≠ some v := by
      intro r e e' E hc hlt hk
      cases r with
      | nil => cases hk
      | cons z r =>
        obtain ⟨c1, c2, c3, c4⟩ := hc
        by_cases hz : z.1 = e
        · rw [lk, if_pos (by omega)] at hk
          exact c3 ⟨hz, hk.symm⟩
        · rw [lk, if_neg (by omega), lk_before c4.up (by omega)] at hk
          cases hk
    have he : e = e' := by
      rcases Int.lt_trichotomy e e' with a | a | a
      · have := hh e (by omega)
        rw [lk, if_neg (by simp only; omega), lk, if_pos (by simp only; omega)] at this
        exact (key h4 a this).elim
      · exact a
      · have := hh e' (by omega)
        rw [lk, if_pos (by simp only; omega), lk, if_neg (by simp only; omega)] at this
        exact (key g4 a this.symm).elim
    subst he
    have hr : r = r' := canon_eq h4 g4 fun t ht => by
      have := hh t (by omega)
      rw [lk, if_neg (by simp only; omega), lk, if_neg (by simp only; omega)] at this
      exact this
    rw [hr]

section
variable [DecidableEq α]
/-- One more behind; it is one with the last one that it touches and that has its value. -/
def addL : List (Seg α) → Seg α → List (Seg α)
  | [], x => [x]
  | [y], x => if y.2.1 = x.1 ∧ y.2.2 = x.2.2 then [(y.1, x.2.1, y.2.2)] else [y, x]
  | y :: z :: r, x => y :: addL (z :: r) x

theorem addL_ne : ∀ (l : List (Seg α)) (x : Seg α), addL l x ≠ []
  | [], x => by simp [addL]
  | [y], x => by unfold addL; split <;> simp
  | _ :: _ :: _, _ => by simp [addL]

theorem addL_length : ∀ (l : List (Seg α)) (x : Seg α), l.length ≤ (addL l x).length ∧ (addL l x).length ≤ l.length + 1
  | [], x => by simp [addL]
  | [y], x => by unfold addL; split <;> simp
  | _ :: z :: r, x => by have := addL_length (z :: r) x; simp only [addL, List.length_cons] at this ⊢; omega

theorem addL_spec : ∀ (l : List (Seg α)) (x : Seg α) {lo : Int} {pv : Option α}, CE lo pv l x.1 → x.1 < x.2.1 → (l = [] → ¬ (x.1 = lo ∧ pv = some x.2.2)) →
    CE lo pv (addL l x) x.2.1 ∧ ∀ t, lk (addL l x) t = if x.1 ≤ t ∧ t < x.2.1 then some x.2.2 else lk l t
  | [], x, lo, pv, h, hx, hn => ⟨⟨h, hx, hn rfl, Int.le_refl _⟩, fun t => rfl⟩
  | [y], x, lo, pv, h, hx, _ => by
    obtain ⟨h1, h2, h3, h4⟩ := h
    unfold addL
    split
    · rename_i hc
      refine ⟨⟨h1, by simp only; omega, h3, Int.le_refl _⟩, fun t => ?_⟩
      simp only [lk]
      rw [← hc.2]
      have := hc.1
      by_cases a : x.1 ≤ t ∧ t < x.2.1
      · rw [if_pos (by omega), if_pos a]
      · rw [if_neg a]
        by_cases b : y.1 ≤ t ∧ t < y.2.1
        · rw [if_pos (by omega), if_pos b]
        · rw [if_neg (by omega), if_neg b]
    · rename_i hc
      have h4' : y.2.1 ≤ x.1 := h4
      refine ⟨⟨h1, h2, h3, h4', hx, fun hh => hc ⟨hh.1.symm, by injection hh.2⟩, Int.le_refl _⟩, fun t => ?_⟩
      simp only [lk]
      by_cases a : x.1 ≤ t ∧ t < x.2.1
      · rw [if_neg (by omega), if_pos a, if_pos a]
      · rw [if_neg a, if_neg a]
  | y :: z :: r, x, lo, pv, h, hx, _ => by
    obtain ⟨h1, h2, h3, h4⟩ := h
    obtain ⟨g1, g2⟩ := addL_spec (z :: r) x h4 hx (by simp)
    refine ⟨⟨h1, h2, h3, g1⟩, fun t => ?_⟩
    have hle := h4.le
    show lk (y :: addL (z :: r) x) t = if _ then _ else lk (y :: z :: r) t
    rw [lk, g2 t]
    by_cases a : x.1 ≤ t ∧ t < x.2.1
    · rw [if_neg (by omega), if_pos a, if_pos a]
    · rw [if_neg a, if_neg a]; rfl

def joinStep (nn : α → Bool) (out : List (Seg α)) (x : Seg α) : List (Seg α) := if nn x.2.2 then out else addL out x
def joins (nn : α → Bool) (out : List (Seg α)) (S : List (Seg α)) : List (Seg α) := S.foldl (joinStep nn) out

theorem joinStep_length (nn : α → Bool) (out : List (Seg α)) (x : Seg α) : out.length ≤ (joinStep nn out x).length := by
  unfold joinStep
  split
  · exact Nat.le_refl _
  · exact (addL_length out x).1
theorem joins_length (nn : α → Bool) : ∀ (S out : List (Seg α)), out.length ≤ (joins nn out S).length
  | [], _ => Nat.le_refl _
  | x :: S, out => Nat.le_trans (joinStep_length nn out x) (joins_length nn S _)

theorem joins_spec (nn : α → Bool) : ∀ (S out : List (Seg α)) {lo E : Int}, CE lo none out E → Up E S →
    (∃ E', CE lo none (joins nn out S) E') ∧ ∀ t, lk (joins nn out S) t = match lk S t with | some v => (if nn v then lk out t else some v) | none => lk out t
  | [], out, lo, E, h, _ => ⟨⟨E, h⟩, fun t => rfl⟩
  | x :: S, out, lo, E, h, hU => by
    obtain ⟨u1, u2, u3⟩ := hU
    have hstep : (∃ E1, CE lo none (joinStep nn out x) E1 ∧ E1 ≤ x.2.1) ∧ ∀ t, lk (joinStep nn out x) t = if (x.1 ≤ t ∧ t < x.2.1) ∧ nn x.2.2 = false then some x.2.2 else lk out t := by
      unfold joinStep
      by_cases hn : nn x.2.2 = true
      · rw [if_pos hn]
        exact ⟨⟨E, h, by omega⟩, fun t => by simp [hn]⟩
      · rw [if_neg hn]
        obtain ⟨a1, a2⟩ := addL_spec out x (h.mono u1) u2 (by simp)
        refine ⟨⟨_, a1, Int.le_refl _⟩, fun t => ?_⟩
        rw [a2 t]
        simp [Bool.eq_false_iff.2 hn]
    obtain ⟨⟨E1, c1, c2⟩, c3⟩ := hstep
    obtain ⟨d1, d2⟩ := joins_spec nn S (joinStep nn out x) c1 (u3.from_ c2)
    refine ⟨d1, fun t => ?_⟩
    show lk (joins nn (joinStep nn out x) S) t = _
    rw [d2 t, c3 t]
    rw [lk]
    by_cases hi : x.1 ≤ t ∧ t < x.2.1
    · rw [if_pos hi, lk_before u3 (by omega)]
      cases hn : nn x.2.2 <;> simp [hi, hn]
    · rw [if_neg hi]
      cases lk S t with
      | none => simp [hi]
      | some v => simp [hi]

/-- What is joined is canonical, and has what the segments have. -/
theorem joins_nil (nn : α → Bool) (S : List (Seg α)) {lo : Int} (h : Up lo S) :
    (∃ E, CE lo none (joins nn [] S) E) ∧ ∀ t, lk (joins nn [] S) t = (lk S t).bind fun v => if nn v then none else some v := by
  obtain ⟨a, b⟩ := joins_spec nn S [] (show CE lo none [] lo from Int.le_refl _) h
  refine ⟨a, fun t => ?_⟩
  rw [b t]
  cases lk S t <;> rfl

end

/-! Times that rise, and segments between them. -/

def Inc : List Int → Prop
  | [] => True
  | [_] => True
  | a :: b :: r => a < b ∧ Inc (b :: r)

theorem Inc.tail {a : Int} {r : List Int} (h : Inc (a :: r)) : Inc r := by
  cases r with
  | nil => trivial
  | cons b r => exact h.2
theorem Inc.lt : ∀ {a : Int} {r : List Int}, Inc (a :: r) → ∀ b ∈ r, a < b
  | _, [], _, _, hb => by cases hb
  | a, c :: r, h, b, hb => by
    rcases List.mem_cons.1 hb with rfl | hb
    · exact h.1
    · have := h.2.lt b hb
      have := h.1
      omega

def segs (g : Int → Int → α) : List Int → List (Seg α)
  | a :: b :: r => (a, b, g a b) :: segs g (b :: r)
  | _ => []

theorem segs_up (g : Int → Int → α) : ∀ {a : Int} {r : List Int}, Inc (a :: r) → Up a (segs g (a :: r))
  | _, [], _ => trivial
  | _, _ :: _, h => ⟨Int.le_refl _, h.1, segs_up g h.2⟩

theorem segs_lk (g : Int → Int → α) (G : Int → α) : ∀ {b : List Int}, Inc b → (∀ a c t, a ∈ b → c ∈ b → (∀ x ∈ b, ¬ (a < x ∧ x < c)) → a < c → a ≤ t → t < c → g a c = G t) →
    ∀ t, lk (segs g b) t = if (∃ a ∈ b, a ≤ t) ∧ (∃ c ∈ b, t < c) then some (G t) else none
  | [], _, _, t => by rw [if_neg (by simp)]; rfl
  | [a], _, _, t => by rw [if_neg (by rintro ⟨⟨x, hx, h1⟩, ⟨y, hy, h2⟩⟩; simp at hx hy; omega)]; rfl
  | a :: b :: r, hI, hg, t => by
    show lk ((a, b, g a b) :: segs g (b :: r)) t = _
    have hlt := hI.lt
    have ih := segs_lk g G hI.2 (fun x y s hx hy hn h1 h2 h3 => hg x y s (List.mem_cons_of_mem _ hx) (List.mem_cons_of_mem _ hy) (fun z hz => by
      rcases List.mem_cons.1 hz with rfl | hz
      · have := hlt x hx; omega
      · exact hn z hz) h1 h2 h3) t
    rw [lk]
    by_cases hi : a ≤ t ∧ t < b
    · rw [if_pos hi, if_pos ⟨⟨a, List.mem_cons_self, hi.1⟩, ⟨b, by simp, hi.2⟩⟩]
      simp only
      rw [hg a b t List.mem_cons_self (by simp) (fun x hx => ?_) hI.1 hi.1 hi.2]
      rcases List.mem_cons.1 hx with rfl | hx
      · omega
      · rcases List.mem_cons.1 hx with rfl | hx
        · omega
        · have := hI.2.lt x hx; omega
    · rw [if_neg hi, ih]
      by_cases h1 : t < a
      · rw [if_neg, if_neg]
        · rintro ⟨⟨x, hx, hxt⟩, _⟩
          rcases List.mem_cons.1 hx with rfl | hx
          · omega
          · have := hlt x hx; omega
        · rintro ⟨⟨x, hx, hxt⟩, _⟩
          have := hlt x hx; omega
      · have hbt : b ≤ t := by omega
        have hab := hI.1
        congr 1
        apply propext
        constructor
        · rintro ⟨_, ⟨c, hc, hct⟩⟩
          exact ⟨⟨a, List.mem_cons_self, by omega⟩, ⟨c, List.mem_cons_of_mem _ hc, hct⟩⟩
        · rintro ⟨_, ⟨c, hc, hct⟩⟩
          rcases List.mem_cons.1 hc with rfl | hc
          · omega
          · exact ⟨⟨b, List.mem_cons_self, hbt⟩, ⟨c, hc, hct⟩⟩

/-- Times with one more. -/
def insL : List Int → Int → List Int
  | [], n => [n]
  | a :: r, n => if n ≤ a then n :: (a :: r).filter (fun x => decide (x ≠ n)) else a :: insL r n

theorem insL_mem : ∀ (l : List Int) (n x : Int), x ∈ insL l n ↔ x = n ∨ x ∈ l
  | [], n, x => by simp [insL]
  | a :: r, n, x => by
    unfold insL
    split
    · simp only [List.mem_cons, List.mem_filter, decide_eq_true_eq]
      constructor
      · rintro (h | ⟨h, _⟩)
        · exact .inl h
        · exact .inr h
      · rintro (h | h)
        · exact .inl h
        · by_cases e : x = n
          · exact .inl e
          · exact .inr ⟨h, e⟩
    · rw [List.mem_cons, insL_mem r n x, List.mem_cons]
      constructor
      · rintro (h | h | h)
        · exact .inr (.inl h)
        · exact .inl h
        · exact .inr (.inr h)
      · rintro (h | h | h)
        · exact .inr (.inl h)
        · exact .inl h
        · exact .inr (.inr h)

theorem inc_cons {a : Int} {r : List Int} (h : Inc r) (hl : ∀ b ∈ r, a < b) : Inc (a :: r) := by
  cases r with
  | nil => trivial
  | cons b r => exact ⟨hl b List.mem_cons_self, h⟩
theorem inc_filter (p : Int → Bool) : ∀ {l : List Int}, Inc l → Inc (l.filter p)
  | [], _ => by simp [Inc]
  | a :: r, h => by
    have ih := inc_filter p h.tail
    rw [List.filter_cons]
    split
    · exact inc_cons ih fun b hb => h.lt b (List.mem_filter.1 hb).1
    · exact ih
theorem insL_inc : ∀ {l : List Int} (n : Int), Inc l → Inc (insL l n)
  | [], n, _ => trivial
  | a :: r, n, h => by
    unfold insL
    split
    · rename_i hle
      refine inc_cons (inc_filter _ h) fun b hb => ?_
      obtain ⟨hb, hne⟩ := List.mem_filter.1 hb
      have hne : b ≠ n := by simpa using hne
      rcases List.mem_cons.1 hb with rfl | hb
      · omega
      · have := h.lt b hb; omega
    · rename_i hle
      refine inc_cons (insL_inc n h.tail) fun b hb => ?_
      rcases (insL_mem r n b).1 hb with rfl | hb
      · omega
      · exact h.lt b hb

def boundsL {β : Type} (more : List Int) (l : List (Seg β)) : List Int := l.foldl (fun out x => insL (insL out x.1) x.2.1) more
theorem boundsL_inc {β : Type} : ∀ (l : List (Seg β)) {more : List Int}, Inc more → Inc (boundsL more l)
  | [], _, h => h
  | _ :: r, _, h => boundsL_inc r (insL_inc _ (insL_inc _ h))
theorem boundsL_mem {β : Type} : ∀ (l : List (Seg β)) (more : List Int) (t : Int), t ∈ boundsL more l ↔ t ∈ more ∨ ∃ x ∈ l, t = x.1 ∨ t = x.2.1
  | [], more, t => by simp [boundsL]
  | x :: r, more, t => by
    show t ∈ boundsL (insL (insL more x.1) x.2.1) r ↔ _
    rw [boundsL_mem r, insL_mem, insL_mem]
    constructor
    · rintro ((h | h | h) | ⟨y, hy, h⟩)
      · exact .inr ⟨x, List.mem_cons_self, .inr h⟩
      · exact .inr ⟨x, List.mem_cons_self, .inl h⟩
      · exact .inl h
      · exact .inr ⟨y, List.mem_cons_of_mem _ hy, h⟩
    · rintro (h | ⟨y, hy, h⟩)
      · exact .inl (.inr (.inr h))
      · rcases List.mem_cons.1 hy with rfl | hy
        · rcases h with h | h
          · exact .inl (.inr (.inl h))
          · exact .inl (.inl h)
        · exact .inr ⟨y, hy, h⟩

/-- Between two neighbours of times that hold all bounds, what is had stays. -/
theorem lk_const : ∀ {l : List (Seg α)} {b : List Int} {a c t : Int}, (∀ x ∈ l, x.1 ∈ b ∧ x.2.1 ∈ b) → (∀ x ∈ b, ¬ (a < x ∧ x < c)) → a ≤ t → t < c → lk l a = lk l t
  | [], _, _, _, _, _, _, _, _ => rfl
  | x :: r, b, a, c, t, hb, hn, h1, h2 => by
    have hx := hb x List.mem_cons_self
    have n1 := hn _ hx.1
    have n2 := hn _ hx.2
    have ih := lk_const (l := r) (fun y hy => hb y (List.mem_cons_of_mem _ hy)) hn h1 h2
    rw [lk, lk, ih]
    by_cases hi : x.1 ≤ a ∧ a < x.2.1
    · rw [if_pos hi, if_pos (by omega)]
    · rw [if_neg hi, if_neg (by omega)]

theorem lk_bound : ∀ {l : List (Seg α)} {t : Int} {v : α}, lk l t = some v → ∃ x ∈ l, x.1 ≤ t ∧ t < x.2.1 ∧ x.2.2 = v
  | [], _, _, h => by cases h
  | x :: r, t, v, h => by
    rw [lk] at h
    split at h
    · rename_i hi
      exact ⟨x, List.mem_cons_self, hi.1, hi.2, by injection h⟩
    · obtain ⟨y, hy, h'⟩ := lk_bound h
      exact ⟨y, List.mem_cons_of_mem _ hy, h'⟩
end
end Go.Proofs.YtmnknijjjicdbaaDoor.L2
