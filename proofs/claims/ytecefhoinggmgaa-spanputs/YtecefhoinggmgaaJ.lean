import Derived.Test.YtecefhoinggmgaaI
namespace Go.Proofs.Ytecefhoinggmgaa
open Go.RowKit

/-- Block p holds the number n. -/
def Nd (_B p : Nat) (n : Int) (w : World) : Prop := w.heap[p]? = some (.cells #[.int .i64 n] 3 (0, 0))
def Fp (B p : Nat) (w w' : World) : Prop := Below B w w' ∧ Lib.OthersKept 5 (some p) w w'

theorem Own.iter {B : Nat} {v : Value} {l : List UInt8} {w : World} (ho : Own B v l w) {k : Nat} {s : ByteArray} {pos : Nat} (hk : w.heap[k]? = some (.stringIter s pos)) (q : Nat) : Own B v l (w.iterAt k s q) := by
  refine ⟨ho.1, ?_⟩
  rcases ho.2 with hn | ⟨g, cap, cur, e, h1, hg, h2⟩
  · exact .inl hn
  · have hgk : g ≠ k := fun e => by subst e; rw [hk] at hg; cases hg
    exact .inr ⟨g, cap, cur, e, h1, by rw [Lib.iterAt_other _ _ _ _ _ hgk]; exact hg, h2⟩
theorem Nd.iter {B p : Nat} {n : Int} {w : World} (h : Nd B p n w) {k : Nat} {s : ByteArray} {pos : Nat} (hk : w.heap[k]? = some (.stringIter s pos)) (q : Nat) : Nd B p n (w.iterAt k s q) := by
  unfold Nd at h ⊢
  have hbk : p ≠ k := fun e => by subst e; rw [hk] at h; cases h
  rw [Lib.iterAt_other _ _ _ _ _ hbk]; exact h
theorem Nd.alloc {B p : Nat} {n : Int} {w : World} (h : Nd B p n w) (o : Obj) : Nd B p n (w.alloc o) := by
  unfold Nd at h ⊢
  rw [Below.heap_alloc _ _ _ (Array.getElem?_eq_some_iff.1 h).1]; exact h
theorem Nd.lt {B p : Nat} {n : Int} {w : World} (h : Nd B p n w) : p < w.heap.size := (Array.getElem?_eq_some_iff.1 h).1

def quoteStep (l : List UInt8) (c : Int) : Option (List UInt8) := some (l ++ pointText c)
def countStep (n : Int) (_ : Int) : Option Int := some (n + 1)
def QOk (pos : Nat) (l : List UInt8) : Prop := l.length ≤ 1 + 4 * pos
def NOk (pos : Nat) (n : Int) : Prop := 0 ≤ n ∧ n ≤ pos

theorem pointText_len (c : Int) : (pointText c).length ≤ 4 := by
  have := encode_len c
  unfold pointText
  repeat' split
  all_goals first | (simp; done) | exact this

/-- What a closure that is called once a code point comes to. -/
def Did {σ : Type} (Inv : σ → World → Prop) (Fr' : World → World → Prop) (w : World) (st : σ) (e : Ending) (w' : World) : Prop := e = .returned (.tuple #[]) ∧ Inv st w' ∧ Fr' w w'

set_option maxHeartbeats 400000 in
theorem count34 (B p : Nat) (n : Int) (at' c : Int) (w : World) (h : Nd B p n w) (hB : B ≤ p) (h0 : 0 ≤ n) (h1 : n < 9223372036854775807) :
    Calls Try.prog 58 #[.int .i64 at', .int .i32 c, .pointer (some ⟨p, 0, none⟩)] w (Did (Nd B p) (Fp B p) w (n + 1)) := by
  have hc0 : w.cell? ⟨p, 0, none⟩ = some (.int .i64 n) := by rw [cell_of_row w p _ _ 3 (0, 0) h]; rfl
  have hf0 : w.frozen? ⟨p, 0, none⟩ = false := by unfold Nd at h; simp [World.frozen?, h]
  have HB := Lib.hid h; clear h
  go_enter Try.func58, Try.ntmps58
  go_wp2
  go_end0
  exact ⟨rfl, heap_setCell_same w p 0 _ 3 _ HB.out, (Below.refl B w).setCell hB _, (Lib.OthersKept.refl 5 (some p) w).setCell _ rfl _⟩

def WalkS {σ : Type} (Inv : σ → World → Prop) (Okk : Nat → σ → Prop) (B len : Nat) (w : World) (o : Nat ⊕ σ) (e : Ending) (w' : World) : Prop :=
  match o with
  | .inr st => e = .returned (.tuple #[]) ∧ Inv st w' ∧ (∃ q, q < len + 4 ∧ Okk q st) ∧ Below B w w'
  | .inl p => e = .panicked [{ v := .iface 82 (.int .i64 p), recovered := false }] ∧ (∃ st, Inv st w') ∧ Below B w w'

/-- What holds at the head of walk's loop; k: the iterator's block. -/
def LoopS {σ : Type} (step : σ → Int → Option σ) (Inv : σ → World → Prop) (Okk : Nat → σ → Prop) (B : Nat) (s : ByteArray) (k : Nat) (w : World) (res : Nat ⊕ σ) (w' : World) : Prop :=
  ∃ (pos f : Nat) (st : σ), w'.heap[k]? = some (.stringIter s pos) ∧ Inv st w' ∧ Okk pos st ∧ pos < s.size + 4 ∧ Below B w w' ∧ runL step f pos (s.data.toList.drop pos) st = res ∧ s.size ≤ pos + f

theorem decL_width4 (l : List UInt8) : (decL l).2 ≤ 4 := by
  unfold decL Utf8.decode
  simp only
  repeat' split
  all_goals simp

set_option maxHeartbeats 400000 in
theorem walkN (s : ByteArray) (B p : Nat) (st0 : Int) (w : World) (hs : s.size ≤ 9223372036854775000) (hB : B ≤ p) (hr : Nd B p st0 w) (hk : NOk 0 st0) :
    Calls Try.prog 57 #[.string s, .func (.func 58) #[] #[.pointer (some ⟨p, 0, none⟩)]] w (WalkS (Nd B p) NOk B s.size w (runL countStep s.size 0 s.data.toList st0)) := by
  have hbl : p < w.heap.size := hr.lt
  have hr1 : Nd B p st0 (w.iter s 0) := hr.alloc (.stringIter s 0)
  have hst : LoopS countStep (Nd B p) NOk B s w.heap.size w (runL countStep s.size 0 s.data.toList st0) (w.iter s 0) :=
    ⟨0, s.size, st0, World.iter_heap w s 0, hr1, hk, by omega, (Below.refl _ _).alloc (by omega) _, by simp, by omega⟩
  generalize runL countStep s.size 0 s.data.toList st0 = res at hst ⊢
  have HST := Lib.hid hst; clear hst
  clear hr hr1 hk
  go_enter Try.func57, Try.ntmps57
  go_wp2
  go_loopw [4] (fun _ w' => LoopS countStep (Nd B p) NOk B s w.heap.size w res w') (fun _ w' => s.size - w'.iterPos w.heap.size)
  case atStart => exact HST.out
  case round =>
    obtain ⟨pos, f, st, hit, hrd, hok, hpl, hbe, hrun, hf⟩ := hrel
    have HRUN := Lib.hid hrun; clear hrun
    have HIT := Lib.hid hit; clear hit
    by_cases hp : pos < s.size
    · obtain ⟨c, d, hcd⟩ : ∃ c d, decL (s.data.toList.drop pos) = (c, d) := ⟨_, _, rfl⟩
      have hd1 : 1 ≤ d := by have := decL_width (s.data.toList.drop pos); rw [hcd] at this; exact this
      have hd4 : d ≤ 4 := by have := decL_width4 (s.data.toList.drop pos); rw [hcd] at this; exact this
      obtain ⟨w1, hw1⟩ : ∃ w1, wr.iterAt w.heap.size s (pos + d) = w1 := ⟨_, rfl⟩
      have hnx : ∀ ty, (Instr.next (.pointer (some ⟨w.heap.size, 0, none⟩)) true ty).run Try.prog wr = .ok (.tuple #[.bool true, .int .i64 pos, .int .i32 c]) w1 := fun ty => by
        rw [Lib.run_next_any_at wr w.heap.size s pos ty HIT.out hp, decode_drop, hcd, ← hw1]
      have hit1 : w1.heap[w.heap.size]? = some (.stringIter s (pos + d)) := by rw [← hw1]; exact Lib.iterAt_heap wr _ s pos _ HIT.out
      have hrd1 : Nd B p st w1 := by rw [← hw1]; exact hrd.iter HIT.out _
      have hbe1 : Below B w w1 := by rw [← hw1]; exact Lib.below_iterAt hbe (by omega) s _
      have hmeas : s.size - (pos + d) < s.size - wr.iterPos w.heap.size := by
        have : wr.iterPos w.heap.size = pos := by simp [World.iterPos, HIT.out]
        rw [this]; omega
      have HIT1 := Lib.hid hit1; clear hit1 hw1 hrd hbe
      have hsw := sw46 (s.extract pos s.size) w1
      rw [swB_eq] at hsw
      have hbad : badL (s.data.toList.drop pos) = ((c : Int) == 65533 && !((s.data.toList.drop pos).take 3 == [239, 191, 189])) := by
        unfold badL; rw [hcd]; simp only; congr 1; rw [Bool.eq_iff_iff]; simp; omega
      have hrun := HRUN.out
      cases f with
      | zero => omega
      | succ f =>
      unfold runL at hrun
      rw [if_neg (drop_ne hp), hbad, hcd, List.drop_drop] at hrun
      simp only [countStep] at hrun
      have hstep := count34 B p st pos c w1 hrd1 hB (by unfold NOk at hok; omega) (by unfold NOk at hok; omega)
      clear hbad HRUN
      generalize ((s.data.toList.drop pos).take 3 == [239, 191, 189]) = sw at hsw hrun
      have HCD := Lib.hid hcd; clear hcd
      have HSW := Lib.hid hsw; clear hsw
      have HSTEP := Lib.hid hstep; clear hstep
      have fin : ∀ w2, Nd B p (st + 1) w2 → Fp B p w1 w2 → runL countStep f (pos + d) (s.data.toList.drop (pos + d)) (st + 1) = res → LoopS countStep (Nd B p) NOk B s w.heap.size w res w2 ∧ s.size - w2.iterPos w.heap.size < s.size - wr.iterPos w.heap.size := by
        intro w2 h2 h3 h4
        have hi2 : w2.heap[w.heap.size]? = some (.stringIter s (pos + d)) := h3.2 _ _ HIT1.out (by simp; omega) (by simp)
        have hpos : w2.iterPos w.heap.size = pos + d := by simp [World.iterPos, hi2]
        exact ⟨⟨pos + d, f, _, hi2, h2, (by unfold NOk at hok ⊢; omega), by omega, hbe1.trans h3.1, h4, by omega⟩, by rw [hpos]; exact hmeas⟩
      have FIN := Lib.hid fin; clear fin
      cases hb1 : ((c : Int) == 65533) with
      | false =>
        rw [hb1] at hrun
        simp only [Bool.false_and, Bool.false_eq_true, if_false] at hrun
        have HR := Lib.hid hrun; clear hrun
        go_wp2_with (first | (go_at_call 58; go_must (refine HSTEP.out.mono ?_); rintro e w' ⟨rfl, hr', hf'⟩))
        exact FIN.out _ hr' hf' HR.out
      | true =>
        rw [hb1] at hrun
        cases sw with
        | true =>
          simp only [Bool.not_true, Bool.and_false, Bool.false_eq_true, if_false] at hrun
          have HR := Lib.hid hrun; clear hrun
          go_wp2_with (first | (go_at_call 60; go_must (refine HSW.out.mono ?_); rintro e w' ⟨rfl, rfl⟩) | (go_at_call 58; go_must (refine HSTEP.out.mono ?_); rintro e w' ⟨rfl, hr', hf'⟩))
          exact FIN.out _ hr' hf' HR.out
        | false =>
          simp only [Bool.not_false, Bool.and_true, if_true] at hrun
          subst hrun
          go_wp2_with (first | (go_at_call 60; go_must (refine HSW.out.mono ?_); rintro e w' ⟨rfl, rfl⟩))
          exact ⟨rfl, rfl, ⟨_, hrd1⟩, hbe1⟩
    · have hnx : ∀ ty, (Instr.next (.pointer (some ⟨w.heap.size, 0, none⟩)) true ty).run Try.prog wr = _ := fun ty => Lib.run_next_end_at wr w.heap.size s pos ty HIT.out hp
      go_wp2
      go_end0
      have hres := HRUN.out
      rw [drop_nil hp, runL_end] at hres
      rw [← hres]
      exact ⟨rfl, hrd, ⟨pos, hpl, hok⟩, hbe⟩
end Go.Proofs.Ytecefhoinggmgaa
