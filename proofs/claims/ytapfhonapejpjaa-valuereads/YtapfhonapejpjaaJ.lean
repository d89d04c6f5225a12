import Derived.Test.YtapfhonapejpjaaI
namespace Go.Proofs.Ytapfhonapejpjaa
open Go.RowKit

/-- Block p holds a slice of bytes of the call's own, from block B on, that reads l. -/
def Qd (B p : Nat) (l : List UInt8) (w : World) : Prop := ∃ v, w.heap[p]? = some (.cells #[v] 46 (0, 0)) ∧ Own B v l w
/-- Block p holds the number n. -/
def Nd (_B p : Nat) (n : Int) (w : World) : Prop := w.heap[p]? = some (.cells #[.int .i64 n] 3 (0, 0))
def Fp (B p : Nat) (w w' : World) : Prop := Below B w w' ∧ Lib.OthersKept 5 (some p) w w'

theorem Own.iter {B : Nat} {v : Value} {l : List UInt8} {w : World} (ho : Own B v l w) {k : Nat} {s : ByteArray} {pos : Nat} (hk : w.heap[k]? = some (.stringIter s pos)) (q : Nat) : Own B v l (w.iterAt k s q) := by
  refine ⟨ho.1, ?_⟩
  rcases ho.2 with hn | ⟨g, cap, cur, e, h1, hg, h2⟩
  · exact .inl hn
  · have hgk : g ≠ k := fun e => by subst e; rw [hk] at hg; cases hg
    exact .inr ⟨g, cap, cur, e, h1, by rw [Lib.iterAt_other _ _ _ _ _ hgk]; exact hg, h2⟩
theorem Qd.iter {B p : Nat} {l : List UInt8} {w : World} (h : Qd B p l w) {k : Nat} {s : ByteArray} {pos : Nat} (hk : w.heap[k]? = some (.stringIter s pos)) (q : Nat) : Qd B p l (w.iterAt k s q) := by
  obtain ⟨v, hb, ho⟩ := h
  have hbk : p ≠ k := fun e => by subst e; rw [hk] at hb; cases hb
  exact ⟨v, by rw [Lib.iterAt_other _ _ _ _ _ hbk]; exact hb, ho.iter hk q⟩
theorem Qd.alloc {B p : Nat} {l : List UInt8} {w : World} (h : Qd B p l w) (o : Obj) : Qd B p l (w.alloc o) := by
  obtain ⟨v, hb, ho⟩ := h
  exact ⟨v, by rw [Below.heap_alloc _ _ _ (Array.getElem?_eq_some_iff.1 hb).1]; exact hb, ho.alloc o⟩
theorem Nd.iter {B p : Nat} {n : Int} {w : World} (h : Nd B p n w) {k : Nat} {s : ByteArray} {pos : Nat} (hk : w.heap[k]? = some (.stringIter s pos)) (q : Nat) : Nd B p n (w.iterAt k s q) := by
  unfold Nd at h ⊢
  have hbk : p ≠ k := fun e => by subst e; rw [hk] at h; cases h
  rw [Lib.iterAt_other _ _ _ _ _ hbk]; exact h
theorem Nd.alloc {B p : Nat} {n : Int} {w : World} (h : Nd B p n w) (o : Obj) : Nd B p n (w.alloc o) := by
  unfold Nd at h ⊢
  rw [Below.heap_alloc _ _ _ (Array.getElem?_eq_some_iff.1 h).1]; exact h
theorem Qd.lt {B p : Nat} {l : List UInt8} {w : World} (h : Qd B p l w) : p < w.heap.size := by
  obtain ⟨v, hb, _⟩ := h; exact (Array.getElem?_eq_some_iff.1 hb).1
theorem Nd.lt {B p : Nat} {n : Int} {w : World} (h : Nd B p n w) : p < w.heap.size := (Array.getElem?_eq_some_iff.1 h).1

def quoteStep (l : List UInt8) (c : Int) : Option (List UInt8) := some (l ++ pointText c)
def countStep (n : Int) (_ : Int) : Option Int := some (n + 1)
def QOk (pos : Nat) (l : List UInt8) : Prop := l.length ≤ 1 + 4 * pos
def NOk (pos : Nat) (n : Int) : Prop := 0 ≤ n ∧ n ≤ pos

theorem pointText_len (c : Int) : (pointText c).length ≤ 4 := by
  have := encode_len c
  unfold pointText
  repeat' split
  all_goals first | (simp; done) | exact this

/-- What a closure that is called once a code point comes to. -/
def Did {σ : Type} (Inv : σ → World → Prop) (Fr' : World → World → Prop) (w : World) (st : σ) (e : Ending) (w' : World) : Prop := e = .returned (.tuple #[]) ∧ Inv st w' ∧ Fr' w w'

set_option maxHeartbeats 400000 in
theorem quote28 (B p : Nat) (l : List UInt8) (at' c : Int) (w : World) (h : Qd B p l w) (hB : B ≤ p) (h0 : 0 ≤ c) (hl : l.length ≤ 1000000) :
    Calls Try.prog 28 #[.int .i64 at', .int .i32 c, .pointer (some ⟨p, 0, none⟩)] w (Did (Qd B p) (Fp B p) w (l ++ pointText c)) := by
  have hlt := h.lt
  obtain ⟨v, hb, ho⟩ := h
  have hc0 : w.cell? ⟨p, 0, none⟩ = some v := by rw [cell_of_row w p _ _ 46 (0, 0) hb]; rfl
  have hap := appendPoint29 c B v l w ho (by omega) h0 hl
  have hsl := ownsRow_slice ho
  obtain ⟨va, vc, rfl⟩ := hsl
  have HB := Lib.hid hb; clear hb
  have HA := Lib.hid hap; clear hap
  have HO := Lib.hid ho; clear ho
  go_enter Try.func28, Try.ntmps28
  go_wp2_with fail
  refine HA.out.mono ?_
  rintro e w1 ⟨v1, rfl, ho1, hg1⟩
  have hb1 : w1.heap[p]? = some (.cells #[.slice va l.length vc] 46 (0, 0)) := hg1.2 p _ HB.out (by simp) (by simp)
  have hc1 : w1.cell? ⟨p, 0, none⟩ = some (.slice va l.length vc) := by rw [cell_of_row w1 p _ _ 46 (0, 0) hb1]; rfl
  have hf1 : w1.frozen? ⟨p, 0, none⟩ = false := by simp [World.frozen?, hb1]
  obtain ⟨va1, vc1, hv⟩ := ownsRow_slice ho1
  rw [hv] at ho1
  rw [hv]
  clear hv
  have HB1 := Lib.hid hb1; clear hb1
  have HO1 := Lib.hid ho1; clear ho1
  have HG1 := Lib.hid hg1; clear hg1
  go_wp2
  go_end0
  refine ⟨rfl, ⟨_, heap_setCell_same w1 p 0 _ 46 _ HB1.out, ?_⟩, HG1.out.1.setCell hB _, Lib.OthersKept.setCell (b := p) (fun k o h1 _ h3 => HG1.out.2 k o h1 (by simp) h3) ⟨p, 0, none⟩ rfl _⟩
  have hh := HO1.out
  unfold Own at hh ⊢
  rw [List.length_append] at hh ⊢
  refine ⟨hh.1, ?_⟩
  rcases hh.2 with hn | ⟨g, cap, cur, e, h1, hg, h2⟩
  · exact .inl hn
  · have hgk : g ≠ p := fun e => by subst e; rw [HB1.out] at hg; cases hg
    exact .inr ⟨g, cap, cur, e, h1, by rw [Below.heap_setCell _ _ _ _ hgk]; exact hg, h2⟩

set_option maxHeartbeats 400000 in
theorem count34 (B p : Nat) (n : Int) (at' c : Int) (w : World) (h : Nd B p n w) (hB : B ≤ p) (h0 : 0 ≤ n) (h1 : n < 9223372036854775807) :
    Calls Try.prog 34 #[.int .i64 at', .int .i32 c, .pointer (some ⟨p, 0, none⟩)] w (Did (Nd B p) (Fp B p) w (n + 1)) := by
  have hc0 : w.cell? ⟨p, 0, none⟩ = some (.int .i64 n) := by rw [cell_of_row w p _ _ 3 (0, 0) h]; rfl
  have hf0 : w.frozen? ⟨p, 0, none⟩ = false := by unfold Nd at h; simp [World.frozen?, h]
  have HB := Lib.hid h; clear h
  go_enter Try.func34, Try.ntmps34
  go_wp2
  go_end0
  exact ⟨rfl, heap_setCell_same w p 0 _ 3 _ HB.out, (Below.refl B w).setCell hB _, (Lib.OthersKept.refl 5 (some p) w).setCell _ rfl _⟩

def WalkS {σ : Type} (Inv : σ → World → Prop) (Okk : Nat → σ → Prop) (B len : Nat) (w : World) (o : Nat ⊕ σ) (e : Ending) (w' : World) : Prop :=
  match o with
  | .inr st => e = .returned (.tuple #[]) ∧ Inv st w' ∧ (∃ q, q < len + 4 ∧ Okk q st) ∧ Below B w w'
  | .inl p => e = .panicked [{ v := .iface 57 (.int .i64 p), recovered := false }] ∧ (∃ st, Inv st w') ∧ Below B w w'

/-- What holds at the head of walk's loop; k: the iterator's block. -/
def LoopS {σ : Type} (step : σ → Int → Option σ) (Inv : σ → World → Prop) (Okk : Nat → σ → Prop) (B : Nat) (s : ByteArray) (k : Nat) (w : World) (res : Nat ⊕ σ) (w' : World) : Prop :=
  ∃ (pos f : Nat) (st : σ), w'.heap[k]? = some (.stringIter s pos) ∧ Inv st w' ∧ Okk pos st ∧ pos < s.size + 4 ∧ Below B w w' ∧ runL step f pos (s.data.toList.drop pos) st = res ∧ s.size ≤ pos + f

theorem decL_width4 (l : List UInt8) : (decL l).2 ≤ 4 := by
  unfold decL Utf8.decode
  simp only
  repeat' split
  all_goals simp

set_option maxHeartbeats 400000 in
theorem walkQ (s : ByteArray) (B p : Nat) (st0 : List UInt8) (w : World) (hs : s.size ≤ 5000) (hB : B ≤ p) (hr : Qd B p st0 w) (hk : QOk 0 st0) :
    Calls Try.prog 27 #[.string s, .func (.func 28) #[] #[.pointer (some ⟨p, 0, none⟩)]] w (WalkS (Qd B p) QOk B s.size w (runL quoteStep s.size 0 s.data.toList st0)) := by
  have hbl : p < w.heap.size := hr.lt
  have hr1 : Qd B p st0 (w.iter s 0) := hr.alloc (.stringIter s 0)
  have hst : LoopS quoteStep (Qd B p) QOk B s w.heap.size w (runL quoteStep s.size 0 s.data.toList st0) (w.iter s 0) :=
    ⟨0, s.size, st0, World.iter_heap w s 0, hr1, hk, by omega, (Below.refl _ _).alloc (by omega) _, by simp, by omega⟩
  generalize runL quoteStep s.size 0 s.data.toList st0 = res at hst ⊢
  have HST := Lib.hid hst; clear hst
  clear hr hr1 hk
  go_enter Try.func27, Try.ntmps27
  go_wp2
  go_loopw [4] (fun _ w' => LoopS quoteStep (Qd B p) QOk B s w.heap.size w res w') (fun _ w' => s.size - w'.iterPos w.heap.size)
  case atStart => exact HST.out
  case round =>
    obtain ⟨pos, f, st, hit, hrd, hok, hpl, hbe, hrun, hf⟩ := hrel
    have HRUN := Lib.hid hrun; clear hrun
    have HIT := Lib.hid hit; clear hit
    by_cases hp : pos < s.size
    · obtain ⟨c, d, hcd⟩ : ∃ c d, decL (s.data.toList.drop pos) = (c, d) := ⟨_, _, rfl⟩
      have hd1 : 1 ≤ d := by have := decL_width (s.data.toList.drop pos); rw [hcd] at this; exact this
      have hd4 : d ≤ 4 := by have := decL_width4 (s.data.toList.drop pos); rw [hcd] at this; exact this
      obtain ⟨w1, hw1⟩ : ∃ w1, wr.iterAt w.heap.size s (pos + d) = w1 := ⟨_, rfl⟩
      have hnx : ∀ ty, (Instr.next (.pointer (some ⟨w.heap.size, 0, none⟩)) true ty).run Try.prog wr = .ok (.tuple #[.bool true, .int .i64 pos, .int .i32 c]) w1 := fun ty => by
        rw [Lib.run_next_any_at wr w.heap.size s pos ty HIT.out hp, decode_drop, hcd, ← hw1]
      have hit1 : w1.heap[w.heap.size]? = some (.stringIter s (pos + d)) := by rw [← hw1]; exact Lib.iterAt_heap wr _ s pos _ HIT.out
      have hrd1 : Qd B p st w1 := by rw [← hw1]; exact hrd.iter HIT.out _
      have hbe1 : Below B w w1 := by rw [← hw1]; exact Lib.below_iterAt hbe (by omega) s _
      have hmeas : s.size - (pos + d) < s.size - wr.iterPos w.heap.size := by
        have : wr.iterPos w.heap.size = pos := by simp [World.iterPos, HIT.out]
        rw [this]; omega
      have HIT1 := Lib.hid hit1; clear hit1 hw1 hrd hbe
      have hsw := sw46 (s.extract pos s.size) w1
      rw [swB_eq] at hsw
      have hbad : badL (s.data.toList.drop pos) = ((c : Int) == 65533 && !((s.data.toList.drop pos).take 3 == [239, 191, 189])) := by
        unfold badL; rw [hcd]; simp only; congr 1; rw [Bool.eq_iff_iff]; simp; omega
      have hrun := HRUN.out
      cases f with
      | zero => omega
      | succ f =>
      unfold runL at hrun
      rw [if_neg (drop_ne hp), hbad, hcd, List.drop_drop] at hrun
      simp only [quoteStep] at hrun
      have hstep := quote28 B p st pos c w1 hrd1 hB (by omega) (by unfold QOk at hok; omega)
      clear hbad HRUN
      generalize ((s.data.toList.drop pos).take 3 == [239, 191, 189]) = sw at hsw hrun
      have HCD := Lib.hid hcd; clear hcd
      have HSW := Lib.hid hsw; clear hsw
      have HSTEP := Lib.hid hstep; clear hstep
      have fin : ∀ w2, Qd B p (st ++ pointText c) w2 → Fp B p w1 w2 → runL quoteStep f (pos + d) (s.data.toList.drop (pos + d)) (st ++ pointText c) = res → LoopS quoteStep (Qd B p) QOk B s w.heap.size w res w2 ∧ s.size - w2.iterPos w.heap.size < s.size - wr.iterPos w.heap.size := by
        intro w2 h2 h3 h4
        have hi2 : w2.heap[w.heap.size]? = some (.stringIter s (pos + d)) := h3.2 _ _ HIT1.out (by simp; omega) (by simp)
        have hpos : w2.iterPos w.heap.size = pos + d := by simp [World.iterPos, hi2]
        exact ⟨⟨pos + d, f, _, hi2, h2, (by have hpt := pointText_len c; unfold QOk at hok ⊢; rw [List.length_append]; omega), by omega, hbe1.trans h3.1, h4, by omega⟩, by rw [hpos]; exact hmeas⟩
      have FIN := Lib.hid fin; clear fin
      cases hb1 : ((c : Int) == 65533) with
      | false =>
        rw [hb1] at hrun
        simp only [Bool.false_and, Bool.false_eq_true, if_false] at hrun
        have HR := Lib.hid hrun; clear hrun
        go_wp2_with (first | (go_at_call 28; go_must (refine HSTEP.out.mono ?_); rintro e w' ⟨rfl, hr', hf'⟩))
        exact FIN.out _ hr' hf' HR.out
      | true =>
        rw [hb1] at hrun
        cases sw with
        | true =>
          simp only [Bool.not_true, Bool.and_false, Bool.false_eq_true, if_false] at hrun
          have HR := Lib.hid hrun; clear hrun
          go_wp2_with (first | (go_at_call 46; go_must (refine HSW.out.mono ?_); rintro e w' ⟨rfl, rfl⟩) | (go_at_call 28; go_must (refine HSTEP.out.mono ?_); rintro e w' ⟨rfl, hr', hf'⟩))
          exact FIN.out _ hr' hf' HR.out
        | false =>
          simp only [Bool.not_false, Bool.and_true, if_true] at hrun
          subst hrun
          go_wp2_with (first | (go_at_call 46; go_must (refine HSW.out.mono ?_); rintro e w' ⟨rfl, rfl⟩))
          exact ⟨rfl, rfl, ⟨_, hrd1⟩, hbe1⟩
    · have hnx : ∀ ty, (Instr.next (.pointer (some ⟨w.heap.size, 0, none⟩)) true ty).run Try.prog wr = _ := fun ty => Lib.run_next_end_at wr w.heap.size s pos ty HIT.out hp
      go_wp2
      go_end0
      have hres := HRUN.out
      rw [drop_nil hp, runL_end] at hres
      rw [← hres]
      exact ⟨rfl, hrd, ⟨pos, hpl, hok⟩, hbe⟩

set_option maxHeartbeats 400000 in
theorem walkN (s : ByteArray) (B p : Nat) (st0 : Int) (w : World) (hs : s.size ≤ 9223372036854775000) (hB : B ≤ p) (hr : Nd B p st0 w) (hk : NOk 0 st0) :
    Calls Try.prog 27 #[.string s, .func (.func 34) #[] #[.pointer (some ⟨p, 0, none⟩)]] w (WalkS (Nd B p) NOk B s.size w (runL countStep s.size 0 s.data.toList st0)) := by
  have hbl : p < w.heap.size := hr.lt
  have hr1 : Nd B p st0 (w.iter s 0) := hr.alloc (.stringIter s 0)
  have hst : LoopS countStep (Nd B p) NOk B s w.heap.size w (runL countStep s.size 0 s.data.toList st0) (w.iter s 0) :=
    ⟨0, s.size, st0, World.iter_heap w s 0, hr1, hk, by omega, (Below.refl _ _).alloc (by omega) _, by simp, by omega⟩
  generalize runL countStep s.size 0 s.data.toList st0 = res at hst ⊢
  have HST := Lib.hid hst; clear hst
  clear hr hr1 hk
  go_enter Try.func27, Try.ntmps27
  go_wp2
  go_loopw [4] (fun _ w' => LoopS countStep (Nd B p) NOk B s w.heap.size w res w') (fun _ w' => s.size - w'.iterPos w.heap.size)
  case atStart => exact HST.out
  case round =>
    obtain ⟨pos, f, st, hit, hrd, hok, hpl, hbe, hrun, hf⟩ := hrel
    have HRUN := Lib.hid hrun; clear hrun
    have HIT := Lib.hid hit; clear hit
    by_cases hp : pos < s.size
    · obtain ⟨c, d, hcd⟩ : ∃ c d, decL (s.data.toList.drop pos) = (c, d) := ⟨_, _, rfl⟩
      have hd1 : 1 ≤ d := by have := decL_width (s.data.toList.drop pos); rw [hcd] at this; exact this
      have hd4 : d ≤ 4 := by have := decL_width4 (s.data.toList.drop pos); rw [hcd] at this; exact this
      obtain ⟨w1, hw1⟩ : ∃ w1, wr.iterAt w.heap.size s (pos + d) = w1 := ⟨_, rfl⟩
      have hnx : ∀ ty, (Instr.next (.pointer (some ⟨w.heap.size, 0, none⟩)) true ty).run Try.prog wr = .ok (.tuple #[.bool true, .int .i64 pos, .int .i32 c]) w1 := fun ty => by
        rw [Lib.run_next_any_at wr w.heap.size s pos ty HIT.out hp, decode_drop, hcd, ← hw1]
      have hit1 : w1.heap[w.heap.size]? = some (.stringIter s (pos + d)) := by rw [← hw1]; exact Lib.iterAt_heap wr _ s pos _ HIT.out
      have hrd1 : Nd B p st w1 := by rw [← hw1]; exact hrd.iter HIT.out _
      have hbe1 : Below B w w1 := by rw [← hw1]; exact Lib.below_iterAt hbe (by omega) s _
      have hmeas : s.size - (pos + d) < s.size - wr.iterPos w.heap.size := by
        have : wr.iterPos w.heap.size = pos := by simp [World.iterPos, HIT.out]
        rw [this]; omega
      have HIT1 := Lib.hid hit1; clear hit1 hw1 hrd hbe
      have hsw := sw46 (s.extract pos s.size) w1
      rw [swB_eq] at hsw
      have hbad : badL (s.data.toList.drop pos) = ((c : Int) == 65533 && !((s.data.toList.drop pos).take 3 == [239, 191, 189])) := by
        unfold badL; rw [hcd]; simp only; congr 1; rw [Bool.eq_iff_iff]; simp; omega
      have hrun := HRUN.out
      cases f with
      | zero => omega
      | succ f =>
      unfold runL at hrun
      rw [if_neg (drop_ne hp), hbad, hcd, List.drop_drop] at hrun
      simp only [countStep] at hrun
      have hstep := count34 B p st pos c w1 hrd1 hB (by unfold NOk at hok; omega) (by unfold NOk at hok; omega)
      clear hbad HRUN
      generalize ((s.data.toList.drop pos).take 3 == [239, 191, 189]) = sw at hsw hrun
      have HCD := Lib.hid hcd; clear hcd
      have HSW := Lib.hid hsw; clear hsw
      have HSTEP := Lib.hid hstep; clear hstep
      have fin : ∀ w2, Nd B p (st + 1) w2 → Fp B p w1 w2 → runL countStep f (pos + d) (s.data.toList.drop (pos + d)) (st + 1) = res → LoopS countStep (Nd B p) NOk B s w.heap.size w res w2 ∧ s.size - w2.iterPos w.heap.size < s.size - wr.iterPos w.heap.size := by
        intro w2 h2 h3 h4
        have hi2 : w2.heap[w.heap.size]? = some (.stringIter s (pos + d)) := h3.2 _ _ HIT1.out (by simp; omega) (by simp)
        have hpos : w2.iterPos w.heap.size = pos + d := by simp [World.iterPos, hi2]
        exact ⟨⟨pos + d, f, _, hi2, h2, (by unfold NOk at hok ⊢; omega), by omega, hbe1.trans h3.1, h4, by omega⟩, by rw [hpos]; exact hmeas⟩
      have FIN := Lib.hid fin; clear fin
      cases hb1 : ((c : Int) == 65533) with
      | false =>
        rw [hb1] at hrun
        simp only [Bool.false_and, Bool.false_eq_true, if_false] at hrun
        have HR := Lib.hid hrun; clear hrun
        go_wp2_with (first | (go_at_call 34; go_must (refine HSTEP.out.mono ?_); rintro e w' ⟨rfl, hr', hf'⟩))
        exact FIN.out _ hr' hf' HR.out
      | true =>
        rw [hb1] at hrun
        cases sw with
        | true =>
          simp only [Bool.not_true, Bool.and_false, Bool.false_eq_true, if_false] at hrun
          have HR := Lib.hid hrun; clear hrun
          go_wp2_with (first | (go_at_call 46; go_must (refine HSW.out.mono ?_); rintro e w' ⟨rfl, rfl⟩) | (go_at_call 34; go_must (refine HSTEP.out.mono ?_); rintro e w' ⟨rfl, hr', hf'⟩))
          exact FIN.out _ hr' hf' HR.out
        | false =>
          simp only [Bool.not_false, Bool.and_true, if_true] at hrun
          subst hrun
          go_wp2_with (first | (go_at_call 46; go_must (refine HSW.out.mono ?_); rintro e w' ⟨rfl, rfl⟩))
          exact ⟨rfl, rfl, ⟨_, hrd1⟩, hbe1⟩
    · have hnx : ∀ ty, (Instr.next (.pointer (some ⟨w.heap.size, 0, none⟩)) true ty).run Try.prog wr = _ := fun ty => Lib.run_next_end_at wr w.heap.size s pos ty HIT.out hp
      go_wp2
      go_end0
      have hres := HRUN.out
      rw [drop_nil hp, runL_end] at hres
      rw [← hres]
      exact ⟨rfl, hrd, ⟨pos, hpl, hok⟩, hbe⟩
end Go.Proofs.Ytapfhonapejpjaa
