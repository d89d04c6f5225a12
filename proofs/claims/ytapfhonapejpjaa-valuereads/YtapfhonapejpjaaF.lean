import Derived.Test.YtapfhonapejpjaaE
namespace Go.Proofs.Ytapfhonapejpjaa
open Go.RowKit

def decL (l : List UInt8) : Nat × Nat := Utf8.decode ⟨l.toArray⟩ 0
def badL (l : List UInt8) : Bool := (decL l).1 == 65533 && !(l.take 3 == [239, 191, 189])

/-- The walk over a text, code point by code point: the offset of what does not fit, or the state behind the last. -/
def runL {σ : Type} (step : σ → Int → Option σ) : Nat → Nat → List UInt8 → σ → Nat ⊕ σ
  | 0, _, _, r => .inr r
  | f + 1, pos, l, r =>
    if l = [] then .inr r
    else if badL l then .inl pos
    else match step r (decL l).1 with
      | none => .inl pos
      | some r' => runL step f (pos + (decL l).2) (l.drop (decL l).2) r'

theorem get!_list (l : List UInt8) (k : Nat) : (⟨l.toArray⟩ : ByteArray).get! k = l.getD k default := by
  show (l.toArray)[k]! = _
  rw [List.getElem!_toArray]
  simp [List.getD, List.getElem!_eq_getElem?_getD]

theorem get!_any (s : ByteArray) (k : Nat) : s.get! k = s.data.toList.getD k default := get!_list s.data.toList k

theorem get!_drop (s : ByteArray) (pos k : Nat) : (⟨(s.data.toList.drop pos).toArray⟩ : ByteArray).get! (0 + k) = s.get! (pos + k) := by
  rw [get!_list, get!_any]
  simp only [List.getD, List.getElem?_drop, Nat.zero_add]

theorem size_list (l : List UInt8) : (⟨l.toArray⟩ : ByteArray).size = l.length := rfl
theorem size_drop (s : ByteArray) (pos : Nat) : (⟨(s.data.toList.drop pos).toArray⟩ : ByteArray).size = s.size - pos := by
  rw [size_list, List.length_drop]; rfl

theorem decode_drop (s : ByteArray) (pos : Nat) : Utf8.decode s pos = decL (s.data.toList.drop pos) := by
  unfold decL Utf8.decode
  simp only [get!_drop, size_drop]
  have h : ∀ k, decide (0 + k < s.size - pos) = decide (pos + k < s.size) := fun k => by
    rw [decide_eq_decide]; omega
  simp only [h]

theorem decL_width (l : List UInt8) : 1 ≤ (decL l).2 := by
  unfold decL Utf8.decode
  simp only
  repeat' split
  all_goals simp

def swB (s : ByteArray) : Bool := decide ((3 : Int) ≤ s.size) && ((s.extract 0 3).toList == [239, 191, 189])

theorem extract_list (s : ByteArray) (a b : Nat) : (s.extract a b).data.toList = (s.data.toList.drop a).take (b - a) := by
  rw [ByteArray.data_extract, Array.toList_extract, List.extract_eq_take_drop]

theorem swB_eq (s : ByteArray) (pos : Nat) : swB (s.extract pos s.size) = ((s.data.toList.drop pos).take 3 == [239, 191, 189]) := by
  unfold swB
  rw [ByteArray.toList_eq, extract_list, extract_list]
  have hl : s.data.toList.length = s.size := rfl
  have e1 : (s.data.toList.drop pos).take (s.size - pos) = s.data.toList.drop pos := List.take_of_length_le (by rw [List.length_drop, hl]; exact Nat.le_refl _)
  rw [e1, List.drop_zero]
  by_cases h : (s.data.toList.drop pos).take 3 = [239, 191, 189]
  · have h3 := congrArg List.length h
    rw [List.length_take, List.length_drop, hl] at h3
    have hz : (s.extract pos s.size).size = s.size - pos := by
      have := congrArg List.length (extract_list s pos s.size)
      rw [e1, List.length_drop, hl] at this
      exact this
    have h3' : min 3 (s.size - pos) = 3 := h3
    have : (3 : Int) ≤ ((s.extract pos s.size).size : Int) := by rw [hz]; omega
    rw [decide_eq_true this, Bool.true_and]
  · simp [h]

set_option maxHeartbeats 400000 in
theorem sw46 (s : ByteArray) (w : World) :
    Calls Try.prog 46 #[.string s, .string ⟨#[239, 191, 189]⟩] w fun e w' => e = .returned (.bool (swB s)) ∧ w = w' := by
  by_cases h : (3 : Int) ≤ s.size
  · have hA : Hid (swB s = ((s.extract 0 3).toList == [239, 191, 189])) := by simp [Hid, swB, h]
    go_enter Try.func46, Try.ntmps46
    go_wp2
    go_ret
    exact ⟨by rw [hA.out]; rfl, rfl⟩
  · have hA : Hid (swB s = false) := by simp [Hid, swB, h]
    go_enter Try.func46, Try.ntmps46
    go_wp2
    go_ret
    exact ⟨by rw [hA.out]; rfl, rfl⟩

theorem Rd.iter {b : Nat} {r : R} {w : World} (h : Rd b r w) {k : Nat} {s : ByteArray} {pos : Nat} (hk : w.heap[k]? = some (.stringIter s pos)) (p : Nat) : Rd b r (w.iterAt k s p) := by
  obtain ⟨tv, hb, ho⟩ := h
  have hbk : b ≠ k := fun e => by subst e; rw [hk] at hb; cases hb
  refine ⟨tv, by rw [Lib.iterAt_other _ _ _ _ _ hbk]; exact hb, ho.1, ?_⟩
  rcases ho.2 with hn | ⟨g, cap, cur, e, h1, hg, h2⟩
  · exact .inl hn
  · have hgk : g ≠ k := fun e => by subst e; rw [hk] at hg; cases hg
    exact .inr ⟨g, cap, cur, e, h1, by rw [Lib.iterAt_other _ _ _ _ _ hgk]; exact hg, h2⟩

theorem Rd.alloc {b : Nat} {r : R} {w : World} (h : Rd b r w) (o : Obj) : Rd b r (w.alloc o) := by
  obtain ⟨tv, hb, ho⟩ := h
  exact ⟨tv, by rw [Below.heap_alloc _ _ _ (Array.getElem?_eq_some_iff.1 hb).1]; exact hb, ho.alloc o⟩

/-- What walk comes to with the reader's read. -/
def WalkP (b : Nat) (w : World) (o : Nat ⊕ R) (e : Ending) (w' : World) : Prop :=
  match o with
  | .inr r => e = .returned (.tuple #[]) ∧ Rd b r w' ∧ Ok r ∧ Below b w w'
  | .inl p => e = .panicked [{ v := .iface 57 (.int .i64 p), recovered := false }] ∧ Below b w w'

/-- What holds at the head of walk's loop; k: the iterator's block. -/
def LoopP (s : ByteArray) (b k : Nat) (w : World) (res : Nat ⊕ R) (w' : World) : Prop :=
  ∃ (pos f : Nat) (r : R), w'.heap[k]? = some (.stringIter s pos) ∧ Rd b r w' ∧ Ok r ∧ Below b w w' ∧ runL readR f pos (s.data.toList.drop pos) r = res ∧ s.size ≤ pos + f

theorem drop_ne {s : ByteArray} {pos : Nat} (h : pos < s.size) : s.data.toList.drop pos ≠ [] := by
  intro e
  have := congrArg List.length e
  rw [List.length_drop] at this
  have hl : s.data.toList.length = s.size := rfl
  simp only [List.length_nil] at this
  omega
theorem drop_nil {s : ByteArray} {pos : Nat} (h : ¬ pos < s.size) : s.data.toList.drop pos = [] :=
  List.drop_eq_nil_of_le (by have hl : s.data.toList.length = s.size := rfl; omega)

theorem runL_end {σ : Type} {step : σ → Int → Option σ} {f pos : Nat} {r : σ} : runL step f pos [] r = .inr r := by
  cases f <;> simp [runL]

set_option maxHeartbeats 400000 in
theorem walkP (s : ByteArray) (b : Nat) (r0 : R) (w : World) (hr : Rd b r0 w) (hk : Ok r0) :
    Calls Try.prog 27 #[.string s, .func (.func 37) #[.pointer (some ⟨b, 0, none⟩)] #[]] w (WalkP b w (runL readR s.size 0 s.data.toList r0)) := by
  have hbl : b < w.heap.size := by obtain ⟨_, hb, _⟩ := hr; exact (Array.getElem?_eq_some_iff.1 hb).1
  have hr1 : Rd b r0 (w.iter s 0) := hr.alloc (.stringIter s 0)
  have hst : LoopP s b w.heap.size w (runL readR s.size 0 s.data.toList r0) (w.iter s 0) :=
    ⟨0, s.size, r0, World.iter_heap w s 0, hr1, hk, (Below.refl _ _).alloc (by omega) _, by simp, by omega⟩
  generalize runL readR s.size 0 s.data.toList r0 = res at hst ⊢
  have HST := Lib.hid hst; clear hst
  clear hr hr1 hk
  go_enter Try.func27, Try.ntmps27
  go_wp2
  go_loopw [4] (fun _ w' => LoopP s b w.heap.size w res w') (fun _ w' => s.size - w'.iterPos w.heap.size)
  case atStart => exact HST.out
  case round =>
    obtain ⟨pos, f, r, hit, hrd, hok, hbe, hrun, hf⟩ := hrel
    have HRUN := Lib.hid hrun; clear hrun
    have HIT := Lib.hid hit; clear hit
    by_cases hp : pos < s.size
    · obtain ⟨c, d, hcd⟩ : ∃ c d, decL (s.data.toList.drop pos) = (c, d) := ⟨_, _, rfl⟩
      have hd1 : 1 ≤ d := by have := decL_width (s.data.toList.drop pos); rw [hcd] at this; exact this
      obtain ⟨w1, hw1⟩ : ∃ w1, wr.iterAt w.heap.size s (pos + d) = w1 := ⟨_, rfl⟩
      have hnx : ∀ ty, (Instr.next (.pointer (some ⟨w.heap.size, 0, none⟩)) true ty).run Try.prog wr = .ok (.tuple #[.bool true, .int .i64 pos, .int .i32 c]) w1 := fun ty => by
        rw [Lib.run_next_any_at wr w.heap.size s pos ty HIT.out hp, decode_drop, hcd, ← hw1]
      have hit1 : w1.heap[w.heap.size]? = some (.stringIter s (pos + d)) := by rw [← hw1]; exact Lib.iterAt_heap wr _ s pos _ HIT.out
      have hrd1 : Rd b r w1 := by rw [← hw1]; exact hrd.iter HIT.out _
      have hbe1 : Below b w w1 := by rw [← hw1]; exact Lib.below_iterAt hbe (by omega) s _
      have hmeas : s.size - (pos + d) < s.size - wr.iterPos w.heap.size := by
        have : wr.iterPos w.heap.size = pos := by simp [World.iterPos, HIT.out]
        rw [this]; omega
      have HIT1 := Lib.hid hit1; clear hit1 hw1 hrd hbe
      have hsw := sw46 (s.extract pos s.size) w1
      rw [swB_eq] at hsw
      have hbad : badL (s.data.toList.drop pos) = ((c : Int) == 65533 && !((s.data.toList.drop pos).take 3 == [239, 191, 189])) := by
        unfold badL; rw [hcd]; simp only; congr 1; rw [Bool.eq_iff_iff]; simp; omega
      have hrun := HRUN.out
      cases f with
      | zero => omega
      | succ f =>
      unfold runL at hrun
      rw [if_neg (drop_ne hp), hbad, hcd, List.drop_drop] at hrun
      simp only at hrun
      have hstep := read37 b r pos c w1 hrd1 hok
      clear hbad HRUN
      generalize ((s.data.toList.drop pos).take 3 == [239, 191, 189]) = sw at hsw hrun
      have HCD := Lib.hid hcd; clear hcd
      have HSW := Lib.hid hsw; clear hsw
      have fin : ∀ w2 r', readR r c = some r' → Rd b r' w2 → Fr b w1 w2 → runL readR f (pos + d) (s.data.toList.drop (pos + d)) r' = res → LoopP s b w.heap.size w res w2 ∧ s.size - w2.iterPos w.heap.size < s.size - wr.iterPos w.heap.size := by
        intro w2 r' h1 h2 h3 h4
        have hi2 : w2.heap[w.heap.size]? = some (.stringIter s (pos + d)) := h3.2 _ _ HIT1.out (by simp; omega) (by simp)
        have hpos : w2.iterPos w.heap.size = pos + d := by simp [World.iterPos, hi2]
        exact ⟨⟨pos + d, f, r', hi2, h2, readR_ok h1 hok, hbe1.trans h3.1, h4, by omega⟩, by rw [hpos]; exact hmeas⟩
      have FIN := Lib.hid fin; clear fin
      cases hX : readR r c with
      | none =>
        rw [hX] at hstep hrun
        have HSTEP := Lib.hid hstep; clear hstep
        simp only at hrun
        have hres : res = .inl pos := by
          rw [← hrun]; split <;> rfl
        subst hres
        clear hrun hX
        cases hb1 : ((c : Int) == 65533) with
        | false =>
          go_wp2_with (first | (go_at_call 37; go_must (refine HSTEP.out.mono ?_); rintro e w' ⟨rfl, hf'⟩))
          exact ⟨rfl, rfl, hbe1.trans hf'.1⟩
        | true =>
          cases sw with
          | true =>
            go_wp2_with (first | (go_at_call 46; go_must (refine HSW.out.mono ?_); rintro e w' ⟨rfl, rfl⟩) | (go_at_call 37; go_must (refine HSTEP.out.mono ?_); rintro e w' ⟨rfl, hf'⟩))
            exact ⟨rfl, rfl, hbe1.trans hf'.1⟩
          | false =>
            go_wp2_with (first | (go_at_call 46; go_must (refine HSW.out.mono ?_); rintro e w' ⟨rfl, rfl⟩))
            exact ⟨rfl, rfl, hbe1⟩
      | some r' =>
        rw [hX] at hstep hrun
        have HX := Lib.hid hX; clear hX
        have HSTEP := Lib.hid hstep; clear hstep
        simp only at hrun
        cases hb1 : ((c : Int) == 65533) with
        | false =>
          rw [hb1] at hrun
          simp only [Bool.false_and, Bool.false_eq_true, if_false] at hrun
          have HR := Lib.hid hrun; clear hrun
          go_wp2_with (first | (go_at_call 37; go_must (refine HSTEP.out.mono ?_); rintro e w' ⟨rfl, hr', hf'⟩))
          exact FIN.out _ _ HX.out hr' hf' HR.out
        | true =>
          rw [hb1] at hrun
          cases sw with
          | true =>
            simp only [Bool.not_true, Bool.and_false, Bool.false_eq_true, if_false] at hrun
            have HR := Lib.hid hrun; clear hrun
            go_wp2_with (first | (go_at_call 46; go_must (refine HSW.out.mono ?_); rintro e w' ⟨rfl, rfl⟩) | (go_at_call 37; go_must (refine HSTEP.out.mono ?_); rintro e w' ⟨rfl, hr', hf'⟩))
            exact FIN.out _ _ HX.out hr' hf' HR.out
          | false =>
            simp only [Bool.not_false, Bool.and_true, if_true] at hrun
            subst hrun
            go_wp2_with (first | (go_at_call 46; go_must (refine HSW.out.mono ?_); rintro e w' ⟨rfl, rfl⟩))
            exact ⟨rfl, rfl, hbe1⟩
    · have hnx : ∀ ty, (Instr.next (.pointer (some ⟨w.heap.size, 0, none⟩)) true ty).run Try.prog wr = _ := fun ty => Lib.run_next_end_at wr w.heap.size s pos ty HIT.out hp
      go_wp2
      go_end0
      have hres := HRUN.out
      rw [drop_nil hp, runL_end] at hres
      rw [← hres]
      exact ⟨rfl, hrd, hok, hbe⟩
end Go.Proofs.Ytapfhonapejpjaa
