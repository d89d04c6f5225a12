/-
  The contract of the document's next. No condition but bounds on lengths.
-/
import Derived.Test.YtdmalkkpcggifaaRA
namespace Go.Proofs.Ytdmalkkpcggifaa
open Go.RowKit

def RefTo (w : World) (left : Nat) (a : C × Int × Int) (e : Ending) (w' : World) : Prop :=
  ∃ u, e = .returned (.tuple #[cellV a.1 u, .int .i64 a.2.1, .int .i64 a.2.2]) ∧ LIn w' (fun b => w.heap.size ≤ b ∧ b < w'.heap.size) (left + 1) u a.1.l ∧ Below w.heap.size w w'

theorem ansOf_bad (n m : Nat) (e : Int) : ansOf n (.bad m e) = (zeroC, (n : Int) - m, e) := rfl
theorem ansOf_ok (n : Nat) (c : C) (r : List UInt8) : ansOf n (.ok c r) = (c, ((n - r.length : Nat) : Int), 0) := rfl
theorem results32 (tmps : Array Value) (w : World) (P : Nat) (k n : Int) (sv : ByteArray) (A : Option Addr) (l cap : Nat) (a b : Int) (hp6 : tmps[6]?.getD undef = .pointer (some ⟨P, 0, none⟩)) (hp7 : tmps[7]?.getD undef = .int .i64 a) (hp8 : tmps[8]?.getD undef = .int .i64 b)
    (h0 : w.heap[P]? = some (.cells #[.int .i64 k, .int .i64 n, .string sv, .slice A l cap] 25 (0, 0))) :
    (results Try.f32 tmps).run Try.prog w = .ok (.tuple #[.agg #[.int .i64 k, .int .i64 n, .string sv, .slice A l cap], .int .i64 a, .int .i64 b]) w := by
  have p0 : w.cell? ⟨P, 0, none⟩ = some (.int .i64 k) := cell_of_row w P 0 _ 25 (0, 0) h0
  have p1 : w.cell? ⟨P, 1, none⟩ = some (.int .i64 n) := cell_of_row w P 1 _ 25 (0, 0) h0
  have p2 : w.cell? ⟨P, 2, none⟩ = some (.string sv) := cell_of_row w P 2 _ 25 (0, 0) h0
  have p3 : w.cell? ⟨P, 3, none⟩ = some (.slice A l cap) := cell_of_row w P 3 _ 25 (0, 0) h0
  simp [results, Try.results32, hp6, hp7, hp8, asAddr, go_sem, p0, p1, p2, p3]
theorem RefTo.plain (w : World) (left : Nat) (k n : Int) (s : ByteArray) (a e : Int) : RefTo w left (.mk k n s [], a, e) (.returned (.tuple #[.agg #[.int .i64 k, .int .i64 n, .string s, .slice none 0 0], .int .i64 a, .int .i64 e])) (w.alloc (.cells #[.int .i64 k, .int .i64 n, .string s, .slice none 0 0] 25)) :=
  ⟨.slice none 0 0, rfl, LIn.nil _ _ _, (Below.refl _ w).alloc (Nat.le_refl _) _⟩

set_option maxRecDepth 100000 in
set_option maxHeartbeats 6400000 in
theorem refNext32 (s : ByteArray) (hs : s.size ≤ 1000000000) (left : Nat) : ∀ (p : Nat) (w : World), p ≤ s.size → left ≤ 16 →
    Calls Try.prog 32 #[.string s, .int .i64 p, .int .i64 left] w (RefTo w left (ansOf s.size (parse left (s.data.toList.drop p)))) := by
  induction left with
  | zero =>
    intro p w hp hl
    cases hx : s.data.toList.drop p with
    | nil =>
      have hps : p = s.size := by have := congrArg List.length hx; rw [List.length_drop, size_data] at this; simp at this; omega
      subst hps
      rw [parse_nil]
      clear hx
      have hz : ansOf s.size (.bad 0 3) = (zeroC, (s.size : Int), 3) := by unfold ansOf; simp
      rw [hz]
      clear hz
      go_enter Try.func32, Try.ntmps32
      go_wp2_with fail
      refine bodyPost_ret (results32 _ _ w.heap.size 0 (0) ⟨#[]⟩ none 0 0 (s.size : Int) 3 rfl rfl rfl (heap_alloc_new w _)) rfl ?_
      exact RefTo.plain w _ 0 (0) ⟨#[]⟩ _ _
    | cons b r =>
      have hps : s.size = p + (r.length + 1) := by have := congrArg List.length hx; rw [List.length_drop, size_data] at this; simp at this; omega
      have hpl : ¬ (s.size : Int) ≤ (p : Int) := by omega
      have hbl := b.toNat_lt
      have hplt : p < s.size := by omega
      have hb0 : ((s[p]'hplt).toNat : Int) = (b.toNat : Int) := by
        have h1 : s.data.toList[p]? = some b := by
          have := congrArg (fun l => l[0]?) hx
          simpa using this
        have h2 : s.data[p]? = some b := by rw [← Array.getElem?_toList]; exact h1
        have h3 : s.data[p]'(by show p < s.size; omega) = b := by
          have := Array.getElem?_eq_some_iff.1 h2
          exact this.2
        show (((s.data[p]'(by show p < s.size; omega))).toNat : Int) = _
        rw [h3]
      have HR : Hid (s.data.toList.drop (p + 1) = r) := by
        have := congrArg (List.drop 1) hx
        rw [List.drop_drop] at this
        unfold Hid
        simpa using this
      have hdv : ((b.toNat : Nat) : Int).tdiv 16 = ((b.toNat / 16 : Nat) : Int) := by rw [Int.tdiv_eq_ediv_of_nonneg (by omega)]; omega
      have hmd : ((b.toNat : Nat) : Int).tmod 16 = ((b.toNat % 16 : Nat) : Int) := by rw [Int.tmod_eq_emod_of_nonneg (by omega)]; omega
      have hm16 : b.toNat / 16 < 16 := by omega
      have hw16 : b.toNat % 16 < 16 := by omega
      rw [parse_zero]
      obtain ⟨q, hq⟩ : ∃ q, ansOf s.size (.bad (r.length + 1) (if headOk (b.toNat / 16) (b.toNat % 16) then 5 else 4)) = q := ⟨_, rfl⟩
      rw [hq]
      have HQ := Lib.hid hq
      clear hq hx
      generalize b.toNat / 16 = m at hdv hm16 HQ
      generalize b.toNat % 16 = wd at hmd hw16 HQ
      generalize b.toNat = bn at hb0 hbl hdv hmd
      by_cases hm0 : m = 1
      · subst hm0
        have k1 : (((1 : Nat) : Int) == 3) = false := rfl
        have k2 : (((1 : Nat) : Int) == 4) = false := rfl
        by_cases hwd : (8 : Int) < (wd : Int)
        · have hh : headOk 1 wd = false := by unfold headOk; simp; omega
          have hq : q = (zeroC, (p : Int), 4) := by
            rw [← HQ.out, hh]
            simp only [if_false, Bool.false_eq_true]
            rw [ansOf_bad, show (s.size : Int) - ((r.length + 1 : Nat) : Int) = p by omega]
          subst hq
          clear HQ hh
          have HPS := Lib.hid hps
          clear hps
          go_enter Try.func32, Try.ntmps32
          go_wp2_with fail
          refine bodyPost_ret (results32 _ _ w.heap.size 0 (0) ⟨#[]⟩ none 0 0 (p : Int) 4 rfl rfl rfl (heap_alloc_new w _)) rfl ?_
          exact RefTo.plain w _ 0 (0) ⟨#[]⟩ _ _
        have hh : headOk 1 wd = true := by unfold headOk; simp; omega
        have hq : q = (zeroC, (p : Int), 5) := by
          rw [← HQ.out, hh]
          simp only [if_true]
          rw [ansOf_bad, show (s.size : Int) - ((r.length + 1 : Nat) : Int) = p by omega]
        subst hq
        clear HQ hh
        have HPS := Lib.hid hps
        clear hps
        go_enter Try.func32, Try.ntmps32
        go_wp2_with fail
        refine bodyPost_ret (results32 _ _ w.heap.size 0 (0) ⟨#[]⟩ none 0 0 (p : Int) 5 rfl rfl rfl (heap_alloc_new w _)) rfl ?_
        exact RefTo.plain w _ 0 (0) ⟨#[]⟩ _ _
      by_cases hm0 : m = 2
      · subst hm0
        have k1 : (((2 : Nat) : Int) == 3) = false := rfl
        have k2 : (((2 : Nat) : Int) == 4) = false := rfl
        by_cases hwd : (8 : Int) < (wd : Int)
        · have hh : headOk 2 wd = false := by unfold headOk; simp; omega
          have hq : q = (zeroC, (p : Int), 4) := by
            rw [← HQ.out, hh]
            simp only [if_false, Bool.false_eq_true]
            rw [ansOf_bad, show (s.size : Int) - ((r.length + 1 : Nat) : Int) = p by omega]
          subst hq
          clear HQ hh
          have HPS := Lib.hid hps
          clear hps
          go_enter Try.func32, Try.ntmps32
          go_wp2_with fail
          refine bodyPost_ret (results32 _ _ w.heap.size 0 (0) ⟨#[]⟩ none 0 0 (p : Int) 4 rfl rfl rfl (heap_alloc_new w _)) rfl ?_
          exact RefTo.plain w _ 0 (0) ⟨#[]⟩ _ _
        have hh : headOk 2 wd = true := by unfold headOk; simp; omega
        have hq : q = (zeroC, (p : Int), 5) := by
          rw [← HQ.out, hh]
          simp only [if_true]
          rw [ansOf_bad, show (s.size : Int) - ((r.length + 1 : Nat) : Int) = p by omega]
        subst hq
        clear HQ hh
        have HPS := Lib.hid hps
        clear hps
        go_enter Try.func32, Try.ntmps32
        go_wp2_with fail
        refine bodyPost_ret (results32 _ _ w.heap.size 0 (0) ⟨#[]⟩ none 0 0 (p : Int) 5 rfl rfl rfl (heap_alloc_new w _)) rfl ?_
        exact RefTo.plain w _ 0 (0) ⟨#[]⟩ _ _
      by_cases hm0 : m = 3
      · subst hm0
        have k1 : (((3 : Nat) : Int) == 3) = true := rfl
        have k2 : (((3 : Nat) : Int) == 4) = false := rfl
        by_cases hwd : (2 : Int) < (wd : Int)
        · have hh : headOk 3 wd = false := by unfold headOk; simp; omega
          have hq : q = (zeroC, (p : Int), 4) := by
            rw [← HQ.out, hh]
            simp only [if_false, Bool.false_eq_true]
            rw [ansOf_bad, show (s.size : Int) - ((r.length + 1 : Nat) : Int) = p by omega]
          subst hq
          clear HQ hh
          have HPS := Lib.hid hps
          clear hps
          go_enter Try.func32, Try.ntmps32
          go_wp2_with fail
          refine bodyPost_ret (results32 _ _ w.heap.size 0 (0) ⟨#[]⟩ none 0 0 (p : Int) 4 rfl rfl rfl (heap_alloc_new w _)) rfl ?_
          exact RefTo.plain w _ 0 (0) ⟨#[]⟩ _ _
        have hh : headOk 3 wd = true := by unfold headOk; simp; omega
        have hq : q = (zeroC, (p : Int), 5) := by
          rw [← HQ.out, hh]
          simp only [if_true]
          rw [ansOf_bad, show (s.size : Int) - ((r.length + 1 : Nat) : Int) = p by omega]
        subst hq
        clear HQ hh
        have HPS := Lib.hid hps
        clear hps
        go_enter Try.func32, Try.ntmps32
        go_wp2_with fail
        refine bodyPost_ret (results32 _ _ w.heap.size 0 (0) ⟨#[]⟩ none 0 0 (p : Int) 5 rfl rfl rfl (heap_alloc_new w _)) rfl ?_
        exact RefTo.plain w _ 0 (0) ⟨#[]⟩ _ _
      by_cases hm0 : m = 4
      · subst hm0
        have k1 : (((4 : Nat) : Int) == 3) = false := rfl
        have k2 : (((4 : Nat) : Int) == 4) = true := rfl
        by_cases hwd : (2 : Int) < (wd : Int)
        · have hh : headOk 4 wd = false := by unfold headOk; simp; omega
          have hq : q = (zeroC, (p : Int), 4) := by
            rw [← HQ.out, hh]
            simp only [if_false, Bool.false_eq_true]
            rw [ansOf_bad, show (s.size : Int) - ((r.length + 1 : Nat) : Int) = p by omega]
          subst hq
          clear HQ hh
          have HPS := Lib.hid hps
          clear hps
          go_enter Try.func32, Try.ntmps32
          go_wp2_with fail
          refine bodyPost_ret (results32 _ _ w.heap.size 0 (0) ⟨#[]⟩ none 0 0 (p : Int) 4 rfl rfl rfl (heap_alloc_new w _)) rfl ?_
          exact RefTo.plain w _ 0 (0) ⟨#[]⟩ _ _
        have hh : headOk 4 wd = true := by unfold headOk; simp; omega
        have hq : q = (zeroC, (p : Int), 5) := by
          rw [← HQ.out, hh]
          simp only [if_true]
          rw [ansOf_bad, show (s.size : Int) - ((r.length + 1 : Nat) : Int) = p by omega]
        subst hq
        clear HQ hh
        have HPS := Lib.hid hps
        clear hps
        go_enter Try.func32, Try.ntmps32
        go_wp2_with fail
        refine bodyPost_ret (results32 _ _ w.heap.size 0 (0) ⟨#[]⟩ none 0 0 (p : Int) 5 rfl rfl rfl (heap_alloc_new w _)) rfl ?_
        exact RefTo.plain w _ 0 (0) ⟨#[]⟩ _ _
      have hh : headOk m wd = false := by unfold headOk; simp; omega
      have k1 : ((m : Int) == 3) = false := beq_eq_false_iff_ne.2 (by omega)
      have k2 : ((m : Int) == 4) = false := beq_eq_false_iff_ne.2 (by omega)
      have hq : q = (zeroC, (p : Int), 4) := by
        rw [← HQ.out, hh]
        simp only [if_false, Bool.false_eq_true]
        rw [ansOf_bad, show (s.size : Int) - ((r.length + 1 : Nat) : Int) = p by omega]
      subst hq
      clear HQ hh
      by_cases hm1 : (m : Int) < 1
      · clear hps
        go_enter Try.func32, Try.ntmps32
        go_wp2_with fail
        refine bodyPost_ret (results32 _ _ w.heap.size 0 (0) ⟨#[]⟩ none 0 0 (p : Int) 4 rfl rfl rfl (heap_alloc_new w _)) rfl ?_
        exact RefTo.plain w _ 0 (0) ⟨#[]⟩ _ _
      have hm2 : (4 : Int) < (m : Int) := by omega
      have HPS := Lib.hid hps
      clear hps
      go_enter Try.func32, Try.ntmps32
      go_wp2_with fail
      refine bodyPost_ret (results32 _ _ w.heap.size 0 (0) ⟨#[]⟩ none 0 0 (p : Int) 4 rfl rfl rfl (heap_alloc_new w _)) rfl ?_
      exact RefTo.plain w _ 0 (0) ⟨#[]⟩ _ _
  | succ left ih =>
    intro p w hp hl
    have HIH := Lib.hid ih
    clear ih
    cases hx : s.data.toList.drop p with
    | nil =>
      have hps : p = s.size := by have := congrArg List.length hx; rw [List.length_drop, size_data] at this; simp at this; omega
      subst hps
      rw [parse_nil]
      clear hx
      have hz : ansOf s.size (.bad 0 3) = (zeroC, (s.size : Int), 3) := by unfold ansOf; simp
      rw [hz]
      clear hz
      go_enter Try.func32, Try.ntmps32
      go_wp2_with fail
      refine bodyPost_ret (results32 _ _ w.heap.size 0 (0) ⟨#[]⟩ none 0 0 (s.size : Int) 3 rfl rfl rfl (heap_alloc_new w _)) rfl ?_
      exact RefTo.plain w _ 0 (0) ⟨#[]⟩ _ _
    | cons b r =>
      have hps : s.size = p + (r.length + 1) := by have := congrArg List.length hx; rw [List.length_drop, size_data] at this; simp at this; omega
      have hpl : ¬ (s.size : Int) ≤ (p : Int) := by omega
      have hbl := b.toNat_lt
      have hplt : p < s.size := by omega
      have hb0 : ((s[p]'hplt).toNat : Int) = (b.toNat : Int) := by
        have h1 : s.data.toList[p]? = some b := by
          have := congrArg (fun l => l[0]?) hx
          simpa using this
        have h2 : s.data[p]? = some b := by rw [← Array.getElem?_toList]; exact h1
        have h3 : s.data[p]'(by show p < s.size; omega) = b := by
          have := Array.getElem?_eq_some_iff.1 h2
          exact this.2
        show (((s.data[p]'(by show p < s.size; omega))).toNat : Int) = _
        rw [h3]
      have HR : Hid (s.data.toList.drop (p + 1) = r) := by
        have := congrArg (List.drop 1) hx
        rw [List.drop_drop] at this
        unfold Hid
        simpa using this
      have hdv : ((b.toNat : Nat) : Int).tdiv 16 = ((b.toNat / 16 : Nat) : Int) := by rw [Int.tdiv_eq_ediv_of_nonneg (by omega)]; omega
      have hmd : ((b.toNat : Nat) : Int).tmod 16 = ((b.toNat % 16 : Nat) : Int) := by rw [Int.tmod_eq_emod_of_nonneg (by omega)]; omega
      have hm16 : b.toNat / 16 < 16 := by omega
      have hw16 : b.toNat % 16 < 16 := by omega
      rw [parse_succ]
      obtain ⟨q, hq⟩ : ∃ q, ansOf s.size (if headOk (b.toNat / 16) (b.toNat % 16) then based (parse left) (b.toNat / 16) (b.toNat % 16) r else .bad (r.length + 1) 4) = q := ⟨_, rfl⟩
      rw [hq]
      have HQ := Lib.hid hq
      clear hq hx
      generalize b.toNat / 16 = m at hdv hm16 HQ
      generalize b.toNat % 16 = wd at hmd hw16 HQ
      generalize b.toNat = bn at hb0 hbl hdv hmd
      by_cases hm0 : m = 1
      · subst hm0
        have k1 : (((1 : Nat) : Int) == 3) = false := rfl
        have k2 : (((1 : Nat) : Int) == 4) = false := rfl
        by_cases hwd : (8 : Int) < (wd : Int)
        · have hh : headOk 1 wd = false := by unfold headOk; simp; omega
          have hq : q = (zeroC, (p : Int), 4) := by
            rw [← HQ.out, hh]
            simp only [if_false, Bool.false_eq_true]
            rw [ansOf_bad, show (s.size : Int) - ((r.length + 1 : Nat) : Int) = p by omega]
          subst hq
          clear HQ hh
          have HPS := Lib.hid hps
          clear hps
          go_enter Try.func32, Try.ntmps32
          go_wp2_with fail
          refine bodyPost_ret (results32 _ _ w.heap.size 0 (0) ⟨#[]⟩ none 0 0 (p : Int) 4 rfl rfl rfl (heap_alloc_new w _)) rfl ?_
          exact RefTo.plain w _ 0 (0) ⟨#[]⟩ _ _
        have hh : headOk 1 wd = true := by unfold headOk; simp; omega
        have hQ := HQ.out
        rw [hh] at hQ
        simp only [if_true] at hQ
        unfold based at hQ
        have hl1 : ¬ (((left + 1 : Nat) : Int) < 1) := by omega
        by_cases hsh : r.length < wd
        · have hsh' : (s.size : Int) - (p : Int) - 1 < (wd : Int) := by omega
          have hq : q = (zeroC, (s.size : Int), 3) := by
            rw [← hQ, if_pos hsh]
            unfold ansOf
            simp
          subst hq
          clear HQ hh hQ hsh
          have HPS := Lib.hid hps
          clear hps
          go_enter Try.func32, Try.ntmps32
          go_wp2_with fail
          refine bodyPost_ret (results32 _ _ w.heap.size 0 (0) ⟨#[]⟩ none 0 0 (s.size : Int) 3 rfl rfl rfl (heap_alloc_new w _)) rfl ?_
          exact RefTo.plain w _ 0 (0) ⟨#[]⟩ _ _
        have hsh' : ¬ (s.size : Int) - (p : Int) - 1 < (wd : Int) := by omega
        rw [if_neg hsh] at hQ
        have hB := fun w => base44 s (p + 1) wd 9223372036854775807 w (by omega) hs (by omega) (by omega) (r.take wd) (by rw [HR.out])
        have hbm : badM 9223372036854775807 (r.take wd) = baseBad 1 (r.take wd) := rfl
        rw [hbm] at hB
        by_cases hbb : baseBad 1 (r.take wd) = true
        · rw [if_pos hbb] at hQ
          rw [hbb] at hB
          have HB := Lib.hid hB
          clear hB hbm hbb hsh
          have hq : q = (zeroC, (p : Int), 4) := by
            rw [← hQ]
            rw [ansOf_bad, show (s.size : Int) - ((r.length + 1 : Nat) : Int) = p by omega]
          subst hq
          clear HQ hh hQ
          have HPS := Lib.hid hps
          clear hps
          go_enter Try.func32, Try.ntmps32
          go_wp2_with fail
          refine (HB.out _).mono ?_
          rintro e w2 ⟨rfl, rfl⟩
          go_wp2_with fail
          refine bodyPost_ret (results32 _ _ w.heap.size 0 (0) ⟨#[]⟩ none 0 0 (p : Int) 4 rfl rfl rfl (heap_alloc_new w _)) rfl ?_
          exact RefTo.plain w _ 0 (0) ⟨#[]⟩ _ _
        rw [if_neg hbb] at hQ
        replace hbb := Bool.eq_false_iff.2 hbb
        rw [hbb] at hB
        have hmb := (baseBad_back hbb (by rw [List.length_take]; omega)).2
        have hmm : mostOf 1 = 9223372036854775807 := rfl
        rw [hmm] at hmb
        obtain ⟨x, hx⟩ : ∃ x, beN (r.take wd) = x := ⟨_, rfl⟩
        obtain ⟨r', hr'⟩ : ∃ r', r.drop wd = r' := ⟨_, rfl⟩
        have hrl : r.length = wd + r'.length := by rw [← hr', List.length_drop]; omega
        have HRD : Hid (s.data.toList.drop (p + 1 + wd) = r') := by unfold Hid; rw [← hr', ← HR.out, List.drop_drop]
        rw [hx] at hB hmb hQ
        rw [hr'] at hQ
        have HB := Lib.hid hB
        clear hB hbm hbb hsh hx hr' hmm HQ hh
        have hq : q = (.mk 1 (x) ⟨#[]⟩ [], (p : Int) + 1 + wd, 0) := by
          rw [← hQ]
          show ansOf s.size (.ok (.mk 1 (x) ⟨#[]⟩ []) r') = _
          unfold ansOf
          simp only
          congr 2
          omega
        subst hq
        clear hQ
        have HPS := Lib.hid hps
        have HRL := Lib.hid hrl
        clear hps hrl
        go_enter Try.func32, Try.ntmps32
        go_wp2_with fail
        refine (HB.out _).mono ?_
        rintro e w2 ⟨rfl, rfl⟩
        go_wp2_with fail
        refine bodyPost_ret (results32 _ _ w.heap.size 1 (x) ⟨#[]⟩ none 0 0 ((p : Int) + 1 + wd) 0 rfl rfl rfl (heap_alloc_new w _)) rfl ?_
        exact RefTo.plain w _ 1 (x) ⟨#[]⟩ _ _
      by_cases hm0 : m = 2
      · subst hm0
        have k1 : (((2 : Nat) : Int) == 3) = false := rfl
        have k2 : (((2 : Nat) : Int) == 4) = false := rfl
        by_cases hwd : (8 : Int) < (wd : Int)
        · have hh : headOk 2 wd = false := by unfold headOk; simp; omega
          have hq : q = (zeroC, (p : Int), 4) := by
            rw [← HQ.out, hh]
            simp only [if_false, Bool.false_eq_true]
            rw [ansOf_bad, show (s.size : Int) - ((r.length + 1 : Nat) : Int) = p by omega]
          subst hq
          clear HQ hh
          have HPS := Lib.hid hps
          clear hps
          go_enter Try.func32, Try.ntmps32
          go_wp2_with fail
          refine bodyPost_ret (results32 _ _ w.heap.size 0 (0) ⟨#[]⟩ none 0 0 (p : Int) 4 rfl rfl rfl (heap_alloc_new w _)) rfl ?_
          exact RefTo.plain w _ 0 (0) ⟨#[]⟩ _ _
        have hh : headOk 2 wd = true := by unfold headOk; simp; omega
        have hQ := HQ.out
        rw [hh] at hQ
        simp only [if_true] at hQ
        unfold based at hQ
        have hl1 : ¬ (((left + 1 : Nat) : Int) < 1) := by omega
        by_cases hsh : r.length < wd
        · have hsh' : (s.size : Int) - (p : Int) - 1 < (wd : Int) := by omega
          have hq : q = (zeroC, (s.size : Int), 3) := by
            rw [← hQ, if_pos hsh]
            unfold ansOf
            simp
          subst hq
          clear HQ hh hQ hsh
          have HPS := Lib.hid hps
          clear hps
          go_enter Try.func32, Try.ntmps32
          go_wp2_with fail
          refine bodyPost_ret (results32 _ _ w.heap.size 0 (0) ⟨#[]⟩ none 0 0 (s.size : Int) 3 rfl rfl rfl (heap_alloc_new w _)) rfl ?_
          exact RefTo.plain w _ 0 (0) ⟨#[]⟩ _ _
        have hsh' : ¬ (s.size : Int) - (p : Int) - 1 < (wd : Int) := by omega
        rw [if_neg hsh] at hQ
        have hB := fun w => base44 s (p + 1) wd 9223372036854775807 w (by omega) hs (by omega) (by omega) (r.take wd) (by rw [HR.out])
        have hbm : badM 9223372036854775807 (r.take wd) = baseBad 2 (r.take wd) := rfl
        rw [hbm] at hB
        by_cases hbb : baseBad 2 (r.take wd) = true
        · rw [if_pos hbb] at hQ
          rw [hbb] at hB
          have HB := Lib.hid hB
          clear hB hbm hbb hsh
          have hq : q = (zeroC, (p : Int), 4) := by
            rw [← hQ]
            rw [ansOf_bad, show (s.size : Int) - ((r.length + 1 : Nat) : Int) = p by omega]
          subst hq
          clear HQ hh hQ
          have HPS := Lib.hid hps
          clear hps
          go_enter Try.func32, Try.ntmps32
          go_wp2_with fail
          refine (HB.out _).mono ?_
          rintro e w2 ⟨rfl, rfl⟩
          go_wp2_with fail
          refine bodyPost_ret (results32 _ _ w.heap.size 0 (0) ⟨#[]⟩ none 0 0 (p : Int) 4 rfl rfl rfl (heap_alloc_new w _)) rfl ?_
          exact RefTo.plain w _ 0 (0) ⟨#[]⟩ _ _
        rw [if_neg hbb] at hQ
        replace hbb := Bool.eq_false_iff.2 hbb
        rw [hbb] at hB
        have hmb := (baseBad_back hbb (by rw [List.length_take]; omega)).2
        have hmm : mostOf 2 = 9223372036854775807 := rfl
        rw [hmm] at hmb
        obtain ⟨x, hx⟩ : ∃ x, beN (r.take wd) = x := ⟨_, rfl⟩
        obtain ⟨r', hr'⟩ : ∃ r', r.drop wd = r' := ⟨_, rfl⟩
        have hrl : r.length = wd + r'.length := by rw [← hr', List.length_drop]; omega
        have HRD : Hid (s.data.toList.drop (p + 1 + wd) = r') := by unfold Hid; rw [← hr', ← HR.out, List.drop_drop]
        rw [hx] at hB hmb hQ
        rw [hr'] at hQ
        have HB := Lib.hid hB
        clear hB hbm hbb hsh hx hr' hmm HQ hh
        have hq : q = (.mk 1 (-(x : Int) - 1) ⟨#[]⟩ [], (p : Int) + 1 + wd, 0) := by
          rw [← hQ]
          show ansOf s.size (.ok (.mk 1 (-(x : Int) - 1) ⟨#[]⟩ []) r') = _
          unfold ansOf
          simp only
          congr 2
          omega
        subst hq
        clear hQ
        have HPS := Lib.hid hps
        have HRL := Lib.hid hrl
        clear hps hrl
        go_enter Try.func32, Try.ntmps32
        go_wp2_with fail
        refine (HB.out _).mono ?_
        rintro e w2 ⟨rfl, rfl⟩
        go_wp2_with fail
        refine bodyPost_ret (results32 _ _ w.heap.size 1 (-(x : Int) - 1) ⟨#[]⟩ none 0 0 ((p : Int) + 1 + wd) 0 rfl rfl rfl (heap_alloc_new w _)) rfl ?_
        exact RefTo.plain w _ 1 (-(x : Int) - 1) ⟨#[]⟩ _ _
      by_cases hm0 : m = 3
      · subst hm0
        have k1 : (((3 : Nat) : Int) == 3) = true := rfl
        have k2 : (((3 : Nat) : Int) == 4) = false := rfl
        by_cases hwd : (2 : Int) < (wd : Int)
        · have hh : headOk 3 wd = false := by unfold headOk; simp; omega
          have hq : q = (zeroC, (p : Int), 4) := by
            rw [← HQ.out, hh]
            simp only [if_false, Bool.false_eq_true]
            rw [ansOf_bad, show (s.size : Int) - ((r.length + 1 : Nat) : Int) = p by omega]
          subst hq
          clear HQ hh
          have HPS := Lib.hid hps
          clear hps
          go_enter Try.func32, Try.ntmps32
          go_wp2_with fail
          refine bodyPost_ret (results32 _ _ w.heap.size 0 (0) ⟨#[]⟩ none 0 0 (p : Int) 4 rfl rfl rfl (heap_alloc_new w _)) rfl ?_
          exact RefTo.plain w _ 0 (0) ⟨#[]⟩ _ _
        have hh : headOk 3 wd = true := by unfold headOk; simp; omega
        have hQ := HQ.out
        rw [hh] at hQ
        simp only [if_true] at hQ
        unfold based at hQ
        have hl1 : ¬ (((left + 1 : Nat) : Int) < 1) := by omega
        by_cases hsh : r.length < wd
        · have hsh' : (s.size : Int) - (p : Int) - 1 < (wd : Int) := by omega
          have hq : q = (zeroC, (s.size : Int), 3) := by
            rw [← hQ, if_pos hsh]
            unfold ansOf
            simp
          subst hq
          clear HQ hh hQ hsh
          have HPS := Lib.hid hps
          clear hps
          go_enter Try.func32, Try.ntmps32
          go_wp2_with fail
          refine bodyPost_ret (results32 _ _ w.heap.size 0 (0) ⟨#[]⟩ none 0 0 (s.size : Int) 3 rfl rfl rfl (heap_alloc_new w _)) rfl ?_
          exact RefTo.plain w _ 0 (0) ⟨#[]⟩ _ _
        have hsh' : ¬ (s.size : Int) - (p : Int) - 1 < (wd : Int) := by omega
        rw [if_neg hsh] at hQ
        have hB := fun w => base44 s (p + 1) wd 65535 w (by omega) hs (by omega) (by omega) (r.take wd) (by rw [HR.out])
        have hbm : badM 65535 (r.take wd) = baseBad 3 (r.take wd) := rfl
        rw [hbm] at hB
        by_cases hbb : baseBad 3 (r.take wd) = true
        · rw [if_pos hbb] at hQ
          rw [hbb] at hB
          have HB := Lib.hid hB
          clear hB hbm hbb hsh
          have hq : q = (zeroC, (p : Int), 4) := by
            rw [← hQ]
            rw [ansOf_bad, show (s.size : Int) - ((r.length + 1 : Nat) : Int) = p by omega]
          subst hq
          clear HQ hh hQ
          have HPS := Lib.hid hps
          clear hps
          go_enter Try.func32, Try.ntmps32
          go_wp2_with fail
          refine (HB.out _).mono ?_
          rintro e w2 ⟨rfl, rfl⟩
          go_wp2_with fail
          refine bodyPost_ret (results32 _ _ w.heap.size 0 (0) ⟨#[]⟩ none 0 0 (p : Int) 4 rfl rfl rfl (heap_alloc_new w _)) rfl ?_
          exact RefTo.plain w _ 0 (0) ⟨#[]⟩ _ _
        rw [if_neg hbb] at hQ
        replace hbb := Bool.eq_false_iff.2 hbb
        rw [hbb] at hB
        have hmb := (baseBad_back hbb (by rw [List.length_take]; omega)).2
        have hmm : mostOf 3 = 65535 := rfl
        rw [hmm] at hmb
        obtain ⟨x, hx⟩ : ∃ x, beN (r.take wd) = x := ⟨_, rfl⟩
        obtain ⟨r', hr'⟩ : ∃ r', r.drop wd = r' := ⟨_, rfl⟩
        have hrl : r.length = wd + r'.length := by rw [← hr', List.length_drop]; omega
        have HRD : Hid (s.data.toList.drop (p + 1 + wd) = r') := by unfold Hid; rw [← hr', ← HR.out, List.drop_drop]
        rw [hx] at hB hmb hQ
        rw [hr'] at hQ
        have HB := Lib.hid hB
        clear hB hbm hbb hsh hx hr' hmm HQ hh
        unfold body at hQ
        rw [if_neg (by omega), if_neg (by omega), if_pos rfl] at hQ
        by_cases hsx : r'.length < x
        · rw [if_pos hsx] at hQ
          have hq : q = (zeroC, (s.size : Int), 3) := by
            rw [← hQ]
            unfold ansOf
            simp
          subst hq
          have hsx' : (s.size : Int) - ((p : Int) + 1 + wd) < (x : Int) := by omega
          clear hQ hsx
          have HPS := Lib.hid hps
          have HRL := Lib.hid hrl
          clear hps hrl
          go_enter Try.func32, Try.ntmps32
          go_wp2_with fail
          refine (HB.out _).mono ?_
          rintro e w2 ⟨rfl, rfl⟩
          go_wp2_with fail
          refine bodyPost_ret (results32 _ _ w.heap.size 0 (0) ⟨#[]⟩ none 0 0 (s.size : Int) 3 rfl rfl rfl (heap_alloc_new w _)) rfl ?_
          exact RefTo.plain w _ 0 (0) ⟨#[]⟩ _ _
        rw [if_neg hsx] at hQ
        have hsx' : ¬ (s.size : Int) - ((p : Int) + 1 + wd) < (x : Int) := by omega
        have hcut : s.extract (p + 1 + wd) (p + 1 + wd + x) = ⟨(r'.take x).toArray⟩ := by rw [cutS_extract]; unfold cutS; rw [HRD.out]
        have hq : q = (.mk 2 0 (s.extract (p + 1 + wd) (p + 1 + wd + x)) [], (p : Int) + 1 + wd + x, 0) := by
          rw [← hQ, hcut]
          unfold ansOf
          simp only [List.length_drop]
          congr 2
          omega
        subst hq
        clear hQ hcut hsx
        have HPS := Lib.hid hps
        have HRL := Lib.hid hrl
        clear hps hrl
        go_enter Try.func32, Try.ntmps32
        go_wp2_with fail
        refine (HB.out _).mono ?_
        rintro e w2 ⟨rfl, rfl⟩
        go_wp2_with fail
        refine bodyPost_ret (results32 _ _ w.heap.size 2 (0) (s.extract (p + 1 + wd) (p + 1 + wd + x)) none 0 0 ((p : Int) + 1 + wd + x) 0 rfl rfl rfl (heap_alloc_new w _)) rfl ?_
        exact RefTo.plain w _ 2 (0) (s.extract (p + 1 + wd) (p + 1 + wd + x)) _ _
      by_cases hm0 : m = 4
      · subst hm0
        have k1 : (((4 : Nat) : Int) == 3) = false := rfl
        have k2 : (((4 : Nat) : Int) == 4) = true := rfl
        by_cases hwd : (2 : Int) < (wd : Int)
        · have hh : headOk 4 wd = false := by unfold headOk; simp; omega
          have hq : q = (zeroC, (p : Int), 4) := by
            rw [← HQ.out, hh]
            simp only [if_false, Bool.false_eq_true]
            rw [ansOf_bad, show (s.size : Int) - ((r.length + 1 : Nat) : Int) = p by omega]
          subst hq
          clear HQ hh
          have HPS := Lib.hid hps
          clear hps
          go_enter Try.func32, Try.ntmps32
          go_wp2_with fail
          refine bodyPost_ret (results32 _ _ w.heap.size 0 (0) ⟨#[]⟩ none 0 0 (p : Int) 4 rfl rfl rfl (heap_alloc_new w _)) rfl ?_
          exact RefTo.plain w _ 0 (0) ⟨#[]⟩ _ _
        have hh : headOk 4 wd = true := by unfold headOk; simp; omega
        have hQ := HQ.out
        rw [hh] at hQ
        simp only [if_true] at hQ
        unfold based at hQ
        have hl1 : ¬ (((left + 1 : Nat) : Int) < 1) := by omega
        by_cases hsh : r.length < wd
        · have hsh' : (s.size : Int) - (p : Int) - 1 < (wd : Int) := by omega
          have hq : q = (zeroC, (s.size : Int), 3) := by
            rw [← hQ, if_pos hsh]
            unfold ansOf
            simp
          subst hq
          clear HQ hh hQ hsh
          have HPS := Lib.hid hps
          clear hps
          go_enter Try.func32, Try.ntmps32
          go_wp2_with fail
          refine bodyPost_ret (results32 _ _ w.heap.size 0 (0) ⟨#[]⟩ none 0 0 (s.size : Int) 3 rfl rfl rfl (heap_alloc_new w _)) rfl ?_
          exact RefTo.plain w _ 0 (0) ⟨#[]⟩ _ _
        have hsh' : ¬ (s.size : Int) - (p : Int) - 1 < (wd : Int) := by omega
        rw [if_neg hsh] at hQ
        have hB := fun w => base44 s (p + 1) wd 4095 w (by omega) hs (by omega) (by omega) (r.take wd) (by rw [HR.out])
        have hbm : badM 4095 (r.take wd) = baseBad 4 (r.take wd) := rfl
        rw [hbm] at hB
        by_cases hbb : baseBad 4 (r.take wd) = true
        · rw [if_pos hbb] at hQ
          rw [hbb] at hB
          have HB := Lib.hid hB
          clear hB hbm hbb hsh
          have hq : q = (zeroC, (p : Int), 4) := by
            rw [← hQ]
            rw [ansOf_bad, show (s.size : Int) - ((r.length + 1 : Nat) : Int) = p by omega]
          subst hq
          clear HQ hh hQ
          have HPS := Lib.hid hps
          clear hps
          go_enter Try.func32, Try.ntmps32
          go_wp2_with fail
          refine (HB.out _).mono ?_
          rintro e w2 ⟨rfl, rfl⟩
          go_wp2_with fail
          refine bodyPost_ret (results32 _ _ w.heap.size 0 (0) ⟨#[]⟩ none 0 0 (p : Int) 4 rfl rfl rfl (heap_alloc_new w _)) rfl ?_
          exact RefTo.plain w _ 0 (0) ⟨#[]⟩ _ _
        rw [if_neg hbb] at hQ
        replace hbb := Bool.eq_false_iff.2 hbb
        rw [hbb] at hB
        have hmb := (baseBad_back hbb (by rw [List.length_take]; omega)).2
        have hmm : mostOf 4 = 4095 := rfl
        rw [hmm] at hmb
        obtain ⟨x, hx⟩ : ∃ x, beN (r.take wd) = x := ⟨_, rfl⟩
        obtain ⟨r', hr'⟩ : ∃ r', r.drop wd = r' := ⟨_, rfl⟩
        have hrl : r.length = wd + r'.length := by rw [← hr', List.length_drop]; omega
        have HRD : Hid (s.data.toList.drop (p + 1 + wd) = r') := by unfold Hid; rw [← hr', ← HR.out, List.drop_drop]
        rw [hx] at hB hmb hQ
        rw [hr'] at hQ
        have HB := Lib.hid hB
        clear hB hbm hbb hsh hx hr' hmm HQ hh
        unfold body at hQ
        rw [if_neg (by omega), if_neg (by omega), if_neg (by omega)] at hQ
        have HQQ := Lib.hid hQ
        have HIHn := HIH
        clear hQ
        have HPS := Lib.hid hps
        have HRL := Lib.hid hrl
        clear hps hrl
        go_enter Try.func32, Try.ntmps32
        go_wp2_with fail
        refine (HB.out _).mono ?_
        rintro e w2 ⟨rfl, rfl⟩
        go_wp2_with fail
        obtain ⟨rl, hrl2⟩ : ∃ rl, readsN (parse left) x r' = rl := ⟨_, rfl⟩
        have HRL2 := Lib.hid hrl2
        have hQQ := HQQ.out
        rw [hrl2] at hQQ
        have HQ3 := Lib.hid hQQ
        clear hrl2 hQQ HQQ
        have hps := HPS.out
        have hrl := HRL.out
        go_loopw [16, 18] (fun s16 s18 wr => ∃ (k p' : Nat) (v : Value) (D : List (C × Value)), k ≤ x ∧ s16 = .int .i64 p' ∧ s18 = .int .i64 k ∧ D.length = k ∧ Hid (p' ≤ s.size) ∧ Hid (OwnL wr (w.heap.size + 2) (left + 1) v D) ∧ Hid (Below w.heap.size w wr) ∧ Hid (w.heap.size + 2 ≤ wr.heap.size) ∧ Hid (wr.heap[w.heap.size]? = some (.cells #[.int .i64 0, .int .i64 0, .string ⟨#[]⟩, .slice none 0 0] 25 (0, 0))) ∧ Hid (wr.heap[w.heap.size + 1]? = some (.cells #[.int .i64 3, .int .i64 0, .string ⟨#[]⟩, v] 25 (0, 0))) ∧ Hid (consL (D.map (·.1)) (readsN (parse left) (x - k) (s.data.toList.drop p')) = rl)) (fun _ s18 _ => x - (intOf s18).toNat)
        case atStart =>
          refine ⟨0, p + 1 + wd, .slice none 0 0, [], Nat.zero_le _, by go_num, rfl, rfl, ?_, OwnL.nil _ _ _, ((Below.refl _ w).alloc (Nat.le_refl _) _).alloc (by simp) _, ?_, ?_, heap_alloc2_new w _ _, ?_⟩
          · unfold Hid; omega
          · unfold Hid; simp
          · unfold Hid; rw [Below.heap_alloc _ _ _ (by simp)]; exact heap_alloc_new w _
          · unfold Hid
            rw [HRD.out, Nat.sub_zero, HRL2.out]
            cases rl <;> rfl
        case round =>
          clear hps hrl
          obtain ⟨k, p', v, D, hk, rfl, rfl, rfl, HP', HO, HBW, HZ, HB0, HC0, HT⟩ := hrel
          have HO0 := HO
          obtain ⟨A, cap, rfl⟩ := HO.out.slice
          have hz := HZ.out
          by_cases hlt : D.length < x
          · obtain ⟨n', hn'⟩ : ∃ n', x - D.length = n' + 1 := ⟨x - D.length - 1, by omega⟩
            have hT := HT.out
            rw [hn', readsN_succ] at hT
            obtain ⟨pr, hpr⟩ : ∃ pr, parse left (s.data.toList.drop p') = pr := ⟨_, rfl⟩
            have hC := HIHn.out p' wr HP'.out (by omega)
            rw [hpr] at hC hT
            have HC := Lib.hid hC
            clear hC
            cases pr with
            | bad nb z =>
              have hrl : rl = .bad nb z := by rw [← hT]; rfl
              have hq : q = (zeroC, (s.size : Int) - nb, z) := by rw [← HQ3.out, hrl]; rfl
              subst hq
              have hz0 : (z != 0) = true := by have := parse_bad _ _ _ _ hpr; simpa using this
              rw [ansOf_bad] at HC
              clear hT hrl hpr hn' HT HQ3 HRL2
              go_wp2_with fail
              refine HC.out.mono ?_
              rintro e w2 ⟨u2, rfl, hL2, hb2⟩
              simp only at hL2 ⊢
              unfold zeroC at hL2 ⊢
              rw [l_mk] at hL2
              obtain ⟨A2, cap2, rfl⟩ := hL2.slice
              unfold cellV
              simp only [k_mk, n_mk, s_mk, List.length_nil]
              have hz2 := hb2.size
              have HB2 : Hid ((w2.alloc (.cells #[.int .i64 0, .int .i64 0, .string ⟨#[]⟩, .slice A2 0 cap2] 25)).heap[w.heap.size]? = some (.cells #[.int .i64 0, .int .i64 0, .string ⟨#[]⟩, .slice none 0 0] 25 (0, 0))) := by
                unfold Hid
                rw [Below.heap_alloc _ _ _ (by omega), hb2.block _ (by omega)]
                exact HB0.out
              have HBW2 : Hid (Below w.heap.size w (w2.alloc (.cells #[.int .i64 0, .int .i64 0, .string ⟨#[]⟩, .slice A2 0 cap2] 25))) := (HBW.out.trans (hb2.mono (by omega))).alloc (by omega) _
              have HSS := Lib.hid (size_four 0 0 ⟨#[]⟩ none 0 0)
              have HALL := Lib.hid (all_one 0 0 ⟨#[]⟩ none 0 0)
              clear hL2 hb2 HC HO HO0 HBW HB0 HC0
              go_wp2_with (refine wpList_store_row (P := Try.prog) rfl 25 _ _ rfl w.heap.size #[.int .i64 0, .int .i64 0, .string ⟨#[]⟩, .slice none 0 0] rfl rfl 25 _ HB2.out HSS.out rfl HALL.out ?_)
              refine bodyPost_ret (results32 _ _ w.heap.size 0 0 ⟨#[]⟩ none 0 0 ((s.size : Int) - nb) z rfl rfl rfl (setRow_heap _ w.heap.size _ _ 25 (0, 0) HB2.out)) rfl ?_
              exact ⟨.slice none 0 0, rfl, LIn.nil _ _ _, HBW2.out.trans ⟨rfl, rfl, rfl, by simp, fun i hi => setRow_other _ _ _ _ (by omega)⟩⟩
            | ok c rest =>
              obtain ⟨hrest, hrl2⟩ := parse_rest hpr (by rw [size_data]; exact HP'.out)
              rw [size_data] at hrest hrl2
              obtain ⟨-, hokc, hfit⟩ := parse_ok _ _ _ _ hpr
              have hwf := wf_of_ok hokc hfit
              obtain ⟨ck, cn, cs, cl⟩ := c
              have HWF := Lib.hid hwf
              have HN : Hid (consL (D.map (·.1) ++ [.mk ck cn cs cl]) (readsN (parse left) (x - (D.length + 1)) (s.data.toList.drop (s.size - rest.length))) = rl) := by
                unfold Hid
                rw [← hrest, ← hT, show x - (D.length + 1) = n' by omega]
                simp only
                cases readsN (parse left) n' rest with
                | bad a e => rfl
                | ok l r'' => simp [consL]
              rw [ansOf_ok] at HC
              have hsr : s.size - rest.length ≤ s.size := Nat.sub_le _ _
              obtain ⟨pn, hpn⟩ : ∃ pn, s.size - rest.length = pn := ⟨_, rfl⟩
              rw [hpn] at HC HN hsr
              clear hT HT hpr hrest hrl2 hwf hokc hfit hn' hpn HRL2
              go_wp2_with fail
              refine HC.out.mono ?_
              rintro e w2 ⟨u2, rfl, hL2, hb2⟩
              simp only at hL2 ⊢
              rw [l_mk] at hL2
              obtain ⟨A2, cap2, rfl⟩ := hL2.slice
              obtain ⟨cn2, hcn2⟩ : ∃ cn2, cl.length = cn2 := ⟨_, rfl⟩
              rw [hcn2] at hL2 ⊢
              unfold cellV
              simp only [k_mk, n_mk, s_mk]
              have hz2 := hb2.size
              have hza : (w2.alloc (.cells #[.int .i64 ck, .int .i64 cn, .string cs, .slice A2 cn2 cap2] 25)).heap.size = w2.heap.size + 1 := by simp
              have HO2 : Hid (OwnL (w2.alloc (.cells #[.int .i64 ck, .int .i64 cn, .string cs, .slice A2 cn2 cap2] 25)) (w.heap.size + 2) (left + 1) (.slice A D.length cap) D) := HO.out.kept (row := none) (grown_alloc (grown_of_below hb2 none) _) (fun k e => by cases e)
              have HL2 : Hid (LIn (w2.alloc (.cells #[.int .i64 ck, .int .i64 cn, .string cs, .slice A2 cn2 cap2] 25)) (fun b => wr.heap.size ≤ b ∧ b < (w2.alloc (.cells #[.int .i64 ck, .int .i64 cn, .string cs, .slice A2 cn2 cap2] 25)).heap.size) (left + 1) (.slice A2 cn2 cap2) cl) := hL2.keep (fun b hb => ⟨hb.1, by rw [hza]; omega⟩) fun b o hb => cell_same (Below.heap_alloc _ _ _ hb.2) o
              have HBW2 : Hid (Below w.heap.size w ((w2.alloc (.cells #[.int .i64 ck, .int .i64 cn, .string cs, .slice A2 cn2 cap2] 25)).alloc (.cells #[.int .i64 ck, .int .i64 cn, .string cs, .slice A2 cn2 cap2] 25))) := ((HBW.out.trans (hb2.mono (by omega))).alloc (by omega) _).alloc (by rw [hza]; omega) _
              have hB02 : w2.heap[w.heap.size]? = some (.cells #[.int .i64 0, .int .i64 0, .string ⟨#[]⟩, .slice none 0 0] 25 (0, 0)) := (hb2.block _ (by omega)).trans HB0.out
              have hC02 : w2.heap[w.heap.size + 1]? = some (.cells #[.int .i64 3, .int .i64 0, .string ⟨#[]⟩, .slice A D.length cap] 25 (0, 0)) := (hb2.block _ (by omega)).trans HC0.out
              have c3 : w2.cell? ⟨w.heap.size + 1, 3, none⟩ = some (.slice A D.length cap) := cell_of_row w2 _ 3 _ 25 (0, 0) hC02
              have HB02 := Lib.hid hB02
              have HC02 := Lib.hid hC02
              have hlt2 : w.heap.size + 1 < w2.heap.size := by omega
              obtain ⟨i0, hi, hz0, hz1, hz2'⟩ := info25
              clear hL2 hb2 HC HBW HB0 HC0 hB02 hC02 hcn2
              go_wp2_with (at_builtin; go_must (refine wpList_append_lies _ rfl _ _ 23 rfl (w.heap.size + 2) 25 i0 _ 4 56 Try.underlying23 hi hz0 hz1 hz2' rfl (by omega) _ D.length (rcells D) rfl ?own ⟨w2.heap.size + 1, 0, none⟩ 1 1 (rowC (.mk ck cn cs cl, .slice A2 cn2 cap2)) rfl rfl ?news ?one (by omega) ?c3 ?c4 ?c5 _ rfl ?_))
              case own => exact World.ownsRow.alloc HO2.out.row _
              case news =>
                refine World.news_of_block (cs := #[.int .i64 ck, .int .i64 cn, .string cs, .slice A2 cn2 cap2]) (t := 25) (fr := (0, 0)) ?_
                have := heap_alloc_new (w2.alloc (.cells #[.int .i64 ck, .int .i64 cn, .string cs, .slice A2 cn2 cap2] 25)) (.cells #[.int .i64 ck, .int .i64 cn, .string cs, .slice A2 cn2 cap2] 25)
                rw [hza] at this
                exact this
              case one => simp [rowC, Value.oneCell']
              case c3 => unfold maxLen; omega
              case c4 => omega
              case c5 => simp; omega
              rintro g c w3 ho hg hgl hlt3
              have hgl' : (Value.slice A D.length cap).ownBlock = some g ∨ g = (w2.alloc (.cells #[.int .i64 ck, .int .i64 cn, .string cs, .slice A2 cn2 cap2] 25)).heap.size + 1 := by rw [hza]; simpa using hgl
              have hO3 := OwnL.snoc HO0.out hz HO2.out HL2.out HWF.out ho hg hgl'
              have hbs : ∀ i, (Value.slice A D.length cap).ownBlock = some i → w.heap.size + 2 ≤ i := fun i e => (HO2.out.row.lt i e).1
              have hz3 := hg.size
              have hzb : ((w2.alloc (.cells #[.int .i64 ck, .int .i64 cn, .string cs, .slice A2 cn2 cap2] 25)).alloc (.cells #[.int .i64 ck, .int .i64 cn, .string cs, .slice A2 cn2 cap2] 25)).heap.size = w2.heap.size + 2 := by simp
              rw [hzb] at hz3
              have hB03 : w3.heap[w.heap.size]? = some (.cells #[.int .i64 0, .int .i64 0, .string ⟨#[]⟩, .slice none 0 0] 25 (0, 0)) := by
                rw [hg.block _ (by rw [hzb]; omega) (fun e => by have := hbs _ e.symm; omega), Below.heap_alloc _ _ _ (by rw [hza]; omega), Below.heap_alloc _ _ _ (by omega)]
                exact HB02.out
              have hC03 : w3.heap[w.heap.size + 1]? = some (.cells #[.int .i64 3, .int .i64 0, .string ⟨#[]⟩, .slice A D.length cap] 25 (0, 0)) := by
                rw [hg.block _ (by rw [hzb]; omega) (fun e => by have := hbs _ e.symm; omega), Below.heap_alloc _ _ _ (by rw [hza]; omega), Below.heap_alloc _ _ _ (by omega)]
                exact HC02.out
              have c3' : w3.cell? ⟨w.heap.size + 1, 3, none⟩ = some (.slice A D.length cap) := cell_of_row w3 _ 3 _ 25 (0, 0) hC03
              have z3 : w3.frozen? ⟨w.heap.size + 1, 3, none⟩ = false := by simp [World.frozen?, hC03]
              have HC4 : Hid ((w3.setCell ⟨w.heap.size + 1, 3, none⟩ (.slice (some ⟨g, 0, none⟩) (D.length + 1) c)).heap[w.heap.size + 1]? = some (.cells #[.int .i64 3, .int .i64 0, .string ⟨#[]⟩, .slice (some ⟨g, 0, none⟩) (D.length + 1) c] 25 (0, 0))) := set_row hC03 3 _
              have HB4 : Hid ((w3.setCell ⟨w.heap.size + 1, 3, none⟩ (.slice (some ⟨g, 0, none⟩) (D.length + 1) c)).heap[w.heap.size]? = some (.cells #[.int .i64 0, .int .i64 0, .string ⟨#[]⟩, .slice none 0 0] 25 (0, 0))) := (Below.heap_setCell _ _ _ _ (by simp only; omega)).trans hB03
              have HO4 : Hid (OwnL (w3.setCell ⟨w.heap.size + 1, 3, none⟩ (.slice (some ⟨g, 0, none⟩) (D.length + 1) c)) (w.heap.size + 2) (left + 1) (.slice (some ⟨g, 0, none⟩) (D.length + 1) c) (D ++ [(C.mk ck cn cs cl, Value.slice A2 cn2 cap2)])) := hO3.kept (grown_set w3 (w.heap.size + 1) 3 _) (fun k e => by injection e with e; omega)
              have HBW4 : Hid (Below w.heap.size w (w3.setCell ⟨w.heap.size + 1, 3, none⟩ (.slice (some ⟨g, 0, none⟩) (D.length + 1) c))) := (HBW2.out.grown hg (by rw [hzb]; omega) (fun k e => by have := hbs k e; omega)).setCell (p := ⟨w.heap.size + 1, 3, none⟩) (Nat.le_succ _) _
              have HZ4 : Hid (w.heap.size + 2 ≤ (w3.setCell ⟨w.heap.size + 1, 3, none⟩ (.slice (some ⟨g, 0, none⟩) (D.length + 1) c)).heap.size) := by
                unfold Hid
                have : (w3.setCell ⟨w.heap.size + 1, 3, none⟩ (.slice (some ⟨g, 0, none⟩) (D.length + 1) c)).heap.size = w3.heap.size := by simp [World.setCell]
                omega
              have HDL : Hid ((D ++ [(C.mk ck cn cs cl, Value.slice A2 cn2 cap2)]).length = D.length + 1) := by unfold Hid; rw [List.length_append]; rfl
              have HN2 : Hid (consL ((D ++ [(C.mk ck cn cs cl, Value.slice A2 cn2 cap2)]).map (·.1)) (readsN (parse left) (x - (D.length + 1)) (s.data.toList.drop pn)) = rl) := by unfold Hid; rw [List.map_append]; exact HN.out
              have HSR := Lib.hid hsr
              clear ho hg hgl hgl' hbs hO3 HO2 HO0 HO HBW2 HL2 HN hB03 hC03 HB02 HC02 c3 hsr
              go_wp2_with fail
              go_roundw
              case rel => exact ⟨D.length + 1, pn, .slice (some ⟨g, 0, none⟩) (D.length + 1) c, D ++ [(C.mk ck cn cs cl, Value.slice A2 cn2 cap2)], by omega, rfl, by go_num, HDL.out, HSR, HO4, HBW4, HZ4, HB4, HC4, HN2⟩
              case measure => simp [intOf]; omega
          · have hk2 : x - D.length = 0 := by omega
            have hrl : rl = .ok (D.map (·.1)) (s.data.toList.drop p') := by rw [← HT.out, hk2]; simp [readsN, consL]
            have hq : q = (.mk 3 0 ⟨#[]⟩ (D.map (·.1)), (p' : Int), 0) := by
              rw [← HQ3.out, hrl]
              show ansOf s.size (.ok (.mk 3 0 ⟨#[]⟩ (D.map (·.1))) (s.data.toList.drop p')) = _
              rw [ansOf_ok, List.length_drop, size_data]
              have := HP'.out
              rw [show s.size - (s.size - p') = p' by omega]
            subst hq
            have hC0 := HC0.out
            have f0 : wr.cell? ⟨w.heap.size + 1, 0, none⟩ = some (.int .i64 3) := cell_of_row wr _ 0 _ 25 (0, 0) hC0
            have f1 : wr.cell? ⟨w.heap.size + 1, 1, none⟩ = some (.int .i64 0) := cell_of_row wr _ 1 _ 25 (0, 0) hC0
            have f2 : wr.cell? ⟨w.heap.size + 1, 2, none⟩ = some (.string ⟨#[]⟩) := cell_of_row wr _ 2 _ 25 (0, 0) hC0
            have f3 : wr.cell? ⟨w.heap.size + 1, 3, none⟩ = some (.slice A D.length cap) := cell_of_row wr _ 3 _ 25 (0, 0) hC0
            have HSS := Lib.hid (size_four 3 0 ⟨#[]⟩ A D.length cap)
            have HALL := Lib.hid (all_one 3 0 ⟨#[]⟩ A D.length cap)
            clear hC0 HT HQ3 HRL2 hrl hk2 HO
            go_wp2_with (refine wpList_store_row (P := Try.prog) rfl 25 _ _ rfl w.heap.size #[.int .i64 3, .int .i64 0, .string ⟨#[]⟩, .slice A D.length cap] rfl rfl 25 _ HB0.out HSS.out rfl HALL.out ?_)
            refine bodyPost_ret (results32 _ _ w.heap.size 3 0 ⟨#[]⟩ A D.length cap (p' : Int) 0 rfl rfl rfl (setRow_heap _ w.heap.size _ _ 25 (0, 0) HB0.out)) rfl ?_
            refine ⟨.slice A D.length cap, rfl, ?_, HBW.out.trans ⟨rfl, rfl, rfl, by simp, fun i hi => setRow_other _ _ _ _ (by omega)⟩⟩
            rw [setRow_size]
            exact HO0.out.list.keep (fun b hb => ⟨by omega, hb.2⟩) fun b o' hb => cell_same (setRow_other _ _ _ _ (by omega)) o' 
      have hh : headOk m wd = false := by unfold headOk; simp; omega
      have k1 : ((m : Int) == 3) = false := beq_eq_false_iff_ne.2 (by omega)
      have k2 : ((m : Int) == 4) = false := beq_eq_false_iff_ne.2 (by omega)
      have hq : q = (zeroC, (p : Int), 4) := by
        rw [← HQ.out, hh]
        simp only [if_false, Bool.false_eq_true]
        rw [ansOf_bad, show (s.size : Int) - ((r.length + 1 : Nat) : Int) = p by omega]
      subst hq
      clear HQ hh
      by_cases hm1 : (m : Int) < 1
      · clear hps
        go_enter Try.func32, Try.ntmps32
        go_wp2_with fail
        refine bodyPost_ret (results32 _ _ w.heap.size 0 (0) ⟨#[]⟩ none 0 0 (p : Int) 4 rfl rfl rfl (heap_alloc_new w _)) rfl ?_
        exact RefTo.plain w _ 0 (0) ⟨#[]⟩ _ _
      have hm2 : (4 : Int) < (m : Int) := by omega
      have HPS := Lib.hid hps
      clear hps
      go_enter Try.func32, Try.ntmps32
      go_wp2_with fail
      refine bodyPost_ret (results32 _ _ w.heap.size 0 (0) ⟨#[]⟩ none 0 0 (p : Int) 4 rfl rfl rfl (heap_alloc_new w _)) rfl ?_
      exact RefTo.plain w _ 0 (0) ⟨#[]⟩ _ _
end Go.Proofs.Ytdmalkkpcggifaa
