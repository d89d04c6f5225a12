/-
  Reading a cell, as plain data: what is read is an encoding, bytes behind play no part, and few parts make few bytes. No condition.
-/
import Derived.Test.YtdmalkkpcggifaaG
namespace Go.Proofs.Ytdmalkkpcggifaa
open Go.RowKit

theorem head_back (b : UInt8) (m w : Nat) (hm : b.toNat / 16 = m) (hw : b.toNat % 16 = w) : UInt8.ofNat (m * 16 + w) = b := by
  have : m * 16 + w = b.toNat := by omega
  rw [this, UInt8.ofNat_toNat]
theorem headOk_lt {m w : Nat} (h : headOk m w = true) : w ≤ 8 := by
  unfold headOk at h
  simp only [Bool.or_eq_true, Bool.and_eq_true, decide_eq_true_eq] at h
  omega
theorem headOk_m {m w : Nat} (h : headOk m w = true) : m = 1 ∨ m = 2 ∨ m = 3 ∨ m = 4 := by
  unfold headOk at h
  simp only [Bool.or_eq_true, Bool.and_eq_true, decide_eq_true_eq] at h
  omega

theorem readsN_ok {d : Nat} (hf : ∀ x c r, parse d x = .ok c r → x = encC d c ++ r ∧ okC d c = true ∧ Fit d c) :
    ∀ (n : Nat) (x : List UInt8) (l : List C) (r : List UInt8), readsN (parse d) n x = .ok l r → x = l.flatMap (encC d) ++ r ∧ l.all (okC d) = true ∧ (∀ y ∈ l, Fit d y) ∧ l.length = n := by
  intro n
  induction n with
  | zero => intro x l r h; rw [readsN] at h; injection h with h1 h2; subst h1 h2; simp
  | succ n ih =>
    intro x l r h
    rw [readsN] at h
    cases hq : parse d x with
    | bad a e => rw [hq] at h; cases h
    | ok c r' =>
      rw [hq] at h
      simp only at h
      cases hq2 : readsN (parse d) n r' with
      | bad a e => rw [hq2] at h; cases h
      | ok l' r'' =>
        rw [hq2] at h
        injection h with h1 h2
        subst h1 h2
        obtain ⟨e1, e2, e3⟩ := hf _ _ _ hq
        obtain ⟨f1, f2, f3, f4⟩ := ih _ _ _ hq2
        refine ⟨by rw [e1, f1, List.flatMap_cons, List.append_assoc], by rw [List.all_cons, e2, f2]; rfl, ?_, by rw [List.length_cons, f4]⟩
        intro y hy
        rcases List.mem_cons.1 hy with rfl | hy
        · exact e3
        · exact f3 y hy

theorem parse_ok (d : Nat) : ∀ (x : List UInt8) (c : C) (r : List UInt8), parse d x = .ok c r → x = encC d c ++ r ∧ okC d c = true ∧ Fit d c := by
  induction d with
  | zero => intro x c r h; cases x with | nil => rw [parse_nil] at h; cases h | cons b x => rw [parse_zero] at h; cases h
  | succ d ih =>
    intro x c r h
    cases x with
    | nil => rw [parse_nil] at h; cases h
    | cons b x =>
      rw [parse_succ] at h
      by_cases hh : ¬ headOk (b.toNat / 16) (b.toNat % 16) = true
      · rw [if_neg hh] at h; cases h
      replace hh := Decidable.not_not.1 hh
      rw [if_pos hh] at h
      obtain ⟨m, hm⟩ : ∃ m, b.toNat / 16 = m := ⟨_, rfl⟩
      obtain ⟨w, hw⟩ : ∃ w, b.toNat % 16 = w := ⟨_, rfl⟩
      rw [hm, hw] at h hh
      have hb := head_back b m w hm hw
      unfold based at h
      by_cases h1 : x.length < w
      · rw [if_pos h1] at h; cases h
      rw [if_neg h1] at h
      by_cases h2 : baseBad m (x.take w) = true
      · rw [if_pos h2] at h; cases h
      rw [if_neg h2] at h
      have hw8 := headOk_lt hh
      have htl : (x.take w).length = w := by rw [List.length_take]; omega
      obtain ⟨h3, h4⟩ := baseBad_back (by simpa using h2) (by omega : (x.take w).length ≤ 8)
      have hx : x = x.take w ++ x.drop w := (List.take_append_drop w x).symm
      have hlt := mostOf_lt m
      generalize x.take w = tw at h htl h3 h4 hx
      generalize x.drop w = dw at h hx
      subst hx
      generalize hB : beN tw = B at h h3 h4
      unfold body at h
      by_cases m1 : m = 1
      · rw [if_pos m1] at h
        injection h with e1 e2
        subst e1 e2 m1
        have hmk : markOf 1 (B : Int) = 1 * 16 := by unfold markOf; simp
        have hbs : baseOf 1 (B : Int) ⟨#[]⟩ [] = B := by unfold baseOf; simp; omega
        refine ⟨?_, by rw [okC_succ]; simp [ByteArray.toList_eq], ?_⟩
        · rw [encC_succ, hmk, hbs, h3, htl, hb]; simp
        · rw [Fit_succ]; refine ⟨by omega, by omega, by simp⟩
      rw [if_neg m1] at h
      by_cases m2 : m = 2
      · rw [if_pos m2] at h
        injection h with e1 e2
        subst e1 e2 m2
        have hmk : markOf 1 (-(B : Int) - 1) = 2 * 16 := by unfold markOf; simp; omega
        have hbs : baseOf 1 (-(B : Int) - 1) ⟨#[]⟩ [] = B := by unfold baseOf; simp; omega
        refine ⟨?_, by rw [okC_succ]; simp [ByteArray.toList_eq], ?_⟩
        · rw [encC_succ, hmk, hbs, h3, htl, hb]; simp
        · rw [Fit_succ]; refine ⟨by omega, by omega, by simp⟩
      rw [if_neg m2] at h
      by_cases m3 : m = 3
      · rw [if_pos m3] at h
        by_cases h5 : dw.length < B
        · rw [if_pos h5] at h; cases h
        rw [if_neg h5] at h
        injection h with e1 e2
        subst e1 e2 m3
        have hsz : (⟨(dw.take B).toArray⟩ : ByteArray).size = B := by simp [ByteArray.size]; omega
        have hmk : markOf 2 0 = 3 * 16 := rfl
        have hbs : baseOf 2 0 ⟨(dw.take B).toArray⟩ [] = B := by unfold baseOf; rw [if_pos rfl, hsz]
        refine ⟨?_, ?_, ?_⟩
        · rw [encC_succ, hmk, hbs, h3, htl, hb, data_mk]; simp
        · rw [okC_succ, hsz]; unfold mostOf at h4; simp at h4 ⊢; exact h4
        · rw [Fit_succ]; refine ⟨by omega, by omega, by simp⟩
      rw [if_neg m3] at h
      have m4 : m = 4 := by have := headOk_m hh; omega
      cases hq : readsN (parse d) B dw with
      | bad a e => rw [hq] at h; cases h
      | ok l r' =>
        rw [hq] at h
        injection h with e1 e2
        subst e1 e2 m4
        obtain ⟨f1, f2, f3, f4⟩ := readsN_ok ih _ _ _ _ hq
        have hmk : markOf 3 0 = 4 * 16 := rfl
        have hbs : baseOf 3 0 ⟨#[]⟩ l = B := f4
        unfold mostOf at h4
        simp at h4
        refine ⟨?_, ?_, ?_⟩
        · rw [encC_succ, hmk, hbs, h3, htl, hb, f1]; simp
        · rw [okC_succ, f2, f4]; simp [ByteArray.toList_eq, h4]
        · rw [Fit_succ]; exact ⟨by omega, by omega, f3⟩

/-- What is read of bytes with y behind, by what is read of them. -/
def More (y : List UInt8) : PR → PR → Prop
  | .ok c r, q => q = .ok c (r ++ y)
  | .bad n e, q => (e = 3 ∧ n = 0) ∨ (e ≠ 3 ∧ q = .bad (n + y.length) e)
def MoreL (y : List UInt8) : PL → PL → Prop
  | .ok c r, q => q = .ok c (r ++ y)
  | .bad n e, q => (e = 3 ∧ n = 0) ∨ (e ≠ 3 ∧ q = .bad (n + y.length) e)

theorem readsN_more {d : Nat} {y : List UInt8} (hf : ∀ x, More y (parse d x) (parse d (x ++ y))) : ∀ (n : Nat) (x : List UInt8), MoreL y (readsN (parse d) n x) (readsN (parse d) n (x ++ y)) := by
  intro n
  induction n with
  | zero => intro x; rfl
  | succ n ih =>
    intro x
    rw [readsN, readsN]
    have := hf x
    cases hq : parse d x with
    | bad a e =>
      rw [hq] at this
      rcases this with h | ⟨h1, h2⟩
      · exact .inl h
      · rw [h2]; exact .inr ⟨h1, rfl⟩
    | ok c r' =>
      rw [hq] at this
      unfold More at this
      rw [this]
      simp only
      have := ih r'
      cases hq2 : readsN (parse d) n r' with
      | bad a e =>
        rw [hq2] at this
        rcases this with h | ⟨h1, h2⟩
        · exact .inl h
        · rw [h2]; exact .inr ⟨h1, rfl⟩
      | ok l r'' =>
        rw [hq2] at this
        unfold MoreL at this
        rw [this]
        rfl

theorem parse_more (d : Nat) (y : List UInt8) : ∀ (x : List UInt8), More y (parse d x) (parse d (x ++ y)) := by
  induction d with
  | zero =>
    intro x
    cases x with
    | nil => exact .inl ⟨rfl, rfl⟩
    | cons b x =>
      rw [List.cons_append, parse_zero, parse_zero]
      refine .inr ⟨by split <;> omega, ?_⟩
      rw [List.length_append]
      congr 1
      omega
  | succ d ih =>
    intro x
    cases x with
    | nil => rw [parse_nil]; exact .inl ⟨rfl, rfl⟩
    | cons b x =>
      rw [List.cons_append, parse_succ, parse_succ]
      by_cases hh : ¬ headOk (b.toNat / 16) (b.toNat % 16) = true
      · rw [if_neg hh, if_neg hh]
        refine .inr ⟨by omega, ?_⟩
        rw [List.length_append]
        congr 1
        omega
      replace hh := Decidable.not_not.1 hh
      rw [if_pos hh, if_pos hh]
      clear hh
      generalize b.toNat / 16 = m
      generalize b.toNat % 16 = w
      unfold based
      by_cases h1 : x.length < w
      · rw [if_pos h1]; exact .inl ⟨rfl, rfl⟩
      have h1' : ¬ (x ++ y).length < w := by rw [List.length_append]; omega
      rw [if_neg h1, if_neg h1', List.take_append_of_le_length (by omega), List.drop_append_of_le_length (by omega)]
      by_cases h3 : baseBad m (x.take w) = true
      · rw [if_pos h3, if_pos h3]
        refine .inr ⟨by omega, ?_⟩
        rw [List.length_append]
        congr 1
        omega
      rw [if_neg h3, if_neg h3]
      generalize beN (x.take w) = B
      generalize x.drop w = dw
      unfold body
      split
      · rfl
      split
      · rfl
      split
      · by_cases h2 : dw.length < B
        · rw [if_pos h2]; exact .inl ⟨rfl, rfl⟩
        · have h2' : ¬ (dw ++ y).length < B := by rw [List.length_append]; omega
          rw [if_neg h2, if_neg h2', List.take_append_of_le_length (by omega), List.drop_append_of_le_length (by omega)]
          rfl
      · have := readsN_more ih B dw
        cases hq : readsN (parse d) B dw with
        | bad a e =>
          rw [hq] at this
          rcases this with h | ⟨h1, h2⟩
          · exact .inl h
          · rw [h2]; exact .inr ⟨h1, rfl⟩
        | ok l r =>
          rw [hq] at this
          unfold MoreL at this
          rw [this]
          rfl

/-- No beginning of an encoding is one. -/
theorem parse_cut {d : Nat} {c : C} (hok : okC d c = true) (hfit : Fit d c) (k : Nat) (hk : k < (encC d c).length) : parse d ((encC d c).take k) = .bad 0 3 := by
  have h := parse_enc d c [] hok hfit
  rw [List.append_nil] at h
  have hm := parse_more d ((encC d c).drop k) ((encC d c).take k)
  rw [List.take_append_drop, h] at hm
  cases hq : parse d ((encC d c).take k) with
  | ok c' r =>
    rw [hq] at hm
    injection hm with e1 e2
    have := congrArg List.length e2
    rw [List.length_append, List.length_drop] at this
    simp at this
    omega
  | bad n e =>
    rw [hq] at hm
    rcases hm with ⟨rfl, rfl⟩ | ⟨_, h2⟩
    · rfl
    · cases h2

theorem encC_pos {d : Nat} {c : C} (hok : okC d c = true) : 0 < (encC d c).length := by
  cases d with
  | zero => cases hok
  | succ d => obtain ⟨k, n, s, l⟩ := c; rw [encC_succ]; simp

/-- Few parts make few bytes. -/
theorem few_enc (D : Nat) : ∀ (d : Nat) (c : C) (left : Int), okC D c = true → 0 < fewM d c left → ((encC D c).length : Int) ≤ 110 * (left - fewM d c left) := by
  induction D with
  | zero => intro d c left h; cases h
  | succ D ih =>
    intro d c left hok hfew
    obtain ⟨k, n, s, l⟩ := c
    have hall := okC_list hok
    cases d with
    | zero => unfold fewM at hfew; omega
    | succ d =>
      rw [fewM_succ] at hfew ⊢
      split at hfew
      · omega
      rename_i h1
      rw [if_neg h1]
      have key : ∀ (l : List C) (r : Int), l.all (okC D) = true → 0 < l.foldl (fewF (fewM d)) r → ((l.flatMap (encC D)).length : Int) ≤ 110 * (r - l.foldl (fewF (fewM d)) r) := by
        intro l
        induction l with
        | nil => intro r _ _; simp
        | cons x l ihl =>
          intro r h2 h3
          rw [List.all_cons, Bool.and_eq_true] at h2
          rw [List.foldl_cons] at h3 ⊢
          rw [List.flatMap_cons, List.length_append]
          have a := ihl _ h2.2 h3
          by_cases hr : 0 < r
          · have e : fewF (fewM d) r x = fewM d x r := by unfold fewF; rw [if_pos hr]
            rw [e] at a h3 ⊢
            by_cases hp : 0 < fewM d x r
            · have := ih d x r h2.1 hp
              omega
            · rw [few_stop _ _ _ hp] at h3; omega
          · have e : fewF (fewM d) r x = r := by unfold fewF; rw [if_neg hr]
            rw [e, few_stop _ _ _ hr] at h3
            omega
      have a := key l _ hall hfew
      rw [encC_succ]
      have h8 := bytesF_length 8 (baseOf k n s l)
      have hd : s.data.toList.length = s.size := by simp
      simp only [List.length_cons, List.length_append]
      rw [hd]
      omega
end Go.Proofs.Ytdmalkkpcggifaa
