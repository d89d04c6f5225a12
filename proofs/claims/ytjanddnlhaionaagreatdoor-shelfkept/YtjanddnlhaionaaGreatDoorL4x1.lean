/-
  Reading a cell, as plain data: the reader undoes the encoding, reads nothing but encodings, and does not look behind them. No condition. Reading a cell, as plain data: what is read is an encoding, bytes behind play no part, and few parts make few bytes. No condition. The reader in memory; the contracts of readBytes. No condition but bounds on lengths. The contract of readBase. No condition but bounds on lengths. The contracts of meaningOf, limits, Num and Text. No condition.
-/
import Derived.Test.YtjanddnlhaionaaGreatDoorL4x0
import Derived.Laws.Bits64b
import Derived.Laws.BitsAllLaws
set_option maxRecDepth 100000
namespace Go.Proofs.YtjanddnlhaionaaGreatDoor.L4
open Go.RowKit

inductive PR where
  | ok (c : C) (r : List UInt8)
  | bad (n : Nat) (e : Int)
inductive PL where
  | ok (l : List C) (r : List UInt8)
  | bad (n : Nat) (e : Int)

def beN (l : List UInt8) : Nat := l.foldl (fun x b => x * 256 + b.toNat) 0
def mostOf (m : Nat) : Nat := if m = 3 then 65535 else if m = 4 then 4095 else 9223372036854775807
def headOk (m w : Nat) : Bool := (decide (m = 1) && decide (w ≤ 8)) || (decide (m = 2) && decide (w ≤ 8)) || (decide (m = 3) && decide (w ≤ 2)) || (decide (m = 4) && decide (w ≤ 2))
/-- The bytes of a base are none, or tell more than may be. -/
def baseBad (m : Nat) (l : List UInt8) : Bool := (match l with | [] => false | b :: _ => decide (b.toNat = 0)) || decide (mostOf m < beN l)

def readsN (f : List UInt8 → PR) : Nat → List UInt8 → PL
  | 0, r => .ok [] r
  | n + 1, r => match f r with
    | .bad a e => .bad a e
    | .ok c r' => match readsN f n r' with
      | .bad a e => .bad a e
      | .ok l r'' => .ok (c :: l) r''

/-- What comes behind the base. -/
def body (f : List UInt8 → PR) (m x : Nat) (r : List UInt8) : PR :=
  if m = 1 then .ok (.mk 1 x ⟨#[]⟩ []) r
  else if m = 2 then .ok (.mk 1 (-(x : Int) - 1) ⟨#[]⟩ []) r
  else if m = 3 then if r.length < x then .bad 0 3 else .ok (.mk 2 0 ⟨(r.take x).toArray⟩ []) (r.drop x)
  else match readsN f x r with
    | .bad a e => .bad a e
    | .ok l r' => .ok (.mk 3 0 ⟨#[]⟩ l) r'

/-- What comes behind the first byte. -/
def based (f : List UInt8 → PR) (m w : Nat) (r : List UInt8) : PR :=
  if r.length < w then .bad 0 3
  else if baseBad m (r.take w) then .bad (r.length + 1) 4
  else body f m (beN (r.take w)) (r.drop w)

def parse : Nat → List UInt8 → PR
  | _, [] => .bad 0 3
  | 0, b :: r => .bad (r.length + 1) (if headOk (b.toNat / 16) (b.toNat % 16) then 5 else 4)
  | d + 1, b :: r => if headOk (b.toNat / 16) (b.toNat % 16) then based (parse d) (b.toNat / 16) (b.toNat % 16) r else .bad (r.length + 1) 4
theorem parse_nil (d : Nat) : parse d [] = .bad 0 3 := by cases d <;> rfl
theorem parse_zero (b : UInt8) (r : List UInt8) : parse 0 (b :: r) = .bad (r.length + 1) (if headOk (b.toNat / 16) (b.toNat % 16) then 5 else 4) := rfl
theorem parse_succ (d : Nat) (b : UInt8) (r : List UInt8) : parse (d + 1) (b :: r) = if headOk (b.toNat / 16) (b.toNat % 16) then based (parse d) (b.toNat / 16) (b.toNat % 16) r else .bad (r.length + 1) 4 := rfl

/-! The base's bytes. -/

theorem beN_snoc (l : List UInt8) (b : UInt8) : beN (l ++ [b]) = beN l * 256 + b.toNat := by
  unfold beN; rw [List.foldl_append]; rfl
theorem beN_bytesF (f : Nat) : ∀ b, b < 256 ^ f → beN (bytesF f b) = b := by
  induction f with
  | zero => intro b h; simp at h; subst h; rfl
  | succ f ih =>
    intro b h
    rw [bytesF_succ]
    split
    · rename_i h0; subst h0; rfl
    · rw [beN_snoc, ih (b / 256) (by rw [Nat.pow_succ] at h; exact Nat.div_lt_of_lt_mul (by omega)), UInt8.toNat_ofNat']
      omega
theorem bytesF_head (f : Nat) : ∀ b c l, bytesF f b = c :: l → b < 256 ^ f → c.toNat ≠ 0 := by
  induction f with
  | zero => intro b c l h; cases h
  | succ f ih =>
    intro b c l h hb
    rw [bytesF_succ] at h
    split at h
    · cases h
    · rename_i h0
      rw [Nat.pow_succ] at hb
      have hb' : b / 256 < 256 ^ f := Nat.div_lt_of_lt_mul (by omega)
      cases hq : bytesF f (b / 256) with
      | nil =>
        rw [hq] at h
        simp only [List.nil_append, List.cons.injEq] at h
        have hz : b / 256 = 0 := by
          have := beN_bytesF f (b / 256) hb'
          rw [hq] at this
          exact this.symm
        rw [← h.1, UInt8.toNat_ofNat']
        omega
      | cons c' l' =>
        rw [hq, List.cons_append] at h
        injection h with h1 h2
        subst h1
        exact ih _ _ _ hq hb'
theorem beN_lt (l : List UInt8) : beN l < 256 ^ l.length := by
  have key : ∀ (n : Nat) (l : List UInt8), l.length = n → beN l < 256 ^ n := by
    intro n
    induction n with
    | zero => intro l h; have := List.length_eq_zero_iff.1 h; subst this; simp [beN]
    | succ n ih =>
      intro l h
      have hne : l ≠ [] := by intro e; subst e; simp at h
      obtain ⟨l', b, rfl⟩ : ∃ l' b, l = l' ++ [b] := ⟨_, _, (List.dropLast_concat_getLast hne).symm⟩
      rw [beN_snoc]
      have := ih l' (by simpa using h)
      have hb := b.toNat_lt
      rw [Nat.pow_succ]
      omega
  exact key _ l rfl
theorem beN_pos (l : List UInt8) (c : UInt8) (h : c.toNat ≠ 0) : beN (c :: l) ≠ 0 := by
  have key : ∀ (l : List UInt8) (x : Nat), x ≠ 0 → l.foldl (fun x b => x * 256 + b.toNat) x ≠ 0 := by
    intro l
    induction l with
    | nil => intro x h; exact h
    | cons b l ih => intro x h; rw [List.foldl_cons]; exact ih _ (by omega)
  unfold beN
  rw [List.foldl_cons]
  exact key l _ (by omega)
theorem bytesF_beN (f : Nat) : ∀ (l : List UInt8), l.length ≤ f → (∀ c l', l = c :: l' → c.toNat ≠ 0) → bytesF f (beN l) = l := by
  induction f with
  | zero => intro l h _; have := List.length_eq_zero_iff.1 (Nat.le_zero.1 h); subst this; rfl
  | succ f ih =>
    intro l h hh
    cases l with
    | nil => exact bytesF_zero _
    | cons c l =>
      have hp := beN_pos l c (hh c l rfl)
      rw [bytesF_succ, if_neg hp]
      obtain ⟨l', b, e⟩ : ∃ l' b, c :: l = l' ++ [b] := ⟨_, _, (List.dropLast_concat_getLast (by simp)).symm⟩
      rw [e, beN_snoc]
      have hb := b.toNat_lt
      have e1 : (beN l' * 256 + b.toNat) / 256 = beN l' := by omega
      have e2 : (beN l' * 256 + b.toNat) % 256 = b.toNat := by omega
      rw [e1, e2, ih, UInt8.ofNat_toNat]
      · have := congrArg List.length e
        simp at this h
        omega
      · intro c' l2 e3
        subst e3
        rw [List.cons_append] at e
        injection e with e4 _
        subst e4
        exact hh c l rfl

theorem baseBad_bytes (m b : Nat) (h : b < 256 ^ 8) (hm : b ≤ mostOf m) : baseBad m (bytesF 8 b) = false := by
  unfold baseBad
  rw [beN_bytesF 8 b h]
  cases hq : bytesF 8 b with
  | nil => simp; omega
  | cons c l => simp; exact ⟨fun e => bytesF_head 8 b c l hq h e, hm⟩
theorem baseBad_back {m : Nat} {l : List UInt8} (h : baseBad m l = false) (hl : l.length ≤ 8) : bytesF 8 (beN l) = l ∧ beN l ≤ mostOf m := by
  unfold baseBad at h
  rw [Bool.or_eq_false_iff] at h
  refine ⟨bytesF_beN 8 l hl ?_, by simpa using h.2⟩
  intro c l' e
  subst e
  simpa using h.1

theorem mostOf_lt (m : Nat) : mostOf m < 9223372036854775808 := by unfold mostOf; split <;> (try split) <;> omega
theorem bytesF_short2 (b : Nat) (h : b ≤ 65535) : (bytesF 8 b).length ≤ 2 := by
  have h2 : bytesF 8 b = bytesF 2 b := by
    have e := bytesF_beN 8 (bytesF 2 b) (by have := bytesF_length 2 b; omega) (fun c l' e => bytesF_head 2 b c l' e (by omega))
    rw [beN_bytesF 2 b (by omega)] at e
    exact e
  rw [h2]
  exact bytesF_length 2 b

/-! Numbers of a cell and of the cells within are ints. -/
def Fit : Nat → C → Prop
  | 0, _ => True
  | d + 1, .mk _ n _ l => -9223372036854775808 ≤ n ∧ n ≤ 9223372036854775807 ∧ ∀ x ∈ l, Fit d x
theorem Fit_succ (d : Nat) (k n : Int) (s : ByteArray) (l : List C) : Fit (d + 1) (.mk k n s l) ↔ (-9223372036854775808 ≤ n ∧ n ≤ 9223372036854775807 ∧ ∀ x ∈ l, Fit d x) := Iff.rfl

theorem readsN_enc {d : Nat} (hf : ∀ c rest, okC d c = true → Fit d c → parse d (encC d c ++ rest) = .ok c rest) :
    ∀ (l : List C) (rest : List UInt8), l.all (okC d) = true → (∀ x ∈ l, Fit d x) → readsN (parse d) l.length (l.flatMap (encC d) ++ rest) = .ok l rest := by
  intro l
  induction l with
  | nil => intro rest _ _; rfl
  | cons x l ih =>
    intro rest h1 h2
    rw [List.all_cons, Bool.and_eq_true] at h1
    rw [List.length_cons, List.flatMap_cons, List.append_assoc, readsN, hf x _ h1.1 (h2 x (List.mem_cons_self ..))]
    simp only
    rw [ih rest h1.2 (fun y hy => h2 y (List.mem_cons_of_mem _ hy))]

theorem toList_empty {s : ByteArray} (h : s.toList.isEmpty = true) : s = ⟨#[]⟩ := bytes_ext (by rw [List.isEmpty_iff] at h; rw [h, ByteArray.toList_eq])
theorem data_mk (l : List UInt8) : (⟨l.toArray⟩ : ByteArray).data.toList = l := rfl
theorem mk_data (s : ByteArray) : (⟨s.data.toList.toArray⟩ : ByteArray) = s := by cases s; simp

theorem based_enc {f : List UInt8 → PR} {m b : Nat} (h : b < 256 ^ 8) (hm : b ≤ mostOf m) (rest : List UInt8) : based f m (bytesF 8 b).length (bytesF 8 b ++ rest) = body f m b rest := by
  unfold based
  rw [if_neg (by rw [List.length_append]; omega), List.take_left, baseBad_bytes m b h hm]
  rw [List.drop_left, beN_bytesF 8 b h]
  rfl

theorem head_byte (m w : Nat) (hm : m < 8) (hw : w < 16) : (UInt8.ofNat (m * 16 + w)).toNat / 16 = m ∧ (UInt8.ofNat (m * 16 + w)).toNat % 16 = w := by
  rw [UInt8.toNat_ofNat']; omega

theorem parse_enc (d : Nat) : ∀ (c : C) (rest : List UInt8), okC d c = true → Fit d c → parse d (encC d c ++ rest) = .ok c rest := by
  induction d with
  | zero => intro c rest h; cases h
  | succ d ih =>
    intro c rest hok hfit
    obtain ⟨k, n, s, l⟩ := c
    have hb := baseOf_lt hok ((Fit_succ ..).1 hfit).1 ((Fit_succ ..).1 hfit).2.1
    rw [Fit_succ] at hfit
    rw [okC_succ] at hok
    rw [encC_succ, List.cons_append, List.append_assoc, List.append_assoc, parse_succ]
    have h8 := bytesF_length 8 (baseOf k n s l)
    by_cases k1 : k = 1
    · subst k1
      rw [if_pos rfl, Bool.and_eq_true] at hok
      have hs := toList_empty hok.1
      have hl : l = [] := List.length_eq_zero_iff.1 (by simpa using hok.2)
      subst hs hl
      by_cases hn : n < 0
      · have hm : markOf 1 n = 2 * 16 := by unfold markOf; simp [hn]
        have hbe : (baseOf 1 n ⟨#[]⟩ [] : Int) = -(n + 1) := by unfold baseOf; simp [hn]; omega
        rw [hm, (head_byte 2 _ (by omega) (by omega)).1, (head_byte 2 _ (by omega) (by omega)).2, if_pos (by unfold headOk; simp; omega), based_enc (by omega) (by unfold mostOf; simp; omega)]
        unfold body
        simp
        omega
      · have hm : markOf 1 n = 1 * 16 := by unfold markOf; simp [hn]
        have hbe : (baseOf 1 n ⟨#[]⟩ [] : Int) = n := by unfold baseOf; simp [hn]; omega
        rw [hm, (head_byte 1 _ (by omega) (by omega)).1, (head_byte 1 _ (by omega) (by omega)).2, if_pos (by unfold headOk; simp; omega), based_enc (by omega) (by unfold mostOf; simp; omega)]
        unfold body
        simp
        omega
    · rw [if_neg k1] at hok
      by_cases k2 : k = 2
      · subst k2
        rw [if_pos rfl] at hok
        simp only [Bool.and_eq_true, decide_eq_true_eq] at hok
        obtain ⟨rfl, hl, hsz⟩ := hok
        have hl : l = [] := List.length_eq_zero_iff.1 hl
        subst hl
        have hm : markOf 2 0 = 3 * 16 := rfl
        have hbe : baseOf 2 0 s [] = s.size := rfl
        have hd : s.data.toList.length = s.size := by simp
        rw [hbe] at h8 hb ⊢
        have h2 := bytesF_short2 s.size hsz
        rw [hm, (head_byte 3 _ (by omega) (by omega)).1, (head_byte 3 _ (by omega) (by omega)).2, if_pos (by unfold headOk; simp; omega), based_enc (by omega) (by unfold mostOf; simp; omega)]
        unfold body
        rw [if_neg (by omega), if_neg (by omega), if_pos rfl, if_neg (by rw [List.length_append, hd]; omega), ← hd, List.take_left, List.drop_left, mk_data]
        simp
      · rw [if_neg k2] at hok
        by_cases k3 : k = 3
        · subst k3
          rw [if_pos rfl] at hok
          simp only [Bool.and_eq_true, decide_eq_true_eq] at hok
          obtain ⟨rfl, hs, hl, hall⟩ := hok
          have hs := toList_empty hs
          subst hs
          have hm : markOf 3 0 = 4 * 16 := rfl
          have hbe : baseOf 3 0 ⟨#[]⟩ l = l.length := rfl
          rw [hbe] at h8 hb ⊢
          have h2 := bytesF_short2 l.length (by omega)
          rw [hm, (head_byte 4 _ (by omega) (by omega)).1, (head_byte 4 _ (by omega) (by omega)).2, if_pos (by unfold headOk; simp; omega), based_enc (by omega) (by unfold mostOf; simp; omega)]
          unfold body
          rw [if_neg (by omega), if_neg (by omega), if_neg (by omega)]
          have := readsN_enc ih l rest hall hfit.2.2
          simp only [List.nil_append]
          rw [this]
        · rw [if_neg k3] at hok; cases hok
end Go.Proofs.YtjanddnlhaionaaGreatDoor.L4
namespace Go.Proofs.YtjanddnlhaionaaGreatDoor.L4
open Go.RowKit

theorem head_back (b : UInt8) (m w : Nat) (hm : b.toNat / 16 = m) (hw : b.toNat % 16 = w) : UInt8.ofNat (m * 16 + w) = b := by
  have : m * 16 + w = b.toNat := by omega
  rw [this, UInt8.ofNat_toNat]
theorem headOk_lt {m w : Nat} (h : headOk m w = true) : w ≤ 8 := by
  unfold headOk at h
  simp only [Bool.or_eq_true, Bool.and_eq_true, decide_eq_true_eq] at h
  omega
theorem headOk_m {m w : Nat} (h : headOk m w = true) : m = 1 ∨ m = 2 ∨ m = 3 ∨ m = 4 := by
  unfold headOk at h
  simp only [Bool.or_eq_true, Bool.and_eq_true, decide_eq_true_eq] at h
  omega

theorem readsN_ok {d : Nat} (hf : ∀ x c r, parse d x = .ok c r → x = encC d c ++ r ∧ okC d c = true ∧ Fit d c) :
    ∀ (n : Nat) (x : List UInt8) (l : List C) (r : List UInt8), readsN (parse d) n x = .ok l r → x = l.flatMap (encC d) ++ r ∧ l.all (okC d) = true ∧ (∀ y ∈ l, Fit d y) ∧ l.length = n := by
  intro n
  induction n with
  | zero => intro x l r h; rw [readsN] at h; injection h with h1 h2; subst h1 h2; simp
  | succ n ih =>
    intro x l r h
    rw [readsN] at h
    cases hq : parse d x with
    | bad a e => rw [hq] at h; cases h
    | ok c r' =>
      rw [hq] at h
      simp only at h
      cases hq2 : readsN (parse d) n r' with
      | bad a e => rw [hq2] at h; cases h
      | ok l' r'' =>
        rw [hq2] at h
        injection h with h1 h2
        subst h1 h2
        obtain ⟨e1, e2, e3⟩ := hf _ _ _ hq
        obtain ⟨f1, f2, f3, f4⟩ := ih _ _ _ hq2
        refine ⟨by rw [e1, f1, List.flatMap_cons, List.append_assoc], by rw [List.all_cons, e2, f2]; rfl, ?_, by rw [List.length_cons, f4]⟩
        intro y hy
        rcases List.mem_cons.1 hy with rfl | hy
        · exact e3
        · exact f3 y hy

theorem parse_ok (d : Nat) : ∀ (x : List UInt8) (c : C) (r : List UInt8), parse d x = .ok c r → x = encC d c ++ r ∧ okC d c = true ∧ Fit d c := by
  induction d with
  | zero => intro x c r h; cases x with | nil => rw [parse_nil] at h; cases h | cons b x => rw [parse_zero] at h; cases h
  | succ d ih =>
    intro x c r h
    cases x with
    | nil => rw [parse_nil] at h; cases h
    | cons b x =>
      rw [parse_succ] at h
      by_cases hh : ¬ headOk (b.toNat / 16) (b.toNat % 16) = true
      · rw [if_neg hh] at h; cases h
      replace hh := Decidable.not_not.1 hh
      rw [if_pos hh] at h
      obtain ⟨m, hm⟩ : ∃ m, b.toNat / 16 = m := ⟨_, rfl⟩
      obtain ⟨w, hw⟩ : ∃ w, b.toNat % 16 = w := ⟨_, rfl⟩
      rw [hm, hw] at h hh
      have hb := head_back b m w hm hw
      unfold based at h
      by_cases h1 : x.length < w
      · rw [if_pos h1] at h; cases h
      rw [if_neg h1] at h
      by_cases h2 : baseBad m (x.take w) = true
      · rw [if_pos h2] at h; cases h
      rw [if_neg h2] at h
      have hw8 := headOk_lt hh
      have htl : (x.take w).length = w := by rw [List.length_take]; omega
      obtain ⟨h3, h4⟩ := baseBad_back (by simpa using h2) (by omega : (x.take w).length ≤ 8)
      have hx : x = x.take w ++ x.drop w := (List.take_append_drop w x).symm
      have hlt := mostOf_lt m
      generalize x.take w = tw at h htl h3 h4 hx
      generalize x.drop w = dw at h hx
      subst hx
      generalize hB : beN tw = B at h h3 h4
      unfold body at h
      by_cases m1 : m = 1
      · rw [if_pos m1] at h
        injection h with e1 e2
        subst e1 e2 m1
        have hmk : markOf 1 (B : Int) = 1 * 16 := by unfold markOf; simp
        have hbs : baseOf 1 (B : Int) ⟨#[]⟩ [] = B := by unfold baseOf; simp; omega
        refine ⟨?_, by rw [okC_succ]; simp [ByteArray.toList_eq], ?_⟩
        · rw [encC_succ, hmk, hbs, h3, htl, hb]; simp
        · rw [Fit_succ]; refine ⟨by omega, by omega, by simp⟩
      rw [if_neg m1] at h
      by_cases m2 : m = 2
      · rw [if_pos m2] at h
        injection h with e1 e2
        subst e1 e2 m2
        have hmk : markOf 1 (-(B : Int) - 1) = 2 * 16 := by unfold markOf; simp; omega
        have hbs : baseOf 1 (-(B : Int) - 1) ⟨#[]⟩ [] = B := by unfold baseOf; simp; omega
        refine ⟨?_, by rw [okC_succ]; simp [ByteArray.toList_eq], ?_⟩
        · rw [encC_succ, hmk, hbs, h3, htl, hb]; simp
        · rw [Fit_succ]; refine ⟨by omega, by omega, by simp⟩
      rw [if_neg m2] at h
      by_cases m3 : m = 3
      · rw [if_pos m3] at h
        by_cases h5 : dw.length < B
        · rw [if_pos h5] at h; cases h
        rw [if_neg h5] at h
        injection h with e1 e2
        subst e1 e2 m3
        have hsz : (⟨(dw.take B).toArray⟩ : ByteArray).size = B := by simp [ByteArray.size]; omega
        have hmk : markOf 2 0 = 3 * 16 := rfl
        have hbs : baseOf 2 0 ⟨(dw.take B).toArray⟩ [] = B := by unfold baseOf; rw [if_pos rfl, hsz]
        refine ⟨?_, ?_, ?_⟩
        · rw [encC_succ, hmk, hbs, h3, htl, hb, data_mk]; simp
        · rw [okC_succ, hsz]; unfold mostOf at h4; simp at h4 ⊢; exact h4
        · rw [Fit_succ]; refine ⟨by omega, by omega, by simp⟩
      rw [if_neg m3] at h
      have m4 : m = 4 := by have := headOk_m hh; omega
      cases hq : readsN (parse d) B dw with
      | bad a e => rw [hq] at h; cases h
      | ok l r' =>
        rw [hq] at h
        injection h with e1 e2
        subst e1 e2 m4
        obtain ⟨f1, f2, f3, f4⟩ := readsN_ok ih _ _ _ _ hq
        have hmk : markOf 3 0 = 4 * 16 := rfl
        have hbs : baseOf 3 0 ⟨#[]⟩ l = B := f4
        unfold mostOf at h4
        simp at h4
        refine ⟨?_, ?_, ?_⟩
        · rw [encC_succ, hmk, hbs, h3, htl, hb, f1]; simp
        · rw [okC_succ, f2, f4]; simp [ByteArray.toList_eq, h4]
        · rw [Fit_succ]; exact ⟨by omega, by omega, f3⟩

/-- What is read of bytes with y behind, by what is read of them. -/
def More (y : List UInt8) : PR → PR → Prop
  | .ok c r, q => q = .ok c (r ++ y)
  | .bad n e, q => (e = 3 ∧ n = 0) ∨ (e ≠ 3 ∧ q = .bad (n + y.length) e)
def MoreL (y : List UInt8) : PL → PL → Prop
  | .ok c r, q => q = .ok c (r ++ y)
  | .bad n e, q => (e = 3 ∧ n = 0) ∨ (e ≠ 3 ∧ q = .bad (n + y.length) e)

theorem encC_pos {d : Nat} {c : C} (hok : okC d c = true) : 0 < (encC d c).length := by
  cases d with
  | zero => cases hok
  | succ d => obtain ⟨k, n, s, l⟩ := c; rw [encC_succ]; simp

end Go.Proofs.YtjanddnlhaionaaGreatDoor.L4
namespace Go.Proofs.YtjanddnlhaionaaGreatDoor.L4
open Go.RowKit

/-- At block R lies a reader of s, at place p. -/
def RdAt (w : World) (R : Nat) (s : ByteArray) (p : Nat) : Prop := w.heap[R]? = some (.cells #[.string s, .int .i64 p] 230 (0, 0))
theorem RdAt.c0 {w : World} {R : Nat} {s : ByteArray} {p : Nat} (h : RdAt w R s p) : w.cell? ⟨R, 0, none⟩ = some (.string s) := cell_of_row w R 0 _ 230 (0, 0) h
theorem RdAt.c1 {w : World} {R : Nat} {s : ByteArray} {p : Nat} (h : RdAt w R s p) : w.cell? ⟨R, 1, none⟩ = some (.int .i64 p) := cell_of_row w R 1 _ 230 (0, 0) h
theorem RdAt.fz {w : World} {R : Nat} {s : ByteArray} {p : Nat} (h : RdAt w R s p) (j : Nat) : w.frozen? ⟨R, j, none⟩ = false := by
  unfold RdAt at h
  simp [World.frozen?, h]
theorem RdAt.lt {w : World} {R : Nat} {s : ByteArray} {p : Nat} (h : RdAt w R s p) : R < w.heap.size := (Array.getElem?_eq_some_iff.1 h).1
theorem RdAt.set {w : World} {R : Nat} {s : ByteArray} {p : Nat} (h : RdAt w R s p) (q : Nat) : RdAt (w.setCell ⟨R, 1, none⟩ (.int .i64 q)) R s q := by
  unfold RdAt at h ⊢
  simp only [World.setCell, Array.getElem?_modify, h]
  simp
theorem RdAt.set' {w : World} {R : Nat} {s : ByteArray} {p : Nat} (h : RdAt w R s p) (q : Nat) (z : Int) (hz : (q : Int) = z) : RdAt (w.setCell ⟨R, 1, none⟩ (.int .i64 z)) R s q := by
  subst hz
  exact h.set q
theorem RdAt.drewN {w : World} {R : Nat} {s : ByteArray} {p : Nat} (h : RdAt w R s p) (n : Nat) : RdAt (w.drewN n) R s p := h
theorem RdAt.alloc {w : World} {R : Nat} {s : ByteArray} {p : Nat} (h : RdAt w R s p) (o : Obj) : RdAt (w.alloc o) R s p := by
  unfold RdAt
  rw [Below.heap_alloc w o R h.lt]
  exact h
theorem RdAt.below {w w' : World} {R : Nat} {s : ByteArray} {p : Nat} (h : RdAt w R s p) (hb : Below w.heap.size w w') : RdAt w' R s p := by
  unfold RdAt
  rw [hb.block R h.lt]
  exact h
theorem RdAt.grown {w w' : World} {R : Nat} {s : ByteArray} {p : Nat} {row : Option Nat} (h : RdAt w R s p) (hg : w.grownBy w' row) (hr : some R ≠ row) : RdAt w' R s p := by
  unfold RdAt
  rw [hg.block R h.lt hr]
  exact h

theorem grown_refl (w : World) (row : Option Nat) : w.grownBy w row := ⟨rfl, rfl, rfl, Nat.le_refl _, fun _ _ _ => rfl⟩
theorem grown_trans {a b c : World} {row : Option Nat} (h : a.grownBy b row) (k : b.grownBy c row) : a.grownBy c row :=
  ⟨k.os.trans h.os, k.tape.trans h.tape, k.output.trans h.output, Nat.le_trans h.size k.size, fun i hi hn => (k.block i (Nat.lt_of_lt_of_le hi h.size) hn).trans (h.block i hi hn)⟩
theorem grown_set (w : World) (R : Nat) (j : Nat) (u : Value) : w.grownBy (w.setCell ⟨R, j, none⟩ u) (some R) :=
  ⟨rfl, rfl, rfl, by simp [World.setCell], fun k _ hn => Below.heap_setCell _ _ _ _ (fun e => hn (by rw [e]))⟩
theorem grown_drewN (w : World) (n : Nat) (row : Option Nat) : w.grownBy (w.drewN n) row := ⟨rfl, rfl, rfl, Nat.le_refl _, fun _ _ _ => rfl⟩
theorem grown_alloc {w w' : World} {row : Option Nat} (h : w.grownBy w' row) (o : Obj) : w.grownBy (w'.alloc o) row := grown_trans h (World.grownBy_alloc w' o row)

/-- What was read of s from p on, n bytes. -/
def cutS (s : ByteArray) (p n : Nat) : ByteArray := ⟨((s.data.toList.drop p).take n).toArray⟩
theorem cutS_extract (s : ByteArray) (p n : Nat) : s.extract p (p + n) = cutS s p n := by
  unfold cutS
  apply bytes_ext
  rw [ByteArray.toList_eq, ByteArray.toList_eq]
  simp

set_option maxHeartbeats 400000 in
theorem readBytes41 (R p n : Nat) (s : ByteArray) (w : World) (h : RdAt w R s p) (hp : p + n ≤ s.size) (hs : s.size ≤ 1000000000) :
    Calls Tryz.prog 184 #[.pointer (some ⟨R, 0, none⟩), .int .i64 n] w fun e w' => e = .returned (.string (cutS s p n)) ∧ RdAt w' R s (p + n) ∧ w.grownBy w' (some R) := by
  have c0 := h.c0
  have c1 := h.c1
  have z1 := h.fz 1
  have HR := Lib.hid h
  have hle : ¬ (s.size : Int) - (p : Int) < (n : Int) := by omega
  clear h
  go_enter Tryz.func184, Tryz.ntmps184
  go_wp2_with fail
  go_quiet (fail)
  go_wp2_with fail
  go_quiet (fail)
  go_wp2_with fail
  go_ret
  refine ⟨by rw [← cutS_extract]; rfl, ?_, ?_⟩
  · exact ((HR.out.drewN _).set' (p + n) _ (by omega)).drewN _
  · exact grown_trans (grown_trans (grown_drewN w _ _) (grown_set _ R 1 _)) (grown_drewN _ _ _)

/-- A reader's panic. -/
def failV (a e : Int) : Value := .iface 227 (.agg #[.int .i64 a, .int .i64 e])
def Fails (a e : Int) (o : Ending) : Prop := o = .panicked [{ v := failV a e, recovered := false }]

set_option maxHeartbeats 400000 in
theorem readBytes41_short (R p n : Nat) (s : ByteArray) (w : World) (h : RdAt w R s p) (hp : p ≤ s.size) (hn : s.size < p + n) (hn2 : n ≤ 9223372036854775807) :
    Calls Tryz.prog 184 #[.pointer (some ⟨R, 0, none⟩), .int .i64 n] w fun e w' => Fails s.size 3 e ∧ w.grownBy w' (some R) := by
  have c0 := h.c0
  have c1 := h.c1
  have HR := Lib.hid h
  have hle : (s.size : Int) - (p : Int) < (n : Int) := by omega
  clear h
  go_enter Tryz.func184, Tryz.ntmps184
  go_wp2_with fail
  go_quiet (fail)
  go_wp2_with fail
  exact ⟨rfl, rfl, grown_drewN w _ _⟩
end Go.Proofs.YtjanddnlhaionaaGreatDoor.L4
namespace Go.Proofs.YtjanddnlhaionaaGreatDoor.L4
open Go.RowKit

theorem size_data (s : ByteArray) : s.data.toList.length = s.size := by cases s; rfl

set_option maxHeartbeats 400000 in
theorem readBase42_short (R p width most : Nat) (begin : Int) (s : ByteArray) (w : World) (h : RdAt w R s p) (hp : p ≤ s.size) (hn : s.size < p + width) (hw : width ≤ 8) :
    Calls Tryz.prog 185 #[.pointer (some ⟨R, 0, none⟩), .int .i64 begin, .agg #[.int .i64 width, .int .u64 most]] w fun e w' => Fails s.size 3 e ∧ w.grownBy w' (some R) := by
  have HC := Lib.hid (readBytes41_short R p width s (w.alloc (.cells #[.int .i64 width, .int .u64 most] 273)) (h.alloc _) hp hn (by omega))
  clear h
  go_enter Tryz.func185, Tryz.ntmps185
  go_wp2_with fail
  refine HC.out.mono ?_
  rintro e w' ⟨rfl, hg⟩
  exact ⟨rfl, rfl, grown_trans (World.grownBy_alloc w _ _) hg⟩

/-- What readBase comes to. -/
def BaseTo (R p width most : Nat) (begin : Int) (s : ByteArray) (l : List UInt8) (w : World) (e : Ending) (w' : World) : Prop :=
  w.grownBy w' (some R) ∧ if ((match l with | [] => false | b :: _ => decide (b.toNat = 0)) || decide (most < beN l)) = true then Fails begin 4 e else e = .returned (.int .i64 (beN l : Nat)) ∧ RdAt w' R s (p + width)

theorem or_byte (x b : Nat) (hx : x < 72057594037927936) (hb : b < 256) : bits BinOp.or IntKind.u64 (IntKind.u64.wrap ((x : Int) * 256)) (IntKind.u64.wrap (b : Int)) = ((x * 256 + b : Nat) : Int) := by
  rw [IntWalk.u64_in _ (by omega), IntWalk.u64_in _ (by omega)]
  have e : ((x : Int) * 256) = ((x * 256 : Nat) : Int) := by omega
  rw [e, bits_or_u64_nat _ _ (by omega) (by omega)]
  congr 1
  have := Nat.shiftLeft_add_eq_or_of_lt (show b < 2 ^ 8 by omega) x
  rw [Nat.shiftLeft_eq, show (2 : Nat) ^ 8 = 256 from rfl] at this
  omega

theorem beN_take_succ (l : List UInt8) (i : Nat) (h : i < l.length) : beN (l.take (i + 1)) = beN (l.take i) * 256 + l[i].toNat := by
  rw [List.take_succ_eq_append_getElem h, beN_snoc]

set_option maxRecDepth 10000 in
set_option maxHeartbeats 1000000 in
theorem readBase42 (R p width most : Nat) (begin : Int) (s : ByteArray) (w : World) (h : RdAt w R s p) (hp : p + width ≤ s.size) (hs : s.size ≤ 1000000000) (hw : width ≤ 8) (hm : most < 9223372036854775808) (l : List UInt8) (hl : (s.data.toList.drop p).take width = l) :
    Calls Tryz.prog 185 #[.pointer (some ⟨R, 0, none⟩), .int .i64 begin, .agg #[.int .i64 width, .int .u64 most]] w (BaseTo R p width most begin s l w) := by
  have HC := Lib.hid (readBytes41 R p width s (w.alloc (.cells #[.int .i64 width, .int .u64 most] 273)) (h.alloc _) hp hs)
  have hRl := h.lt
  have hll : l.length = width := by
    rw [← hl, List.length_take, List.length_drop, size_data]
    omega
  have HLL := Lib.hid hll
  obtain ⟨t, hct, hsz, hti⟩ : ∃ t, cutS s p width = t ∧ t.size = width ∧ ∀ i (h1 : i < t.size) (h2 : i < l.length), t[i] = l[i] := ⟨⟨l.toArray⟩, by unfold cutS; rw [hl], hll, fun _ _ _ => rfl⟩
  rw [hct] at HC
  have HTI := Lib.hid hti
  clear h hl hp hs hct hti hll
  go_enter Tryz.func185, Tryz.ntmps185
  go_wp2_with fail
  refine HC.out.mono ?_
  rintro e w' ⟨rfl, hr, hg⟩
  have HR := Lib.hid hr
  have HG := Lib.hid (grown_trans (World.grownBy_alloc w _ _) hg)
  have hne : some w.heap.size ≠ some R := fun e => by injection e with e; omega
  have b0 : w'.cell? ⟨w.heap.size, 0, none⟩ = some (.int .i64 width) := hg.cell (a := ⟨w.heap.size, 0, none⟩) (World.cell?_alloc_at _ 273 _ _ rfl) hne
  have b1 : w'.cell? ⟨w.heap.size, 1, none⟩ = some (.int .u64 most) := hg.cell (a := ⟨w.heap.size, 1, none⟩) (World.cell?_alloc_at _ 273 _ _ rfl) hne
  clear hr hg hne HC
  go_wp2_with fail
  go_loop [8, 16] (fun s8 s16 => ∃ (i x : Nat), i ≤ width ∧ s8 = .int .u64 x ∧ s16 = .int .i64 i ∧ Hid (beN (l.take i) = x)) (fun _ s16 => width - (intOf s16).toNat)
  case atStart => exact ⟨0, 0, Nat.zero_le _, rfl, rfl, rfl⟩
  case round =>
    obtain ⟨i, x, hi, rfl, rfl, HX⟩ := hrel
    by_cases hlt : i < width
    · have hx := beN_lt (l.take i)
      rw [HX.out, List.length_take] at hx
      have hx2 : x < 72057594037927936 := Nat.lt_of_lt_of_le hx (show 256 ^ _ ≤ 256 ^ 7 from Nat.pow_le_pow_right (by omega) (by omega))
      have HN : Hid (beN (l.take (i + 1)) = x * 256 + (t[i]'(by omega)).toNat) := by
        unfold Hid
        rw [beN_take_succ l i (by have := HLL.out; omega), HX.out, HTI.out i _ _]
      have hor := or_byte x (t[i]'(by omega)).toNat hx2 (UInt8.toNat_lt _)
      clear hx hx2 HX
      go_wp2_with fail
      go_round
      case rel => exact ⟨i + 1, _, by omega, rfl, by go_num, HN.out⟩
      case measure => simp [intOf]; omega
    · have hiw : i = width := by omega
      have hx : beN l = x := by rw [← HX.out, hiw, List.take_of_length_le (by have := HLL.out; omega)]
      have hx' : x < 9223372036854775808 ∨ most < x := by omega
      clear HX
      have HB : Hid (∀ b, ((match l with | [] => false | b :: _ => decide (b.toNat = 0)) || decide (most < beN l)) = b → BaseTo R p width most begin s l w (if b = true then .panicked [{ v := failV begin 4, recovered := false }] else .returned (.int .i64 (x : Nat))) w') := by
        intro b hb
        refine ⟨HG.out, ?_⟩
        rw [hb, hx]
        cases b with
        | true => rfl
        | false => exact ⟨rfl, HR.out⟩
      have HXX := Lib.hid hx
      clear hx
      by_cases hw0 : width = 0
      · have hl0 : l = [] := List.length_eq_zero_iff.1 (by have := HLL.out; omega)
        have hx0 : x = 0 := by rw [← HXX.out, hl0]; rfl
        have he := HB.out false (by rw [hl0]; simp [beN])
        rw [hl0, hw0, hx0] at he
        have HE := Lib.hid he
        subst hx0
        have hw1 : ¬ (0 : Int) < (width : Int) := by omega
        clear HB hx' he
        go_wp2_with fail
        go_ret
        exact HE.out
      · have hw1 : (0 : Int) < (width : Int) := by omega
        have h0 : t[0]'(by omega) = l[0]'(by have := HLL.out; omega) := HTI.out 0 _ _
        obtain ⟨c, l', hc⟩ : ∃ c l', l = c :: l' := by
          cases l with
          | nil => have := HLL.out; simp at this; omega
          | cons c l' => exact ⟨c, l', rfl⟩
        have h0' : t[0]'(by omega) = c := by rw [h0]; simp [hc]
        by_cases hz : c.toNat = 0
        · have hzz : (((t[0]'(by omega)).toNat : Int) == 0) = true := by rw [h0', hz]; rfl
          have HE := Lib.hid (HB.out true (by rw [hc]; simp only [hz]; rfl))
          clear HB h0 h0' hx' hc
          go_wp2_with fail
          exact ⟨rfl, HE.out⟩
        · have hzz : (((t[0]'(by omega)).toNat : Int) == 0) = false := by rw [h0']; simp; omega
          by_cases hmx : most < x
          · have HE := Lib.hid (HB.out true (by rw [HXX.out]; simp [hmx]))
            clear HB h0 h0' hx' hc
            go_wp2_with fail
            exact ⟨rfl, HE.out⟩
          · have HE := Lib.hid (HB.out false (by rw [HXX.out, hc]; simp [hmx]; simpa using hz))
            have hxl : x < 9223372036854775808 := by omega
            clear HB h0 h0' hx' hc
            go_wp2_with fail
            go_ret
            exact HE.out
end Go.Proofs.YtjanddnlhaionaaGreatDoor.L4
namespace Go.Proofs.YtjanddnlhaionaaGreatDoor.L4
open Go.RowKit

theorem and15 (b : Nat) (h : b < 256) : bits .and .u8 (b : Int) 15 = ((b % 16 : Nat) : Int) := by
  have := u8_and_nat b 15 h (by omega)
  rw [show ((15 : Nat) : Int) = 15 from rfl] at this
  rw [this]
  congr 1
  exact (show ∀ x : Fin 256, x.val &&& 15 = x.val % 16 by decide +kernel) ⟨b, h⟩
theorem and240 (b : Nat) (h : b < 256) : bits .and .u8 (b : Int) 240 = ((b / 16 * 16 : Nat) : Int) := by
  have := u8_and_nat b 240 h (by omega)
  rw [show ((240 : Nat) : Int) = 240 from rfl] at this
  rw [this]
  congr 1
  exact (show ∀ x : Fin 256, x.val &&& 240 = x.val / 16 * 16 by decide +kernel) ⟨b, h⟩

def tyOf (m : Nat) : TypeId := if m = 1 then 276 else if m = 2 then 277 else if m = 3 then 278 else 300
def headV (m w : Nat) : Value := .agg #[.int .i64 w, .int .u64 (mostOf m)]
def meaningV (m w : Nat) : Value := if headOk m w = true then .iface (tyOf m) (headV m w) else .nilIface

set_option maxHeartbeats 1000000 in
theorem meaningOf40 (b : Nat) (hb : b < 256) (w : World) : Calls Tryz.prog 183 #[.int .u8 b] w fun e w' => e = .returned (meaningV (b / 16) (b % 16)) ∧ w = w' := by
  have h15 := and15 b hb
  have h240 := and240 b hb
  have hw16 : b % 16 < 16 := by omega
  have hm16 : b / 16 < 16 := by omega
  generalize b % 16 = wd at h15 hw16 ⊢
  generalize b / 16 = m at h240 hm16 ⊢
  by_cases m1 : m = 1
  · subst m1
    rw [show ((1 * 16 : Nat) : Int) = 16 from rfl] at h240
    by_cases hw : (wd : Int) ≤ 8
    · have e : meaningV 1 wd = .iface 276 (.agg #[.int .i64 wd, .int .u64 9223372036854775807]) := by unfold meaningV; rw [if_pos (by unfold headOk; simp; omega)]; rfl
      rw [e]; clear e
      go_enter Tryz.func183, Tryz.ntmps183
      go_wp2_with fail
      go_ret
      exact ⟨rfl, rfl⟩
    · have e : meaningV 1 wd = .nilIface := by unfold meaningV; rw [if_neg (by unfold headOk; simp; omega)]
      rw [e]; clear e
      go_enter Tryz.func183, Tryz.ntmps183
      go_wp2_with fail
      go_ret
      exact ⟨rfl, rfl⟩
  by_cases m2 : m = 2
  · subst m2
    rw [show ((2 * 16 : Nat) : Int) = 32 from rfl] at h240
    by_cases hw : (wd : Int) ≤ 8
    · have e : meaningV 2 wd = .iface 277 (.agg #[.int .i64 wd, .int .u64 9223372036854775807]) := by unfold meaningV; rw [if_pos (by unfold headOk; simp; omega)]; rfl
      rw [e]; clear e
      go_enter Tryz.func183, Tryz.ntmps183
      go_wp2_with fail
      go_ret
      exact ⟨rfl, rfl⟩
    · have e : meaningV 2 wd = .nilIface := by unfold meaningV; rw [if_neg (by unfold headOk; simp; omega)]
      rw [e]; clear e
      go_enter Tryz.func183, Tryz.ntmps183
      go_wp2_with fail
      go_ret
      exact ⟨rfl, rfl⟩
  by_cases m3 : m = 3
  · subst m3
    rw [show ((3 * 16 : Nat) : Int) = 48 from rfl] at h240
    by_cases hw : (wd : Int) ≤ 2
    · have e : meaningV 3 wd = .iface 278 (.agg #[.int .i64 wd, .int .u64 65535]) := by unfold meaningV; rw [if_pos (by unfold headOk; simp; omega)]; rfl
      rw [e]; clear e
      go_enter Tryz.func183, Tryz.ntmps183
      go_wp2_with fail
      go_ret
      exact ⟨rfl, rfl⟩
    · have e : meaningV 3 wd = .nilIface := by unfold meaningV; rw [if_neg (by unfold headOk; simp; omega)]
      rw [e]; clear e
      go_enter Tryz.func183, Tryz.ntmps183
      go_wp2_with fail
      go_ret
      exact ⟨rfl, rfl⟩
  by_cases m4 : m = 4
  · subst m4
    rw [show ((4 * 16 : Nat) : Int) = 64 from rfl] at h240
    by_cases hw : (wd : Int) ≤ 2
    · have e : meaningV 4 wd = .iface 300 (.agg #[.int .i64 wd, .int .u64 4095]) := by unfold meaningV; rw [if_pos (by unfold headOk; simp; omega)]; rfl
      rw [e]; clear e
      go_enter Tryz.func183, Tryz.ntmps183
      go_wp2_with fail
      go_ret
      exact ⟨rfl, rfl⟩
    · have e : meaningV 4 wd = .nilIface := by unfold meaningV; rw [if_neg (by unfold headOk; simp; omega)]
      rw [e]; clear e
      go_enter Tryz.func183, Tryz.ntmps183
      go_wp2_with fail
      go_ret
      exact ⟨rfl, rfl⟩
  · have e : meaningV m wd = .nilIface := by unfold meaningV; rw [if_neg (by unfold headOk; simp; omega)]
    rw [e]; clear e
    have e1 : (((m * 16 : Nat) : Int) == 16) = false := beq_eq_false_iff_ne.2 (by omega)
    have e2 : (((m * 16 : Nat) : Int) == 32) = false := beq_eq_false_iff_ne.2 (by omega)
    have e3 : (((m * 16 : Nat) : Int) == 48) = false := beq_eq_false_iff_ne.2 (by omega)
    have e4 : (((m * 16 : Nat) : Int) == 64) = false := beq_eq_false_iff_ne.2 (by omega)
    generalize ((m * 16 : Nat) : Int) = mk at h240 e1 e2 e3 e4
    clear m1 m2 m3 m4 hm16
    go_enter Tryz.func183, Tryz.ntmps183
    go_wp2_with fail
    go_ret
    exact ⟨rfl, rfl⟩

theorem size85 : (Tryz.prog.info? 273).map (·.size) = some 2 := by kernel_rfl
theorem size25 : (Tryz.prog.info? 38).map (·.size) = some 4 := by kernel_rfl

set_option maxHeartbeats 400000 in
theorem limits62 (wd most : Nat) (w : World) : Calls Tryz.prog 258 #[.agg #[.int .i64 wd, .int .u64 most]] w fun e w' => e = .returned (.agg #[.int .i64 wd, .int .u64 most]) ∧ Below w.heap.size w w' := by
  go_enter Tryz.func258, Tryz.ntmps258
  go_wp2_with fail
  refine bodyPost_ret (results_cell_row (p := 2) (ty := 273) rfl _ _ (w.heap.size + 1) 273 #[.int .i64 wd, .int .u64 most] (0, 0) _ rfl ?hg Tryz.underlying273 rfl size85) rfl ?_
  case hg => simpa using heap_alloc_new (w.alloc (.cells #[.int .i64 wd, .int .u64 most] 273)) (.cells #[.int .i64 wd, .int .u64 most] 273)
  exact ⟨rfl, ((Below.refl _ w).alloc (Nat.le_refl _) _).alloc (by simp) _⟩

set_option maxHeartbeats 400000 in
theorem num16 (n : Int) (w : World) : Calls Tryz.prog 88 #[.int .i64 n] w fun e w' => e = .returned (.agg #[.int .i64 1, .int .i64 n, .string ⟨#[]⟩, .slice none 0 0]) ∧ Below w.heap.size w w' := by
  go_enter Tryz.func88, Tryz.ntmps88
  go_wp2_with fail
  refine bodyPost_ret (results_cell_row (p := 2) (ty := 38) rfl _ _ w.heap.size 38 #[.int .i64 1, .int .i64 n, .string ⟨#[]⟩, .slice none 0 0] (0, 0) _ rfl ?hg Tryz.underlying38 rfl size25) rfl ?_
  case hg => exact heap_alloc_new w _
  exact ⟨rfl, (Below.refl _ w).alloc (Nat.le_refl _) _⟩

set_option maxHeartbeats 400000 in
theorem text17 (s : ByteArray) (w : World) : Calls Tryz.prog 90 #[.string s] w fun e w' => e = .returned (.agg #[.int .i64 2, .int .i64 0, .string s, .slice none 0 0]) ∧ Below w.heap.size w w' := by
  go_enter Tryz.func90, Tryz.ntmps90
  go_wp2_with fail
  refine bodyPost_ret (results_cell_row (p := 2) (ty := 38) rfl _ _ w.heap.size 38 #[.int .i64 2, .int .i64 0, .string s, .slice none 0 0] (0, 0) _ rfl ?hg Tryz.underlying38 rfl size25) rfl ?_
  case hg => exact heap_alloc_new w _
  exact ⟨rfl, (Below.refl _ w).alloc (Nat.le_refl _) _⟩
end Go.Proofs.YtjanddnlhaionaaGreatDoor.L4
