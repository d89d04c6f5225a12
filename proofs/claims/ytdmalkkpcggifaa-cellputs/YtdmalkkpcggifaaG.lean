/-
  Reading a cell, as plain data: the reader undoes the encoding, reads nothing but encodings, and does not look behind them. No condition.
-/
import Derived.Test.YtdmalkkpcggifaaF
namespace Go.Proofs.Ytdmalkkpcggifaa
open Go.RowKit

inductive PR where
  | ok (c : C) (r : List UInt8)
  | bad (n : Nat) (e : Int)
inductive PL where
  | ok (l : List C) (r : List UInt8)
  | bad (n : Nat) (e : Int)

def beN (l : List UInt8) : Nat := l.foldl (fun x b => x * 256 + b.toNat) 0
def mostOf (m : Nat) : Nat := if m = 3 then 65535 else if m = 4 then 4095 else 9223372036854775807
def headOk (m w : Nat) : Bool := (decide (m = 1) && decide (w ≤ 8)) || (decide (m = 2) && decide (w ≤ 8)) || (decide (m = 3) && decide (w ≤ 2)) || (decide (m = 4) && decide (w ≤ 2))
/-- The bytes of a base are none, or tell more than may be. -/
def baseBad (m : Nat) (l : List UInt8) : Bool := (match l with | [] => false | b :: _ => decide (b.toNat = 0)) || decide (mostOf m < beN l)

def readsN (f : List UInt8 → PR) : Nat → List UInt8 → PL
  | 0, r => .ok [] r
  | n + 1, r => match f r with
    | .bad a e => .bad a e
    | .ok c r' => match readsN f n r' with
      | .bad a e => .bad a e
      | .ok l r'' => .ok (c :: l) r''

/-- What comes behind the base. -/
def body (f : List UInt8 → PR) (m x : Nat) (r : List UInt8) : PR :=
  if m = 1 then .ok (.mk 1 x ⟨#[]⟩ []) r
  else if m = 2 then .ok (.mk 1 (-(x : Int) - 1) ⟨#[]⟩ []) r
  else if m = 3 then if r.length < x then .bad 0 3 else .ok (.mk 2 0 ⟨(r.take x).toArray⟩ []) (r.drop x)
  else match readsN f x r with
    | .bad a e => .bad a e
    | .ok l r' => .ok (.mk 3 0 ⟨#[]⟩ l) r'

/-- What comes behind the first byte. -/
def based (f : List UInt8 → PR) (m w : Nat) (r : List UInt8) : PR :=
  if r.length < w then .bad 0 3
  else if baseBad m (r.take w) then .bad (r.length + 1) 4
  else body f m (beN (r.take w)) (r.drop w)

def parse : Nat → List UInt8 → PR
  | _, [] => .bad 0 3
  | 0, b :: r => .bad (r.length + 1) (if headOk (b.toNat / 16) (b.toNat % 16) then 5 else 4)
  | d + 1, b :: r => if headOk (b.toNat / 16) (b.toNat % 16) then based (parse d) (b.toNat / 16) (b.toNat % 16) r else .bad (r.length + 1) 4
theorem parse_nil (d : Nat) : parse d [] = .bad 0 3 := by cases d <;> rfl
theorem parse_zero (b : UInt8) (r : List UInt8) : parse 0 (b :: r) = .bad (r.length + 1) (if headOk (b.toNat / 16) (b.toNat % 16) then 5 else 4) := rfl
theorem parse_succ (d : Nat) (b : UInt8) (r : List UInt8) : parse (d + 1) (b :: r) = if headOk (b.toNat / 16) (b.toNat % 16) then based (parse d) (b.toNat / 16) (b.toNat % 16) r else .bad (r.length + 1) 4 := rfl

/-! The base's bytes. -/

theorem beN_snoc (l : List UInt8) (b : UInt8) : beN (l ++ [b]) = beN l * 256 + b.toNat := by
  unfold beN; rw [List.foldl_append]; rfl
theorem beN_bytesF (f : Nat) : ∀ b, b < 256 ^ f → beN (bytesF f b) = b := by
  induction f with
  | zero => intro b h; simp at h; subst h; rfl
  | succ f ih =>
    intro b h
    rw [bytesF_succ]
    split
    · rename_i h0; subst h0; rfl
    · rw [beN_snoc, ih (b / 256) (by rw [Nat.pow_succ] at h; exact Nat.div_lt_of_lt_mul (by omega)), UInt8.toNat_ofNat']
      omega
theorem bytesF_head (f : Nat) : ∀ b c l, bytesF f b = c :: l → b < 256 ^ f → c.toNat ≠ 0 := by
  induction f with
  | zero => intro b c l h; cases h
  | succ f ih =>
    intro b c l h hb
    rw [bytesF_succ] at h
    split at h
    · cases h
    · rename_i h0
      rw [Nat.pow_succ] at hb
      have hb' : b / 256 < 256 ^ f := Nat.div_lt_of_lt_mul (by omega)
      cases hq : bytesF f (b / 256) with
      | nil =>
        rw [hq] at h
        simp only [List.nil_append, List.cons.injEq] at h
        have hz : b / 256 = 0 := by
          have := beN_bytesF f (b / 256) hb'
          rw [hq] at this
          exact this.symm
        rw [← h.1, UInt8.toNat_ofNat']
        omega
      | cons c' l' =>
        rw [hq, List.cons_append] at h
        injection h with h1 h2
        subst h1
        exact ih _ _ _ hq hb'
theorem beN_lt (l : List UInt8) : beN l < 256 ^ l.length := by
  have key : ∀ (n : Nat) (l : List UInt8), l.length = n → beN l < 256 ^ n := by
    intro n
    induction n with
    | zero => intro l h; have := List.length_eq_zero_iff.1 h; subst this; simp [beN]
    | succ n ih =>
      intro l h
      have hne : l ≠ [] := by intro e; subst e; simp at h
      obtain ⟨l', b, rfl⟩ : ∃ l' b, l = l' ++ [b] := ⟨_, _, (List.dropLast_concat_getLast hne).symm⟩
      rw [beN_snoc]
      have := ih l' (by simpa using h)
      have hb := b.toNat_lt
      rw [Nat.pow_succ]
      omega
  exact key _ l rfl
theorem beN_pos (l : List UInt8) (c : UInt8) (h : c.toNat ≠ 0) : beN (c :: l) ≠ 0 := by
  have key : ∀ (l : List UInt8) (x : Nat), x ≠ 0 → l.foldl (fun x b => x * 256 + b.toNat) x ≠ 0 := by
    intro l
    induction l with
    | nil => intro x h; exact h
    | cons b l ih => intro x h; rw [List.foldl_cons]; exact ih _ (by omega)
  unfold beN
  rw [List.foldl_cons]
  exact key l _ (by omega)
theorem bytesF_beN (f : Nat) : ∀ (l : List UInt8), l.length ≤ f → (∀ c l', l = c :: l' → c.toNat ≠ 0) → bytesF f (beN l) = l := by
  induction f with
  | zero => intro l h _; have := List.length_eq_zero_iff.1 (Nat.le_zero.1 h); subst this; rfl
  | succ f ih =>
    intro l h hh
    cases l with
    | nil => exact bytesF_zero _
    | cons c l =>
      have hp := beN_pos l c (hh c l rfl)
      rw [bytesF_succ, if_neg hp]
      obtain ⟨l', b, e⟩ : ∃ l' b, c :: l = l' ++ [b] := ⟨_, _, (List.dropLast_concat_getLast (by simp)).symm⟩
      rw [e, beN_snoc]
      have hb := b.toNat_lt
      have e1 : (beN l' * 256 + b.toNat) / 256 = beN l' := by omega
      have e2 : (beN l' * 256 + b.toNat) % 256 = b.toNat := by omega
      rw [e1, e2, ih, UInt8.ofNat_toNat]
      · have := congrArg List.length e
        simp at this h
        omega
      · intro c' l2 e3
        subst e3
        rw [List.cons_append] at e
        injection e with e4 _
        subst e4
        exact hh c l rfl

theorem baseBad_bytes (m b : Nat) (h : b < 256 ^ 8) (hm : b ≤ mostOf m) : baseBad m (bytesF 8 b) = false := by
  unfold baseBad
  rw [beN_bytesF 8 b h]
  cases hq : bytesF 8 b with
  | nil => simp; omega
  | cons c l => simp; exact ⟨fun e => bytesF_head 8 b c l hq h e, hm⟩
theorem baseBad_back {m : Nat} {l : List UInt8} (h : baseBad m l = false) (hl : l.length ≤ 8) : bytesF 8 (beN l) = l ∧ beN l ≤ mostOf m := by
  unfold baseBad at h
  rw [Bool.or_eq_false_iff] at h
  refine ⟨bytesF_beN 8 l hl ?_, by simpa using h.2⟩
  intro c l' e
  subst e
  simpa using h.1

theorem mostOf_lt (m : Nat) : mostOf m < 9223372036854775808 := by unfold mostOf; split <;> (try split) <;> omega
theorem bytesF_short2 (b : Nat) (h : b ≤ 65535) : (bytesF 8 b).length ≤ 2 := by
  have h2 : bytesF 8 b = bytesF 2 b := by
    have e := bytesF_beN 8 (bytesF 2 b) (by have := bytesF_length 2 b; omega) (fun c l' e => bytesF_head 2 b c l' e (by omega))
    rw [beN_bytesF 2 b (by omega)] at e
    exact e
  rw [h2]
  exact bytesF_length 2 b

/-! Numbers of a cell and of the cells within are ints. -/
def Fit : Nat → C → Prop
  | 0, _ => True
  | d + 1, .mk _ n _ l => -9223372036854775808 ≤ n ∧ n ≤ 9223372036854775807 ∧ ∀ x ∈ l, Fit d x
theorem Fit_succ (d : Nat) (k n : Int) (s : ByteArray) (l : List C) : Fit (d + 1) (.mk k n s l) ↔ (-9223372036854775808 ≤ n ∧ n ≤ 9223372036854775807 ∧ ∀ x ∈ l, Fit d x) := Iff.rfl

theorem readsN_enc {d : Nat} (hf : ∀ c rest, okC d c = true → Fit d c → parse d (encC d c ++ rest) = .ok c rest) :
    ∀ (l : List C) (rest : List UInt8), l.all (okC d) = true → (∀ x ∈ l, Fit d x) → readsN (parse d) l.length (l.flatMap (encC d) ++ rest) = .ok l rest := by
  intro l
  induction l with
  | nil => intro rest _ _; rfl
  | cons x l ih =>
    intro rest h1 h2
    rw [List.all_cons, Bool.and_eq_true] at h1
    rw [List.length_cons, List.flatMap_cons, List.append_assoc, readsN, hf x _ h1.1 (h2 x (List.mem_cons_self ..))]
    simp only
    rw [ih rest h1.2 (fun y hy => h2 y (List.mem_cons_of_mem _ hy))]

theorem toList_empty {s : ByteArray} (h : s.toList.isEmpty = true) : s = ⟨#[]⟩ := bytes_ext (by rw [List.isEmpty_iff] at h; rw [h, ByteArray.toList_eq])
theorem data_mk (l : List UInt8) : (⟨l.toArray⟩ : ByteArray).data.toList = l := rfl
theorem mk_data (s : ByteArray) : (⟨s.data.toList.toArray⟩ : ByteArray) = s := by cases s; simp

theorem based_enc {f : List UInt8 → PR} {m b : Nat} (h : b < 256 ^ 8) (hm : b ≤ mostOf m) (rest : List UInt8) : based f m (bytesF 8 b).length (bytesF 8 b ++ rest) = body f m b rest := by
  unfold based
  rw [if_neg (by rw [List.length_append]; omega), List.take_left, baseBad_bytes m b h hm]
  rw [List.drop_left, beN_bytesF 8 b h]
  rfl

theorem head_byte (m w : Nat) (hm : m < 8) (hw : w < 16) : (UInt8.ofNat (m * 16 + w)).toNat / 16 = m ∧ (UInt8.ofNat (m * 16 + w)).toNat % 16 = w := by
  rw [UInt8.toNat_ofNat']; omega

theorem parse_enc (d : Nat) : ∀ (c : C) (rest : List UInt8), okC d c = true → Fit d c → parse d (encC d c ++ rest) = .ok c rest := by
  induction d with
  | zero => intro c rest h; cases h
  | succ d ih =>
    intro c rest hok hfit
    obtain ⟨k, n, s, l⟩ := c
    have hb := baseOf_lt hok ((Fit_succ ..).1 hfit).1 ((Fit_succ ..).1 hfit).2.1
    rw [Fit_succ] at hfit
    rw [okC_succ] at hok
    rw [encC_succ, List.cons_append, List.append_assoc, List.append_assoc, parse_succ]
    have h8 := bytesF_length 8 (baseOf k n s l)
    by_cases k1 : k = 1
    · subst k1
      rw [if_pos rfl, Bool.and_eq_true] at hok
      have hs := toList_empty hok.1
      have hl : l = [] := List.length_eq_zero_iff.1 (by simpa using hok.2)
      subst hs hl
      by_cases hn : n < 0
      · have hm : markOf 1 n = 2 * 16 := by unfold markOf; simp [hn]
        have hbe : (baseOf 1 n ⟨#[]⟩ [] : Int) = -(n + 1) := by unfold baseOf; simp [hn]; omega
        rw [hm, (head_byte 2 _ (by omega) (by omega)).1, (head_byte 2 _ (by omega) (by omega)).2, if_pos (by unfold headOk; simp; omega), based_enc (by omega) (by unfold mostOf; simp; omega)]
        unfold body
        simp
        omega
      · have hm : markOf 1 n = 1 * 16 := by unfold markOf; simp [hn]
        have hbe : (baseOf 1 n ⟨#[]⟩ [] : Int) = n := by unfold baseOf; simp [hn]; omega
        rw [hm, (head_byte 1 _ (by omega) (by omega)).1, (head_byte 1 _ (by omega) (by omega)).2, if_pos (by unfold headOk; simp; omega), based_enc (by omega) (by unfold mostOf; simp; omega)]
        unfold body
        simp
        omega
    · rw [if_neg k1] at hok
      by_cases k2 : k = 2
      · subst k2
        rw [if_pos rfl] at hok
        simp only [Bool.and_eq_true, decide_eq_true_eq] at hok
        obtain ⟨rfl, hl, hsz⟩ := hok
        have hl : l = [] := List.length_eq_zero_iff.1 hl
        subst hl
        have hm : markOf 2 0 = 3 * 16 := rfl
        have hbe : baseOf 2 0 s [] = s.size := rfl
        have hd : s.data.toList.length = s.size := by simp
        rw [hbe] at h8 hb ⊢
        have h2 := bytesF_short2 s.size hsz
        rw [hm, (head_byte 3 _ (by omega) (by omega)).1, (head_byte 3 _ (by omega) (by omega)).2, if_pos (by unfold headOk; simp; omega), based_enc (by omega) (by unfold mostOf; simp; omega)]
        unfold body
        rw [if_neg (by omega), if_neg (by omega), if_pos rfl, if_neg (by rw [List.length_append, hd]; omega), ← hd, List.take_left, List.drop_left, mk_data]
        simp
      · rw [if_neg k2] at hok
        by_cases k3 : k = 3
        · subst k3
          rw [if_pos rfl] at hok
          simp only [Bool.and_eq_true, decide_eq_true_eq] at hok
          obtain ⟨rfl, hs, hl, hall⟩ := hok
          have hs := toList_empty hs
          subst hs
          have hm : markOf 3 0 = 4 * 16 := rfl
          have hbe : baseOf 3 0 ⟨#[]⟩ l = l.length := rfl
          rw [hbe] at h8 hb ⊢
          have h2 := bytesF_short2 l.length (by omega)
          rw [hm, (head_byte 4 _ (by omega) (by omega)).1, (head_byte 4 _ (by omega) (by omega)).2, if_pos (by unfold headOk; simp; omega), based_enc (by omega) (by unfold mostOf; simp; omega)]
          unfold body
          rw [if_neg (by omega), if_neg (by omega), if_neg (by omega)]
          have := readsN_enc ih l rest hall hfit.2.2
          simp only [List.nil_append]
          rw [this]
        · rw [if_neg k3] at hok; cases hok
end Go.Proofs.Ytdmalkkpcggifaa
