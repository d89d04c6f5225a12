import Derived.Test.YtecefhoinggmgaaY
import Derived.Test.YtecefhoinggmgaaL
namespace Go.Proofs.Ytecefhoinggmgaa
open Go.RowKit

/-- A code point's bytes. -/
def encB (c : Nat) : List UInt8 :=
  if c < 128 then [UInt8.ofNat c]
  else if c < 2048 then [UInt8.ofNat (192 + c / 64), UInt8.ofNat (128 + c % 64)]
  else if c < 65536 then [UInt8.ofNat (224 + c / 4096), UInt8.ofNat (128 + c / 64 % 64), UInt8.ofNat (128 + c % 64)]
  else [UInt8.ofNat (240 + c / 262144), UInt8.ofNat (128 + c / 4096 % 64), UInt8.ofNat (128 + c / 64 % 64), UInt8.ofNat (128 + c % 64)]
theorem encB_1 {c : Nat} (h : c < 128) : encB c = [UInt8.ofNat c] := by rw [encB, if_pos h]
theorem encB_2 {c : Nat} (h : ¬ c < 128) (h2 : c < 2048) : encB c = [UInt8.ofNat (192 + c / 64), UInt8.ofNat (128 + c % 64)] := by rw [encB, if_neg h, if_pos h2]
theorem encB_3 {c : Nat} (h2 : ¬ c < 2048) (h3 : c < 65536) : encB c = [UInt8.ofNat (224 + c / 4096), UInt8.ofNat (128 + c / 64 % 64), UInt8.ofNat (128 + c % 64)] := by rw [encB, if_neg (by omega), if_neg h2, if_pos h3]
theorem encB_4 {c : Nat} (h3 : ¬ c < 65536) : encB c = [UInt8.ofNat (240 + c / 262144), UInt8.ofNat (128 + c / 4096 % 64), UInt8.ofNat (128 + c / 64 % 64), UInt8.ofNat (128 + c % 64)] := by rw [encB, if_neg (by omega), if_neg (by omega), if_neg h3]
theorem enc_encB {c : Nat} (hv : Utf8.valid (c : Int) = true) : (Utf8.encode (c : Int)).data.toList = encB c := by
  by_cases h1 : c < 128
  · rw [enc_a _ hv (by omega), Int.toNat_natCast, encB_1 h1]
  by_cases h2 : c < 2048
  · rw [enc_b _ hv (by omega) (by omega), Int.toNat_natCast, encB_2 h1 h2]
  by_cases h3 : c < 65536
  · rw [enc_c _ hv (by omega) (by omega) (by omega), Int.toNat_natCast, encB_3 h2 h3]
  · rw [enc_d _ hv (by omega) (by omega) (by omega), Int.toNat_natCast, encB_4 h3]
def encs (cps : List Nat) : List UInt8 := cps.flatMap encB
def allV (cps : List Nat) : Prop := ∀ c ∈ cps, Utf8.valid (c : Int) = true

theorem dec4_1 {b0 : UInt8} {t : List UInt8} (h : b0.toNat < 128) : dec4 (b0 :: t) = some (b0.toNat, 1) := by unfold dec4; simp only; rw [if_pos h]
theorem dec4_2 {b0 b1 : UInt8} {t : List UInt8} {c : Nat} (h0 : b0.toNat / 32 = 6) (h1 : b1.toNat / 64 = 2) (hc : b0.toNat % 32 * 64 + b1.toNat % 64 = c) (h2 : 128 ≤ c) : dec4 (b0 :: b1 :: t) = some (c, 2) := by
  subst hc; unfold dec4; simp only; rw [if_neg (by omega), if_pos h0, if_pos ⟨h1, h2⟩]
theorem dec4_3 {b0 b1 b2 : UInt8} {t : List UInt8} {c : Nat} (h0 : b0.toNat / 16 = 14) (h1 : b1.toNat / 64 = 2) (h2 : b2.toNat / 64 = 2) (hc : b0.toNat % 16 * 4096 + b1.toNat % 64 * 64 + b2.toNat % 64 = c) (h3 : 2048 ≤ c) (h4 : ¬ (55296 ≤ c ∧ c < 57344)) : dec4 (b0 :: b1 :: b2 :: t) = some (c, 3) := by
  subst hc; unfold dec4; simp only; rw [if_neg (by omega), if_neg (by omega), if_pos h0, if_pos ⟨h1, h2, h3, h4⟩]
theorem dec4_4 {b0 b1 b2 b3 : UInt8} {t : List UInt8} {c : Nat} (h0 : b0.toNat / 8 = 30) (h1 : b1.toNat / 64 = 2) (h2 : b2.toNat / 64 = 2) (h3 : b3.toNat / 64 = 2) (hc : b0.toNat % 8 * 262144 + b1.toNat % 64 * 4096 + b2.toNat % 64 * 64 + b3.toNat % 64 = c) (h4 : 65536 ≤ c) (h5 : c ≤ 1114111) : dec4 (b0 :: b1 :: b2 :: b3 :: t) = some (c, 4) := by
  subst hc; unfold dec4; simp only; rw [if_neg (by omega), if_neg (by omega), if_neg (by omega), if_pos h0, if_pos ⟨h1, h2, h3, h4, h5⟩]

theorem ofNat_toNat (n : Nat) (h : n < 256) : (UInt8.ofNat n).toNat = n := by rw [UInt8.toNat_ofNat']; omega

theorem dec4_enc1 {c : Nat} (h : c < 128) (rest : List UInt8) : dec4 (encB c ++ rest) = some (c, (encB c).length) ∧ 1 ≤ (encB c).length := by
  rw [encB_1 h]
  have e0 := ofNat_toNat c (by omega)
  have := dec4_1 (b0 := UInt8.ofNat c) (t := rest) (by omega)
  rw [e0] at this
  exact ⟨this, Nat.le_refl _⟩
theorem dec4_enc2 {c : Nat} (h : ¬ c < 128) (h2 : c < 2048) (rest : List UInt8) : dec4 (encB c ++ rest) = some (c, (encB c).length) ∧ 1 ≤ (encB c).length := by
  rw [encB_2 h h2]
  have e0 := ofNat_toNat (192 + c / 64) (by omega)
  have e1 := ofNat_toNat (128 + c % 64) (by omega)
  have := dec4_2 (b0 := UInt8.ofNat (192 + c / 64)) (b1 := UInt8.ofNat (128 + c % 64)) (t := rest) (c := c) (by omega) (by omega) (by omega) (by omega)
  exact ⟨this, by simp⟩
theorem dec4_enc3 {c : Nat} (hv : Utf8.valid (c : Int) = true) (h2 : ¬ c < 2048) (h3 : c < 65536) (rest : List UInt8) : dec4 (encB c ++ rest) = some (c, (encB c).length) ∧ 1 ≤ (encB c).length := by
  rw [encB_3 h2 h3]
  rw [valid_iff, decide_eq_true_eq] at hv
  have e0 := ofNat_toNat (224 + c / 4096) (by omega)
  have e1 := ofNat_toNat (128 + c / 64 % 64) (by omega)
  have e2 := ofNat_toNat (128 + c % 64) (by omega)
  have := dec4_3 (b0 := UInt8.ofNat (224 + c / 4096)) (b1 := UInt8.ofNat (128 + c / 64 % 64)) (b2 := UInt8.ofNat (128 + c % 64)) (t := rest) (c := c) (by omega) (by omega) (by omega) (by omega) (by omega) (by omega)
  exact ⟨this, by simp⟩
theorem dec4_enc4 {c : Nat} (hv : Utf8.valid (c : Int) = true) (h3 : ¬ c < 65536) (rest : List UInt8) : dec4 (encB c ++ rest) = some (c, (encB c).length) ∧ 1 ≤ (encB c).length := by
  rw [encB_4 h3]
  rw [valid_iff, decide_eq_true_eq] at hv
  have e0 := ofNat_toNat (240 + c / 262144) (by omega)
  have e1 := ofNat_toNat (128 + c / 4096 % 64) (by omega)
  have e2 := ofNat_toNat (128 + c / 64 % 64) (by omega)
  have e3 := ofNat_toNat (128 + c % 64) (by omega)
  have := dec4_4 (b0 := UInt8.ofNat (240 + c / 262144)) (b1 := UInt8.ofNat (128 + c / 4096 % 64)) (b2 := UInt8.ofNat (128 + c / 64 % 64)) (b3 := UInt8.ofNat (128 + c % 64)) (t := rest) (c := c) (by omega) (by omega) (by omega) (by omega) (by omega) (by omega) (by omega)
  exact ⟨this, by simp⟩
/-- A code point's encoding is read as it. -/
theorem dec4_enc {c : Nat} (hv : Utf8.valid (c : Int) = true) (rest : List UInt8) : dec4 (encB c ++ rest) = some (c, (encB c).length) ∧ 1 ≤ (encB c).length := by
  by_cases h1 : c < 128
  · exact dec4_enc1 h1 rest
  by_cases h2 : c < 2048
  · exact dec4_enc2 h1 h2 rest
  by_cases h3 : c < 65536
  · exact dec4_enc3 hv h2 h3 rest
  · exact dec4_enc4 hv h3 rest

def stepAll {σ : Type} (step : σ → Int → Option σ) : σ → List Nat → Option σ
  | r, [] => some r
  | r, c :: t => match step r c with
    | none => none
    | some r' => stepAll step r' t

theorem stepAll_append {σ : Type} (step : σ → Int → Option σ) : ∀ (a b : List Nat) (r : σ), stepAll step r (a ++ b) = match stepAll step r a with | none => none | some r' => stepAll step r' b
  | [], b, r => rfl
  | c :: a, b, r => by
    simp only [List.cons_append, stepAll]
    cases step r c with
    | none => rfl
    | some r' => exact stepAll_append step a b r'

theorem encs_cons (c : Nat) (t : List Nat) : encs (c :: t) = encB c ++ encs t := by simp [encs]
theorem encs_append (a b : List Nat) : encs (a ++ b) = encs a ++ encs b := by simp [encs]
theorem encs_nil : encs [] = [] := rfl

theorem run_of_steps {σ : Type} (step : σ → Int → Option σ) : ∀ (cps : List Nat) (f pos : Nat) (r r' : σ), allV cps → (encs cps).length ≤ f → stepAll step r cps = some r' → runL step f pos (encs cps) r = .inr r'
  | [], f, pos, r, r', _, _, h => by
    simp only [stepAll, Option.some.injEq] at h
    subst h; exact runL_end
  | c :: t, f, pos, r, r', hv, hf, h => by
    obtain ⟨hd, h1⟩ := dec4_enc (hv c (by simp)) (encs t)
    rw [encs_cons] at hf ⊢
    rw [List.length_append] at hf
    cases f with
    | zero => omega
    | succ f =>
      have hne : encB c ++ encs t ≠ [] := by
        intro e
        have := congrArg List.length e
        rw [List.length_append] at this
        simp only [List.length_nil] at this
        omega
      rw [runL_step step f pos hne, hd]
      simp only [stepAll] at h ⊢
      cases hs : step r c with
      | none => rw [hs] at h; cases h
      | some r2 =>
        rw [hs] at h
        simp only at h ⊢
        rw [List.drop_left]
        exact run_of_steps step t f _ r2 r' (fun x hx => hv x (by simp [hx])) (by omega) h

theorem steps_of_run {σ : Type} (step : σ → Int → Option σ) : ∀ (f pos : Nat) (l : List UInt8) (r r' : σ), l.length ≤ f → runL step f pos l r = .inr r' → ∃ cps, allV cps ∧ l = encs cps ∧ stepAll step r cps = some r' := by
  intro f
  induction f with
  | zero =>
    intro pos l r r' hf h
    have : l = [] := List.length_eq_zero_iff.1 (by omega)
    subst this
    rw [runL_end] at h
    exact ⟨[], fun c hc => by simp at hc, rfl, by simp only [Sum.inr.injEq] at h; rw [h]; rfl⟩
  | succ f ih =>
    intro pos l r r' hf h
    by_cases hl : l = []
    · subst hl
      rw [runL_end] at h
      exact ⟨[], fun c hc => by simp at hc, rfl, by simp only [Sum.inr.injEq] at h; rw [h]; rfl⟩
    rw [runL_step step f pos hl] at h
    cases hd : dec4 l with
    | none => rw [hd] at h; cases h
    | some cd =>
      obtain ⟨c, d⟩ := cd
      rw [hd] at h
      simp only at h
      obtain ⟨d1, _, d3, hv, he, _⟩ := dec4_split hd
      rw [enc_encB hv] at he
      cases hs : step r c with
      | none => rw [hs] at h; cases h
      | some r2 =>
        rw [hs] at h
        simp only at h
        obtain ⟨cps, h1, h2, h3⟩ := ih (pos + d) (l.drop d) r2 r' (by rw [List.length_drop]; omega) h
        refine ⟨c :: cps, ?_, ?_, ?_⟩
        · intro x hx
          rcases List.mem_cons.1 hx with rfl | hx
          · exact hv
          · exact h1 x hx
        · rw [encs_cons, ← h2, he, List.take_append_drop]
        · simp only [stepAll, hs]
          exact h3

/-- The code points of pointText. -/
def ptC (c : Nat) : List Nat :=
  if c = 34 ∨ c = 92 then [92, c] else if c = 10 then [92, 110] else if isCtl c then [92, 120, (hexNib ((c : Int) / 16)).toNat, (hexNib ((c : Int) % 16)).toNat] else [c]

theorem encB_ascii {c : Nat} (h : c < 128) : encB c = [UInt8.ofNat c] := encB_1 h

theorem hexNib_val (n : Nat) (h : n < 16) : (hexNib (n : Int)).toNat = if n < 10 then 48 + n else 87 + n := by
  unfold hexNib
  by_cases h1 : n < 10
  · rw [if_pos (by omega), if_pos h1, Int.toNat_natCast, ofNat_toNat _ (by omega)]
  · rw [if_neg (by omega), if_neg h1, Int.toNat_natCast, ofNat_toNat _ (by omega)]

theorem ctl_lt {c : Nat} (h : isCtl (c : Int) = true) : c < 128 := by simp [isCtl] at h; omega

theorem nibs {c : Nat} (_h : c < 128) : (((c : Int) / 16) = ((c / 16 : Nat) : Int)) ∧ (((c : Int) % 16) = ((c % 16 : Nat) : Int)) := by omega

theorem encs_two (a b : Nat) (ha : a < 128) (hb : b < 128) : encs [a, b] = [UInt8.ofNat a, UInt8.ofNat b] := by
  rw [encs_cons, encs_cons, encs_nil, encB_1 ha, encB_1 hb]; rfl
theorem encs_four (a b c d : Nat) (ha : a < 128) (hb : b < 128) (hc : c < 128) (hd : d < 128) : encs [a, b, c, d] = [UInt8.ofNat a, UInt8.ofNat b, UInt8.ofNat c, UInt8.ofNat d] := by
  rw [encs_cons, encs_cons, encs_cons, encs_cons, encs_nil, encB_1 ha, encB_1 hb, encB_1 hc, encB_1 hd]; rfl

theorem encs_ptC {c : Nat} (hv : Utf8.valid (c : Int) = true) : encs (ptC c) = pointText c := by
  unfold ptC pointText
  by_cases h1 : c = 34 ∨ c = 92
  · rw [if_pos h1, if_pos (by rcases h1 with h | h <;> simp [h]), encs_two _ _ (by omega) (by omega), Int.toNat_natCast]
    rfl
  rw [if_neg h1, if_neg (show ¬ ((c : Int) = 34 ∨ (c : Int) = 92) by omega)]
  by_cases h2 : c = 10
  · rw [if_pos h2, if_pos (show (c : Int) = 10 by omega), encs_two _ _ (by omega) (by omega)]; rfl
  rw [if_neg h2, if_neg (show ¬ (c : Int) = 10 by omega)]
  cases h3 : isCtl (c : Int) with
  | true =>
    rw [if_pos rfl, if_pos rfl]
    have hc := ctl_lt h3
    obtain ⟨e1, e2⟩ := nibs hc
    rw [e1, e2]
    have g1 := hexNib_val (c / 16) (by omega)
    have g2 := hexNib_val (c % 16) (by omega)
    have l1 : (hexNib ((c / 16 : Nat) : Int)).toNat < 128 := by rw [g1]; split <;> omega
    have l2 : (hexNib ((c % 16 : Nat) : Int)).toNat < 128 := by rw [g2]; split <;> omega
    rw [encs_four _ _ _ _ (by omega) (by omega) l1 l2, UInt8.ofNat_toNat, UInt8.ofNat_toNat]
    rfl
  | false =>
    rw [if_neg (by simp), if_neg (by simp), encs_cons, encs_nil, List.append_nil, enc_encB hv]

theorem ptC_valid {c : Nat} (hv : Utf8.valid (c : Int) = true) : allV (ptC c) := by
  have asc : ∀ n : Nat, n < 128 → Utf8.valid (n : Int) = true := fun n hn => by rw [valid_iff, decide_eq_true_eq]; omega
  intro x hx
  unfold ptC at hx
  split at hx
  · simp at hx; rcases hx with rfl | rfl; exact asc _ (by omega); exact hv
  split at hx
  · simp at hx; rcases hx with rfl | rfl; exact asc _ (by omega); exact asc _ (by omega)
  split at hx
  · rename_i h3
    have hc := ctl_lt h3
    obtain ⟨e1, e2⟩ := nibs hc
    rw [e1, e2] at hx
    have g1 := hexNib_val (c / 16) (by omega)
    have g2 := hexNib_val (c % 16) (by omega)
    simp at hx
    rcases hx with rfl | rfl | rfl | rfl
    · exact asc _ (by omega)
    · exact asc _ (by omega)
    · exact asc _ (by rw [e1, g1]; split <;> omega)
    · exact asc _ (by rw [e2, g2]; split <;> omega)
  · simp at hx; rw [hx]; exact hv

/-- The reader, within a string, reads what a code point is written as. -/
theorem read_ptC (r : R) (c : Nat) (h4 : r.st = 4) : ∃ h, stepAll readR r (ptC c) = some (addPointR { r with hi := h } c) := by
  unfold ptC
  by_cases h1 : c = 34 ∨ c = 92
  · rw [if_pos h1]
    refine ⟨r.hi, ?_⟩
    rcases h1 with rfl | rfl <;> simp [stepAll, readR, h4, readPointR, readEscapeR, addPointR]
  rw [if_neg h1]
  by_cases h2 : c = 10
  · subst h2
    refine ⟨r.hi, ?_⟩
    rw [if_pos rfl]
    simp [stepAll, readR, h4, readPointR, readEscapeR, addPointR]
  rw [if_neg h2]
  cases h3 : isCtl (c : Int) with
  | true =>
    rw [if_pos rfl]
    have hc := ctl_lt h3
    obtain ⟨e1, e2⟩ := nibs hc
    rw [e1, e2]
    have g1 := hexNib_val (c / 16) (by omega)
    have g2 := hexNib_val (c % 16) (by omega)
    generalize (hexNib ((c / 16 : Nat) : Int)).toNat = a at g1
    generalize (hexNib ((c % 16 : Nat) : Int)).toNat = b at g2
    have hcc : c < 32 ∨ c = 127 := by simp [isCtl] at h3; omega
    have ha : a = 48 + c / 16 := by rw [g1, if_pos (by omega)]
    have hhi : (a : Int) = 48 ∨ (a : Int) = 49 ∨ (a : Int) = 55 := by omega
    have hlo : lowR (b : Int) = some ((c % 16 : Nat) : Int) := by
      rw [g2]
      by_cases h5 : c % 16 < 10
      · rw [if_pos h5]; unfold lowR; rw [if_pos (by omega)]; congr 1; omega
      · rw [if_neg h5]; unfold lowR; rw [if_neg (by omega), if_pos (by omega)]; congr 1; omega
    have hp : ((a : Int) - 48) * 16 + ((c % 16 : Nat) : Int) = (c : Int) := by omega
    have hok : pointOk (c : Int) = true := by simp only [pointOk, h3]; simp; omega
    refine ⟨(a : Int) - 48, ?_⟩
    simp only [stepAll]
    have s1 : readR r ((92 : Nat) : Int) = some { r with st := 5 } := by simp [readR, h4, readPointR]
    have s2 : readR { r with st := 5 } ((120 : Nat) : Int) = some { r with st := 6 } := by simp [readR, readEscapeR]
    have s3 : readR { r with st := 6 } (a : Int) = some { r with st := 7, hi := (a : Int) - 48 } := by simp [readR, readHighR, hhi]
    have s4 : readR { r with st := 7, hi := (a : Int) - 48 } (b : Int) = some (addPointR { r with st := 7, hi := (a : Int) - 48 } c) := by
      simp only [readR, readLowR, hlo, hp, hok]; rfl
    rw [s1]; simp only; rw [s2]; simp only; rw [s3]; simp only; rw [s4]
    simp [addPointR]
  | false =>
    refine ⟨r.hi, ?_⟩
    have hc1 : ¬ (c : Int) = 34 := by omega
    have hc2 : ¬ (c : Int) = 92 := by omega
    simp [stepAll, readR, h4, readPointR, hc1, hc2, h3]
    rfl

/-- The text of a string so far, no more of it kept than shows that it is too long. -/
def addTxt (t : List UInt8) : List Nat → List UInt8
  | [] => t
  | c :: cs => addTxt (if t.length ≤ 40 then t ++ encB c else t) cs

theorem addTxt_long (t : List UInt8) (h : 40 < t.length) : ∀ cs, addTxt t cs = t
  | [] => rfl
  | c :: cs => by rw [addTxt, if_neg (by omega)]; exact addTxt_long t h cs
theorem addTxt_back : ∀ (cs : List Nat) (t : List UInt8), (addTxt t cs).length ≤ 40 → addTxt t cs = t ++ encs cs
  | [], t, _ => by simp [addTxt, encs]
  | c :: cs, t, h => by
    by_cases ht : t.length ≤ 40
    · rw [addTxt, if_pos ht] at h ⊢
      rw [addTxt_back cs _ h, encs_cons, List.append_assoc]
    · rw [addTxt_long t (by omega)] at h; omega
theorem addTxt_small : ∀ (cs : List Nat) (t : List UInt8), (t ++ encs cs).length ≤ 40 → addTxt t cs = t ++ encs cs
  | [], t, _ => by simp [addTxt, encs]
  | c :: cs, t, h => by
    rw [encs_cons, ← List.append_assoc] at h ⊢
    have ht : t.length ≤ 40 := by rw [List.length_append, List.length_append] at h; omega
    rw [addTxt, if_pos ht]
    exact addTxt_small cs _ h

/-- The reader r' is r but for its state, its text, its high digit. -/
structure SameN (r r' : R) : Prop where
  pos : r'.pos = r.pos
  n : r'.n = r.n
  ov : r'.ov = r.ov

theorem addPointR_txt {c : Nat} (hv : Utf8.valid (c : Int) = true) (r : R) : (addPointR r c).txt = if r.txt.length ≤ 40 then r.txt ++ encB c else r.txt := by
  unfold addPointR
  simp only [enc_encB hv]

theorem read_body : ∀ (cps : List Nat) (r : R), allV cps → r.st = 4 → ∃ r', stepAll readR r (cps.flatMap ptC) = some r' ∧ r'.st = 4 ∧ r'.txt = addTxt r.txt cps ∧ SameN r r'
  | [], r, _, h => ⟨r, rfl, h, rfl, ⟨rfl, rfl, rfl⟩⟩
  | c :: cs, r, hv, h => by
    obtain ⟨x, hx⟩ := read_ptC r c h
    have hvc := hv c (by simp)
    have ht := addPointR_txt hvc { r with hi := x }
    obtain ⟨r', h1, h2, h3, h4⟩ := read_body cs (addPointR { r with hi := x } c) (fun y hy => hv y (by simp [hy])) rfl
    refine ⟨r', ?_, h2, ?_, ⟨h4.pos, h4.n, h4.ov⟩⟩
    · rw [List.flatMap_cons, stepAll_append, hx]; exact h1
    · rw [h3, ht, addTxt]
end Go.Proofs.Ytecefhoinggmgaa
