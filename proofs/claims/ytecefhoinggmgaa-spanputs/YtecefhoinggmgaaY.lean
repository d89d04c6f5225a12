import Derived.Test.YtecefhoinggmgaaU
import Derived.Test.YtecefhoinggmgaaG
namespace Go.Proofs.Ytecefhoinggmgaa
open Go.RowKit

theorem enc_a (r : Int) (hv : Utf8.valid r = true) (h : r.toNat < 128) : (Utf8.encode r).data.toList = [UInt8.ofNat r.toNat] := by
  unfold Utf8.encode
  simp only [hv, if_true, h]
theorem enc_b (r : Int) (hv : Utf8.valid r = true) (h : ¬ r.toNat < 128) (h2 : r.toNat < 2048) : (Utf8.encode r).data.toList = [UInt8.ofNat (192 + r.toNat / 64), UInt8.ofNat (128 + r.toNat % 64)] := by
  unfold Utf8.encode
  simp only [hv, if_true, h, h2, if_false]
theorem enc_c (r : Int) (hv : Utf8.valid r = true) (h : ¬ r.toNat < 128) (h2 : ¬ r.toNat < 2048) (h3 : r.toNat < 65536) : (Utf8.encode r).data.toList = [UInt8.ofNat (224 + r.toNat / 4096), UInt8.ofNat (128 + r.toNat / 64 % 64), UInt8.ofNat (128 + r.toNat % 64)] := by
  unfold Utf8.encode
  simp only [hv, if_true, h, h2, h3, if_false]
theorem enc_d (r : Int) (hv : Utf8.valid r = true) (h : ¬ r.toNat < 128) (h2 : ¬ r.toNat < 2048) (h3 : ¬ r.toNat < 65536) : (Utf8.encode r).data.toList = [UInt8.ofNat (240 + r.toNat / 262144), UInt8.ofNat (128 + r.toNat / 4096 % 64), UInt8.ofNat (128 + r.toNat / 64 % 64), UInt8.ofNat (128 + r.toNat % 64)] := by
  unfold Utf8.encode
  simp only [hv, if_true, h, h2, h3, if_false]

theorem enc_1 (b0 : UInt8) (h0 : b0.toNat < 128) : Utf8.valid (b0.toNat : Int) = true ∧ (Utf8.encode (b0.toNat : Nat)).data.toList = [b0] := by
  have hv : Utf8.valid (b0.toNat : Int) = true := by rw [valid_iff, decide_eq_true_eq]; omega
  exact ⟨hv, by rw [enc_a _ hv (by omega), Int.toNat_natCast, UInt8.ofNat_toNat]⟩
theorem enc_2 (b0 b1 : UInt8) (c : Nat) (h0 : b0.toNat / 32 = 6) (h1 : b1.toNat / 64 = 2) (hc : c = b0.toNat % 32 * 64 + b1.toNat % 64) (h2 : 128 ≤ c) :
    Utf8.valid (c : Int) = true ∧ (Utf8.encode c).data.toList = [b0, b1] := by
  have hv : Utf8.valid (c : Int) = true := by rw [valid_iff, decide_eq_true_eq]; omega
  refine ⟨hv, ?_⟩
  rw [enc_b _ hv (by omega) (by omega), Int.toNat_natCast, ← u8_eq (a := b0) (by omega) (by omega), ← u8_eq (a := b1) (by omega) (by omega)]
theorem enc_3 (b0 b1 b2 : UInt8) (c : Nat) (h0 : b0.toNat / 16 = 14) (h1 : b1.toNat / 64 = 2) (h2 : b2.toNat / 64 = 2) (hc : c = b0.toNat % 16 * 4096 + b1.toNat % 64 * 64 + b2.toNat % 64) (h3 : 2048 ≤ c) (h4 : ¬ (55296 ≤ c ∧ c < 57344)) :
    Utf8.valid (c : Int) = true ∧ (Utf8.encode c).data.toList = [b0, b1, b2] := by
  have hv : Utf8.valid (c : Int) = true := by rw [valid_iff, decide_eq_true_eq]; omega
  refine ⟨hv, ?_⟩
  rw [enc_c _ hv (by omega) (by omega) (by omega), Int.toNat_natCast, ← u8_eq (a := b0) (by omega) (by omega), ← u8_eq (a := b1) (by omega) (by omega), ← u8_eq (a := b2) (by omega) (by omega)]
theorem enc_4 (b0 b1 b2 b3 : UInt8) (c : Nat) (h0 : b0.toNat / 8 = 30) (h1 : b1.toNat / 64 = 2) (h2 : b2.toNat / 64 = 2) (h3 : b3.toNat / 64 = 2) (hc : c = b0.toNat % 8 * 262144 + b1.toNat % 64 * 4096 + b2.toNat % 64 * 64 + b3.toNat % 64) (h4 : 65536 ≤ c) (h5 : c ≤ 1114111) :
    Utf8.valid (c : Int) = true ∧ (Utf8.encode c).data.toList = [b0, b1, b2, b3] := by
  have hv : Utf8.valid (c : Int) = true := by rw [valid_iff, decide_eq_true_eq]; omega
  refine ⟨hv, ?_⟩
  rw [enc_d _ hv (by omega) (by omega) (by omega), Int.toNat_natCast, ← u8_eq (a := b0) (by omega) (by omega), ← u8_eq (a := b1) (by omega) (by omega), ← u8_eq (a := b2) (by omega) (by omega), ← u8_eq (a := b3) (by omega) (by omega)]
/-- A code point that stands at a text's head is its own encoding, whatever follows. -/
theorem dec4_split {l : List UInt8} {c d : Nat} (h : dec4 l = some (c, d)) :
    1 ≤ d ∧ d ≤ 4 ∧ d ≤ l.length ∧ Utf8.valid (c : Int) = true ∧ (Utf8.encode c).data.toList = l.take d ∧ ∀ rest, dec4 (l.take d ++ rest) = some (c, d) := by
  unfold dec4 at h
  split at h
  · cases h
  · rename_i b0 t
    split at h
    · rename_i h0
      obtain ⟨hv, he⟩ := enc_1 b0 h0
      cases h
      exact ⟨by omega, by omega, by simp, hv, he, fun rest => by simp only [List.take_succ_cons, List.take_zero, List.cons_append, List.nil_append]; unfold dec4; simp only; rw [if_pos h0]⟩
    · rename_i h0
      split at h
      · rename_i h1
        split at h
        · rename_i b1 t
          split at h
          · rename_i h2
            obtain ⟨hv, he⟩ := enc_2 b0 b1 _ h1 h2.1 rfl h2.2
            cases h
            exact ⟨by omega, by omega, by simp, hv, he, fun rest => by simp only [List.take_succ_cons, List.take_zero, List.cons_append, List.nil_append]; unfold dec4; simp only; rw [if_neg h0, if_pos h1, if_pos h2]⟩
          · cases h
        · cases h
      · rename_i h1
        split at h
        · rename_i h2
          split at h
          · rename_i b1 b2 t
            split at h
            · rename_i h3
              obtain ⟨hv, he⟩ := enc_3 b0 b1 b2 _ h2 h3.1 h3.2.1 rfl h3.2.2.1 h3.2.2.2
              cases h
              exact ⟨by omega, by omega, by simp, hv, he, fun rest => by simp only [List.take_succ_cons, List.take_zero, List.cons_append, List.nil_append]; unfold dec4; simp only; rw [if_neg h0, if_neg h1, if_pos h2, if_pos h3]⟩
            · cases h
          · cases h
        · rename_i h2
          split at h
          · rename_i h3
            split at h
            · rename_i b1 b2 b3 t
              split at h
              · rename_i h4
                obtain ⟨hv, he⟩ := enc_4 b0 b1 b2 b3 _ h3 h4.1 h4.2.1 h4.2.2.1 rfl h4.2.2.2.1 h4.2.2.2.2
                cases h
                exact ⟨by omega, by omega, by simp, hv, he, fun rest => by simp only [List.take_succ_cons, List.take_zero, List.cons_append, List.nil_append]; unfold dec4; simp only; rw [if_neg h0, if_neg h1, if_neg h2, if_pos h3, if_pos h4]⟩
              · cases h
            · cases h
          · cases h

theorem dec4_take {l : List UInt8} {c d : Nat} (h : dec4 l = some (c, d)) {m : Nat} (hm : d ≤ m) : dec4 (l.take m) = some (c, d) := by
  obtain ⟨_, _, _, _, _, h6⟩ := dec4_split h
  have e : l.take m = l.take d ++ (l.take m).drop d := by
    conv => lhs; rw [← List.take_append_drop d (l.take m)]
    rw [List.take_take, Nat.min_eq_left hm]
  rw [e]; exact h6 _

/-- One step of the walk. -/
theorem runL_step {σ : Type} (step : σ → Int → Option σ) (f pos : Nat) {l : List UInt8} (hl : l ≠ []) (r : σ) :
    runL step (f + 1) pos l r = match dec4 l with
      | none => .inl pos
      | some (c, d) => match step r c with
        | none => .inl pos
        | some r' => runL step f (pos + d) (l.drop d) r' := by
  rw [runL, if_neg hl]
  cases h : dec4 l with
  | none => rw [if_pos (dec4_none hl h)]
  | some cd =>
    obtain ⟨c, d⟩ := cd
    obtain ⟨h1, h2⟩ := dec4_some h
    rw [h1, h2]
    rfl

theorem runL_fuel {σ : Type} (step : σ → Int → Option σ) : ∀ (f g pos : Nat) (l : List UInt8) (r : σ), l.length ≤ f → l.length ≤ g → runL step f pos l r = runL step g pos l r
  | 0, g, pos, l, r, h, _ => by
    have : l = [] := List.length_eq_zero_iff.1 (by omega)
    subst this; rw [runL_end, runL_end]
  | f + 1, 0, pos, l, r, _, h => by
    have : l = [] := List.length_eq_zero_iff.1 (by omega)
    subst this; rw [runL_end, runL_end]
  | f + 1, g + 1, pos, l, r, hf, hg => by
    by_cases hl : l = []
    · subst hl; rw [runL_end, runL_end]
    · rw [runL_step step f pos hl, runL_step step g pos hl]
      cases h : dec4 l with
      | none => rfl
      | some cd =>
        obtain ⟨c, d⟩ := cd
        obtain ⟨h1, _, h3, _⟩ := dec4_split h
        simp only
        cases step r c with
        | none => rfl
        | some r' => exact runL_fuel step f g (pos + d) (l.drop d) r' (by rw [List.length_drop]; omega) (by rw [List.length_drop]; omega)

/-- Where the walk stops, all that stands ahead goes. -/
theorem runL_cut {σ : Type} (step : σ → Int → Option σ) : ∀ (f pos : Nat) (l : List UInt8) (r : σ) (p : Nat), runL step f pos l r = .inl p →
    pos ≤ p ∧ p < pos + l.length ∧ ∃ r', runL step f pos (l.take (p - pos)) r = .inr r'
  | 0, pos, l, r, p, h => by simp [runL] at h
  | f + 1, pos, l, r, p, h => by
    by_cases hl : l = []
    · subst hl; rw [runL_end] at h; cases h
    have hpos : 0 < l.length := List.length_pos_iff.2 hl
    rw [runL_step step f pos hl] at h
    have stop : p = pos → pos ≤ p ∧ p < pos + l.length ∧ ∃ r', runL step (f + 1) pos (l.take (p - pos)) r = .inr r' := by
      rintro rfl
      exact ⟨by omega, by omega, r, by rw [Nat.sub_self, List.take_zero, runL_end]⟩
    cases hd : dec4 l with
    | none => rw [hd] at h; simp only [Sum.inl.injEq] at h; exact stop h.symm
    | some cd =>
      obtain ⟨c, d⟩ := cd
      rw [hd] at h
      simp only at h
      cases hs : step r c with
      | none => rw [hs] at h; simp only [Sum.inl.injEq] at h; exact stop h.symm
      | some r' =>
        rw [hs] at h
        simp only at h
        obtain ⟨d1, d2, d3, _⟩ := dec4_split hd
        obtain ⟨h1, h2, r2, h3⟩ := runL_cut step f (pos + d) (l.drop d) r' p h
        rw [List.length_drop] at h2
        refine ⟨by omega, by omega, r2, ?_⟩
        have hl2 : l.take (p - pos) ≠ [] := by
          intro e
          have := congrArg List.length e
          rw [List.length_take] at this
          simp only [List.length_nil] at this
          omega
        rw [runL_step step f pos hl2, dec4_take hd (by omega)]
        simp only [hs]
        rw [List.drop_take, show p - pos - d = p - (pos + d) by omega]
        exact h3

theorem parse_cut (l : List UInt8) :
    ((parseR l).e = 0 ∨ (parseR l).e = 5) ∨ ((parseR l).e = 3 ∧ (parseR l).at' = l.length) ∨
    ((parseR l).e = 4 ∧ ∃ n : Nat, (parseR l).at' = n ∧ n ≤ l.length ∧ ((parseR (l.take n)).e = 0 ∨ (parseR (l.take n)).e = 5 ∨ ((parseR (l.take n)).e = 3 ∧ (parseR (l.take n)).at' = n))) := by
  have inr : ∀ (len : Nat) (r : R), (parseEnd len (.inr r)).e = 0 ∨ (parseEnd len (.inr r)).e = 5 ∨ ((parseEnd len (.inr r)).e = 3 ∧ (parseEnd len (.inr r)).at' = len) := by
    intro len r
    simp only [parseEnd]
    split
    · exact .inr (.inr ⟨rfl, rfl⟩)
    · split
      · exact .inr (.inl rfl)
      · exact .inl rfl
  cases h : runL readR l.length 0 l R0 with
  | inr r =>
    have e : parseR l = parseEnd l.length (.inr r) := by rw [parseR, h]
    rw [e]
    rcases inr l.length r with h1 | h1 | h1
    · exact .inl (.inl h1)
    · exact .inl (.inr h1)
    · exact .inr (.inl h1)
  | inl p =>
    have e : parseR l = ⟨0, 0, ⟨#[]⟩, p, 4⟩ := by rw [parseR, h]; rfl
    obtain ⟨_, h2, r', h3⟩ := runL_cut readR _ _ _ _ _ h
    rw [Nat.sub_zero] at h3
    refine .inr (.inr ⟨by rw [e], p, by rw [e], by omega, ?_⟩)
    have hlen : (l.take p).length = p := by rw [List.length_take]; omega
    have e2 : parseR (l.take p) = parseEnd p (.inr r') := by
      rw [parseR, runL_fuel readR _ l.length 0 (l.take p) R0 (Nat.le_refl _) (by rw [hlen]; omega), h3, hlen]
    rw [e2]
    exact inr p r'
end Go.Proofs.Ytecefhoinggmgaa
