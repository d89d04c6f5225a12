import Derived.Test.YtecefhoinggmgaaZ
namespace Go.Proofs.Ytecefhoinggmgaa
open Go.RowKit

theorem stepAll_cons {σ : Type} (step : σ → Int → Option σ) (r : σ) (c : Nat) (t : List Nat) (r' : σ) (h : stepAll step r (c :: t) = some r') : ∃ r1, step r c = some r1 ∧ stepAll step r1 t = some r' := by
  simp only [stepAll] at h
  cases hs : step r c with
  | none => rw [hs] at h; cases h
  | some r1 => rw [hs] at h; exact ⟨r1, rfl, h⟩

theorem read_done {r r' : R} {t : List Nat} (h8 : r.st = 8 ∨ r.st = 2) (h : stepAll readR r t = some r') : t = [] ∧ r' = r := by
  cases t with
  | nil => simp only [stepAll, Option.some.injEq] at h; exact ⟨rfl, h.symm⟩
  | cons c t =>
    obtain ⟨r1, h1, _⟩ := stepAll_cons _ _ _ _ _ h
    rcases h8 with h8 | h8 <;> simp [readR, h8] at h1

/-- The two digits of a control code are those that it is written with. -/
theorem low_back {a b : Nat} {l : Int} (ha : (a : Int) = 48 ∨ (a : Int) = 49 ∨ (a : Int) = 55) (hl : lowR (b : Int) = some l) (hok : pointOk (((a : Int) - 48) * 16 + l) = true) :
    ∃ p : Nat, ((a : Int) - 48) * 16 + l = (p : Int) ∧ p < 128 ∧ ptC p = [92, 120, a, b] := by
  have hlb : (48 ≤ b ∧ b ≤ 57 ∧ l = (b : Int) - 48) ∨ (97 ≤ b ∧ b ≤ 102 ∧ l = (b : Int) - 87) := by
    unfold lowR at hl
    split at hl
    · simp only [Option.some.injEq] at hl; left; omega
    · split at hl
      · simp only [Option.some.injEq] at hl; right; omega
      · cases hl
  obtain ⟨p, hp⟩ : ∃ p : Nat, ((a : Int) - 48) * 16 + l = (p : Int) := ⟨(((a : Int) - 48) * 16 + l).toNat, by omega⟩
  rw [hp] at hok ⊢
  have hp' : p = (a - 48) * 16 + (if b ≤ 57 then b - 48 else b - 87) := by split <;> omega
  have hc : isCtl (p : Int) = true := by simp [pointOk] at hok; exact hok.2
  have hc10 : ¬ p = 10 := by simp [pointOk] at hok; omega
  have hlt := ctl_lt hc
  have hcc : p < 32 ∨ p = 127 := by simp [isCtl] at hc; omega
  refine ⟨p, rfl, hlt, ?_⟩
  unfold ptC
  rw [if_neg (by omega), if_neg hc10, if_pos hc]
  obtain ⟨e1, e2⟩ := nibs hlt
  have d1 : p / 16 = a - 48 := by rw [hp']; split <;> omega
  have d2 : p % 16 = if b ≤ 57 then b - 48 else b - 87 := by rw [hp']; split <;> omega
  rw [e1, e2, hexNib_val _ (by omega), hexNib_val _ (by omega), if_pos (show p / 16 < 10 by omega), d1, d2]
  have : 48 + (a - 48) = a := by omega
  rw [this]
  by_cases hb : b ≤ 57
  · rw [if_pos hb, if_pos (by omega)]
    have : 48 + (b - 48) = b := by omega
    rw [this]
  · rw [if_neg hb, if_neg (by omega)]
    have : 87 + (b - 87) = b := by omega
    rw [this]

theorem asc_valid {c : Nat} (h : c < 128) : Utf8.valid (c : Int) = true := by rw [valid_iff, decide_eq_true_eq]; omega

theorem point_cons {r r2 r' : R} {c : Nat} {cs : List Nat} (hv : Utf8.valid (c : Int) = true) (ht : r2.txt = r.txt) (hr : SameN r r2) (h2 : r'.txt = addTxt (addPointR r2 c).txt cs) (h3 : SameN (addPointR r2 c) r') :
    r'.txt = addTxt r.txt (c :: cs) ∧ SameN r r' := by
  refine ⟨?_, ⟨h3.pos.trans hr.pos, h3.n.trans hr.n, h3.ov.trans hr.ov⟩⟩
  rw [h2, addPointR_txt hv, addTxt, ht]

theorem read_body_back : ∀ (k : Nat) (t : List Nat) (r r' : R), t.length ≤ k → allV t → r.st = 4 → r'.st = 8 → stepAll readR r t = some r' →
    ∃ cps, allV cps ∧ t = cps.flatMap ptC ++ [34] ∧ r'.txt = addTxt r.txt cps ∧ SameN r r' := by
  intro k
  induction k with
  | zero =>
    intro t r r' hk _ h4 h8 h
    have : t = [] := List.length_eq_zero_iff.1 (by omega)
    subst this
    simp only [stepAll, Option.some.injEq] at h
    rw [h] at h4; omega
  | succ k ih =>
    intro t r r' hk hv h4 h8 h
    cases t with
    | nil =>
      simp only [stepAll, Option.some.injEq] at h
      rw [h] at h4; omega
    | cons c t =>
      obtain ⟨r1, h1, h2⟩ := stepAll_cons _ _ _ _ _ h
      have hvc := hv c (by simp)
      have hvt : allV t := fun x hx => hv x (by simp [hx])
      simp only [List.length_cons] at hk
      rw [show readR r c = readPointR r c by simp [readR, h4]] at h1
      unfold readPointR at h1
      split at h1
      · rename_i hc
        simp only [Option.some.injEq] at h1
        obtain ⟨ht, hr⟩ := read_done (.inl (by rw [← h1])) h2
        subst ht
        refine ⟨[], fun x hx => by simp at hx, ?_, by rw [hr, ← h1]; rfl, by rw [hr, ← h1]; exact ⟨rfl, rfl, rfl⟩⟩
        have : c = 34 := by omega
        rw [this]; rfl
      rename_i hc34
      split at h1
      · rename_i hc
        have hc92 : c = 92 := by omega
        simp only [Option.some.injEq] at h1
        cases t with
        | nil =>
          simp only [stepAll, Option.some.injEq] at h2
          rw [← h2, ← h1] at h8; simp at h8
        | cons c2 t2 =>
          obtain ⟨r2, h3, h5⟩ := stepAll_cons _ _ _ _ _ h2
          have hvc2 := hvt c2 (by simp)
          have hvt2 : allV t2 := fun x hx => hvt x (by simp [hx])
          simp only [List.length_cons] at hk
          rw [← h1, show readR { r with st := 5 } c2 = readEscapeR { r with st := 5 } c2 by simp [readR]] at h3
          unfold readEscapeR at h3
          split at h3
          · rename_i hq
            simp only [Option.some.injEq] at h3
            obtain ⟨cs, a1, a2, a3, a4⟩ := ih t2 r2 r' (by omega) hvt2 (by rw [← h3]; rfl) h8 h5
            rw [← h3] at a3 a4
            obtain ⟨b1, b2⟩ := point_cons (r := r) (r2 := { r with st := 5 }) hvc2 rfl ⟨rfl, rfl, rfl⟩ a3 a4
            refine ⟨c2 :: cs, fun x hx => by rcases List.mem_cons.1 hx with rfl | hx; exact hvc2; exact a1 x hx, ?_, b1, b2⟩
            rw [List.flatMap_cons, a2, hc92]
            unfold ptC
            rw [if_pos (by omega)]; rfl
          · split at h3
            · rename_i hq
              simp only [Option.some.injEq] at h3
              obtain ⟨cs, a1, a2, a3, a4⟩ := ih t2 r2 r' (by omega) hvt2 (by rw [← h3]; rfl) h8 h5
              rw [← h3] at a3 a4
              obtain ⟨b1, b2⟩ := point_cons (r := r) (r2 := { r with st := 5 }) (c := 10) (asc_valid (by omega)) rfl ⟨rfl, rfl, rfl⟩ a3 a4
              refine ⟨10 :: cs, fun x hx => by rcases List.mem_cons.1 hx with rfl | hx; exact asc_valid (by omega); exact a1 x hx, ?_, b1, b2⟩
              have : c2 = 110 := by omega
              rw [List.flatMap_cons, a2, hc92, this]
              rfl
            · split at h3
              · rename_i hq
                have hc120 : c2 = 120 := by omega
                simp only [Option.some.injEq] at h3
                cases t2 with
                | nil =>
                  simp only [stepAll, Option.some.injEq] at h5
                  rw [← h5, ← h3] at h8; simp at h8
                | cons c3 t3 =>
                  obtain ⟨r3, h6, h7⟩ := stepAll_cons _ _ _ _ _ h5
                  have hvt3 : allV t3 := fun x hx => hvt2 x (by simp [hx])
                  simp only [List.length_cons] at hk
                  rw [← h3, show readR { r with st := 6 } c3 = readHighR { r with st := 6 } c3 by simp [readR]] at h6
                  unfold readHighR at h6
                  split at h6
                  · rename_i hc3
                    simp only [Option.some.injEq] at h6
                    cases t3 with
                    | nil =>
                      simp only [stepAll, Option.some.injEq] at h7
                      rw [← h7, ← h6] at h8; simp at h8
                    | cons c4 t4 =>
                      obtain ⟨r4, h9, h10⟩ := stepAll_cons _ _ _ _ _ h7
                      have hvt4 : allV t4 := fun x hx => hvt3 x (by simp [hx])
                      simp only [List.length_cons] at hk
                      rw [← h6, show readR { r with st := 7, hi := (c3 : Int) - 48 } c4 = readLowR { r with st := 7, hi := (c3 : Int) - 48 } c4 by simp [readR]] at h9
                      unfold readLowR at h9
                      split at h9
                      · cases h9
                      · rename_i l hl
                        split at h9
                        · rename_i hok
                          simp only at hok
                          obtain ⟨p, hp, hp128, hpt⟩ := low_back hc3 hl hok
                          simp only [Option.some.injEq] at h9
                          rw [hp] at h9
                          obtain ⟨cs, a1, a2, a3, a4⟩ := ih t4 r4 r' (by omega) hvt4 (by rw [← h9]; rfl) h8 h10
                          rw [← h9] at a3 a4
                          obtain ⟨b1, b2⟩ := point_cons (r := r) (r2 := { r with st := 7, hi := (c3 : Int) - 48 }) (c := p) (asc_valid hp128) rfl ⟨rfl, rfl, rfl⟩ a3 a4
                          refine ⟨p :: cs, fun x hx => by rcases List.mem_cons.1 hx with rfl | hx; exact asc_valid hp128; exact a1 x hx, ?_, b1, b2⟩
                          rw [List.flatMap_cons, a2, hpt, hc92, hc120]
                          rfl
                        · cases h9
                  · cases h6
              · cases h3
      · rename_i hc92
        split at h1
        · cases h1
        · rename_i hctl
          simp only [Option.some.injEq] at h1
          obtain ⟨cs, a1, a2, a3, a4⟩ := ih t r1 r' (by omega) hvt (by rw [← h1]; rfl) h8 h2
          rw [← h1] at a3 a4
          obtain ⟨b1, b2⟩ := point_cons (r := r) (r2 := r) hvc rfl ⟨rfl, rfl, rfl⟩ a3 a4
          refine ⟨c :: cs, fun x hx => by rcases List.mem_cons.1 hx with rfl | hx; exact hvc; exact a1 x hx, ?_, b1, b2⟩
          have hc10 : ¬ c = 10 := fun e => hctl (by rw [e]; rfl)
          rw [List.flatMap_cons, a2]
          unfold ptC
          rw [if_neg (by omega), if_neg hc10, if_neg hctl]
          rfl

theorem quote_steps : ∀ (cps : List Nat) (l : List UInt8), allV cps → stepAll quoteStep l cps = some (l ++ encs (cps.flatMap ptC))
  | [], l, _ => by simp [stepAll, encs]
  | c :: cs, l, hv => by
    simp only [stepAll, quoteStep]
    rw [← encs_ptC (hv c (by simp))]
    have := quote_steps cs (l ++ encs (ptC c)) (fun x hx => hv x (by simp [hx]))
    rw [this, List.flatMap_cons, encs_append, List.append_assoc]
theorem count_steps : ∀ (cps : List Nat) (n : Int), stepAll countStep n cps = some (n + cps.length)
  | [], n => by simp [stepAll]
  | c :: cs, n => by
    simp only [stepAll, countStep]
    rw [count_steps cs (n + 1), List.length_cons]
    congr 1; omega

theorem runes_encs {cps : List Nat} (hv : allV cps) : runesR (encs cps) = cps.length := by
  unfold runesR
  rw [run_of_steps countStep cps _ 0 0 _ hv (Nat.le_refl _) (count_steps cps 0)]
  simp [runesEnd]
theorem quote_encs {cps : List Nat} (hv : allV cps) : quoteR (encs cps) = (34 :: encs (cps.flatMap ptC) ++ [34], 0) := by
  unfold quoteR
  rw [run_of_steps quoteStep cps _ 0 [34] _ hv (Nat.le_refl _) (quote_steps cps [34] hv)]
  rfl
/-- A text that is right is the encoding of its code points. -/
theorem runes_back {l : List UInt8} (h : 0 ≤ runesR l) : ∃ cps, allV cps ∧ l = encs cps := by
  unfold runesR at h
  cases hr : runL countStep l.length 0 l 0 with
  | inl p => rw [hr] at h; simp [runesEnd] at h
  | inr n =>
    obtain ⟨cps, h1, h2, _⟩ := steps_of_run countStep _ 0 l 0 n (Nat.le_refl _) hr
    exact ⟨cps, h1, h2⟩
theorem allV_flat {cps : List Nat} (hv : allV cps) : allV (cps.flatMap ptC) := by
  intro x hx
  obtain ⟨c, hc, hx⟩ := List.mem_flatMap.1 hx
  exact ptC_valid (hv c hc) x hx
end Go.Proofs.Ytecefhoinggmgaa
