import Derived.Test.YtecefhoinggmgaaBB
namespace Go.Proofs.Ytecefhoinggmgaa
open Go.RowKit

theorem bytes_of_list (s : ByteArray) (l : List UInt8) (h : s.data.toList = l) : s = ⟨l.toArray⟩ := by
  cases s; simp only at h; subst h; simp

theorem empty_of {s : ByteArray} (h : s.toList.isEmpty = true) : s = ⟨#[]⟩ := by
  rw [ByteArray.toList_eq] at h
  exact bytes_of_list s [] (List.isEmpty_iff.1 h)

theorem validV_cases {k n : Int} {s : ByteArray} (h : validV k n s = true) : (k = 1 ∧ s = ⟨#[]⟩) ∨ (k = 2 ∧ n = 0 ∧ s.size ≤ 40 ∧ 0 ≤ runesR s.data.toList) := by
  simp only [validV, Bool.or_eq_true, Bool.and_eq_true, beq_iff_eq, decide_eq_true_eq] at h
  rcases h with ⟨h1, h2⟩ | ⟨h1, h2, h3, h4⟩
  · exact .inl ⟨h1, empty_of h2⟩
  · exact .inr ⟨h1, h2, by omega, h4⟩

/-- What is written is read as it was. -/
theorem text_parse {k n : Int} {s : ByteArray} (h : validV k n s = true) (h0 : -9223372036854775808 ≤ n) (h1 : n < 9223372036854775808) :
    ∃ t : List UInt8, textR k n s = (t, 0) ∧ parseR t = ⟨k, n, s, t.length, 0⟩ := by
  rcases validV_cases h with ⟨rfl, rfl⟩ | ⟨rfl, rfl, hs, hr⟩
  · refine ⟨intText n, ?_, parse_int n h0 h1⟩
    rw [textR, if_pos h, if_neg (by omega)]
  · obtain ⟨cps, hv, he⟩ := runes_back hr
    have hq := quote_encs hv
    refine ⟨34 :: encs (cps.flatMap ptC) ++ [34], ?_, ?_⟩
    · rw [textR, if_pos h, if_pos rfl, he, hq]
    · have hsz : (encs cps).length ≤ 40 := by
        have hl : s.data.toList.length = s.size := rfl
        rw [he] at hl; omega
      rw [parse_text hv hsz, ← bytes_of_list s _ he]

theorem empty_valid (n : Int) : validV 1 n ⟨#[]⟩ = true := by rw [validV, ByteArray.toList_eq]; rfl

/-- What is read without an error has just that text. -/
theorem parse_text_back (l : List UInt8) (h : (parseR l).e = 0) : (parseR l).at' = l.length ∧ validV (parseR l).k (parseR l).n (parseR l).s = true ∧ textR (parseR l).k (parseR l).n (parseR l).s = (l, 0) ∧
    -9223372036854775808 ≤ (parseR l).n ∧ (parseR l).n < 9223372036854775808 := by
  have hb63 : big63 = 9223372036854775808 := rfl
  cases hr : runL readR l.length 0 l R0 with
  | inl p =>
    have e : parseR l = ⟨0, 0, ⟨#[]⟩, p, 4⟩ := by rw [parseR, hr]; rfl
    rw [e] at h; simp at h
  | inr r =>
    have e : parseR l = parseEnd l.length (.inr r) := by rw [parseR, hr]
    obtain ⟨cps, hv, hl, hs⟩ := steps_of_run readR _ 0 l R0 r (Nat.le_refl _) hr
    rw [e] at h ⊢
    simp only [parseEnd] at h ⊢
    cases hc : completeR r with
    | false => rw [hc] at h; simp at h
    | true =>
      cases hb : bigR r with
      | true => rw [hc, hb] at h; simp at h
      | false =>
        simp only [Bool.true_eq_false, Bool.false_eq_true, if_false]
        refine ⟨trivial, ?_⟩
        have hov : r.ov = false := by
          simp only [bigR, Bool.or_eq_false_iff] at hb; exact hb.1.1
        have htl : r.txt.length ≤ 40 := by
          simp only [bigR, Bool.or_eq_false_iff, decide_eq_false_iff_not] at hb; omega
        have num : ∀ (n : Int), vKind r = 1 → vNum r = n → vText r = ⟨#[]⟩ → intText n = l → -9223372036854775808 ≤ n → n < 9223372036854775808 →
            validV (vKind r) (vNum r) (vText r) = true ∧ textR (vKind r) (vNum r) (vText r) = (l, 0) ∧ -9223372036854775808 ≤ vNum r ∧ vNum r < 9223372036854775808 := by
          intro n e1 e2 e3 e4 e5 e6
          rw [e1, e2, e3]
          refine ⟨empty_valid n, ?_, e5, e6⟩
          rw [textR, if_pos (empty_valid n), if_neg (by omega), e4]
        cases cps with
        | nil =>
          simp only [stepAll, Option.some.injEq] at hs
          rw [← hs] at hc; simp [completeR, R0] at hc
        | cons c t =>
          have hvt : allV t := fun x hx => hv x (by simp [hx])
          obtain ⟨r1, h1, h2⟩ := stepAll_cons _ _ _ _ _ hs
          rw [show readR R0 c = readFirstR R0 c by simp [readR, R0]] at h1
          unfold readFirstR at h1
          split at h1
          · -- a string
            rename_i hc34
            have hc34' : c = 34 := by omega
            simp only [Option.some.injEq] at h1
            have h8 : r.st = 8 := by
              -- from state 4 on no number is read
              have inv : ∀ (t : List Nat) (a b : R), stepAll readR a t = some b → (a.st = 4 ∨ a.st = 5 ∨ a.st = 6 ∨ a.st = 7 ∨ a.st = 8) → (b.st = 4 ∨ b.st = 5 ∨ b.st = 6 ∨ b.st = 7 ∨ b.st = 8) := by
                intro t
                induction t with
                | nil => intro a b h ha; simp only [stepAll, Option.some.injEq] at h; rw [← h]; exact ha
                | cons x u ih =>
                  intro a b h ha
                  obtain ⟨a1, g1, g2⟩ := stepAll_cons _ _ _ _ _ h
                  refine ih a1 b g2 ?_
                  rcases ha with ha | ha | ha | ha | ha
                  · rw [show readR a x = readPointR a x by simp [readR, ha]] at g1
                    unfold readPointR at g1
                    repeat' split at g1
                    all_goals first | (cases g1; done) | (simp only [Option.some.injEq] at g1; rw [← g1]; simp [addPointR])
                  · rw [show readR a x = readEscapeR a x by simp [readR, ha]] at g1
                    unfold readEscapeR at g1
                    repeat' split at g1
                    all_goals first | (cases g1; done) | (simp only [Option.some.injEq] at g1; rw [← g1]; simp [addPointR])
                  · rw [show readR a x = readHighR a x by simp [readR, ha]] at g1
                    unfold readHighR at g1
                    repeat' split at g1
                    all_goals first | (cases g1; done) | (simp only [Option.some.injEq] at g1; rw [← g1]; simp)
                  · rw [show readR a x = readLowR a x by simp [readR, ha]] at g1
                    unfold readLowR at g1
                    repeat' split at g1
                    all_goals first | (cases g1; done) | (simp only [Option.some.injEq] at g1; rw [← g1]; simp [addPointR])
                  · simp [readR, ha] at g1
              have := inv t r1 r h2 (by rw [← h1]; simp)
              simp only [completeR, Bool.or_eq_true, beq_iff_eq] at hc
              omega
            obtain ⟨cs, a1, a2, a3, a4⟩ := read_body_back t.length t r1 r (Nat.le_refl _) hvt (by rw [← h1]) h8 h2
            rw [← h1] at a3 a4
            have e3 : r.txt = encs cs := by
              have a3' : r.txt = addTxt [] cs := a3
              rw [a3'] at htl ⊢
              rw [addTxt_back cs [] htl]; rfl
            have hlt : l = 34 :: encs (cs.flatMap ptC) ++ [34] := by
              rw [hl, hc34', a2, encs_cons, encs_append, encs_cons, encs_nil, encB_1 (by omega)]; rfl
            have k2 : vKind r = 2 := by simp [vKind, h8]
            have n0 : vNum r = 0 := by simp [vNum, h8]
            have tx : vText r = ⟨(encs cs).toArray⟩ := by simp [vText, h8, e3]
            rw [k2, n0, tx]
            have hrunes : runesR (⟨(encs cs).toArray⟩ : ByteArray).data.toList = cs.length := runes_encs a1
            have hval : validV 2 0 ⟨(encs cs).toArray⟩ = true := by
              have hsz : (⟨(encs cs).toArray⟩ : ByteArray).size = (encs cs).length := rfl
              rw [e3] at htl
              simp only [validV, hrunes, hsz]
              simp
              omega
            refine ⟨hval, ?_, by omega, by omega⟩
            rw [textR, if_pos hval, if_pos rfl]
            have hq := quote_encs a1
            rw [hlt]
            exact hq
          rename_i hc34
          split at h1
          · -- a number below 0
            rename_i hc45
            have hc45' : c = 45 := by omega
            simp only [Option.some.injEq] at h1
            cases t with
            | nil =>
              simp only [stepAll, Option.some.injEq] at h2
              rw [← h2, ← h1] at hc; simp [completeR] at hc
            | cons d t =>
              obtain ⟨r2, h3, h4⟩ := stepAll_cons _ _ _ _ _ h2
              rw [← h1] at h3
              have hd : 49 ≤ d ∧ d ≤ 57 := by
                simp only [readR] at h3
                rw [if_neg (by omega), if_pos trivial] at h3
                split at h3
                · cases h3
                · rename_i q
                  unfold readDigitR at h3
                  split at h3
                  · cases h3
                  · omega
              have hs3 : stepAll readR { R0 with st := 3 } (d :: t) = some r := by
                rw [← steps_head (first_digit1 d hd.1 hd.2)]
                simp only [stepAll, h3]
                exact h4
              have hdig := digits_back (d :: t) { R0 with st := 3 } r rfl hs3
              obtain ⟨r', g1, ha⟩ := digits_run (d :: t) R0 { R0 with st := 3 } 0 hdig (num0 R0 rfl rfl)
              rw [hs3] at g1
              simp only [Option.some.injEq] at g1
              subst g1
              obtain ⟨g2, g3⟩ := digC_back t.length (d :: t) d t rfl rfl hd.1 hdig
              generalize valD 0 (d :: t) = v at ha g2 g3
              have hvb : v ≤ big63 := by
                rcases Nat.lt_or_ge big63 v with q | q
                · rw [ha.large q] at hov; cases hov
                · exact q
              obtain ⟨_, hn⟩ := ha.small hvb
              have hp : r.pos = false := ha.pos
              refine num (-(v : Int)) (by simp [vKind, ha.st]) (by simp [vNum, ha.st, hp, hn]) (by simp [vText, ha.st]) ?_ (by omega) (by omega)
              rw [intText, if_pos (by omega), show (-(v : Int)).natAbs = v by omega, hl, hc45', encs_cons, ← g2, digC_encs (v + 1) v (by omega), encB_1 (by omega)]
              rfl
          rename_i hc45
          split at h1
          · rename_i hc48
            have hc48' : c = 48 := by omega
            simp only [Option.some.injEq] at h1
            obtain ⟨ht, hrr⟩ := read_done (.inr (by rw [← h1])) h2
            subst ht
            rw [hrr, ← h1] at num ⊢
            refine num 0 (by simp [vKind]) (by simp [vNum, R0]) (by simp [vText]) ?_ (by omega) (by omega)
            rw [intText, if_neg (by omega), hl, hc48', encs_cons, encs_nil, encB_1 (by omega)]
            rw [show (0 : Int).natAbs = 0 from rfl, digs_small (by omega)]
            rfl
          · rename_i hc48
            have hd : 49 ≤ c ∧ c ≤ 57 := by
              unfold readDigitR at h1
              split at h1
              · cases h1
              · omega
            have hs3 : stepAll readR { R0 with st := 3, pos := true } (c :: t) = some r := by
              rw [← steps_head (first_digit0 c hd.1 hd.2)]; exact hs
            have hdig := digits_back (c :: t) { R0 with st := 3, pos := true } r rfl hs3
            obtain ⟨r', g1, ha⟩ := digits_run (c :: t) { R0 with pos := true } { R0 with st := 3, pos := true } 0 hdig (num0 { R0 with pos := true } rfl rfl)
            rw [hs3] at g1
            simp only [Option.some.injEq] at g1
            subst g1
            obtain ⟨g2, g3⟩ := digC_back t.length (c :: t) c t rfl rfl hd.1 hdig
            generalize valD 0 (c :: t) = v at ha g2 g3
            have hvb : v ≤ big63 := by
              rcases Nat.lt_or_ge big63 v with q | q
              · rw [ha.large q] at hov; cases hov
              · exact q
            obtain ⟨_, hn⟩ := ha.small hvb
            have hp : r.pos = true := ha.pos
            have hv63 : v ≠ big63 := by
              intro q
              simp only [bigR, hp, hn, q, minI_eq, hov] at hb
              simp at hb
            refine num (v : Int) (by simp [vKind, ha.st]) (by simp [vNum, ha.st, hp, hn]) (by simp [vText, ha.st]) ?_ (by omega) (by omega)
            rw [intText, if_neg (by omega), show ((v : Int)).natAbs = v by omega, hl, ← g2, digC_encs (v + 1) v (by omega)]

theorem parse_err (l : List UInt8) (h : ¬ (parseR l).e = 0) : (parseR l).k = 0 ∧ (parseR l).n = 0 ∧ (parseR l).s = ⟨#[]⟩ ∧ 0 ≤ (parseR l).at' ∧ (parseR l).at' ≤ l.length := by
  cases hr : runL readR l.length 0 l R0 with
  | inl p =>
    have e : parseR l = ⟨0, 0, ⟨#[]⟩, p, 4⟩ := by rw [parseR, hr]; rfl
    obtain ⟨_, h2, _⟩ := runL_cut readR _ _ _ _ _ hr
    rw [e]
    exact ⟨rfl, rfl, rfl, by simp only; omega, by simp only; omega⟩
  | inr r =>
    have e : parseR l = parseEnd l.length (.inr r) := by rw [parseR, hr]
    rw [e] at h ⊢
    simp only [parseEnd] at h ⊢
    split
    · exact ⟨rfl, rfl, rfl, by simp only; omega, by simp only; omega⟩
    · split
      · exact ⟨rfl, rfl, rfl, by simp only; omega, by simp only; omega⟩
      · rename_i q1 q2
        rw [if_neg q1, if_neg q2] at h
        exact absurd rfl h
end Go.Proofs.Ytecefhoinggmgaa
