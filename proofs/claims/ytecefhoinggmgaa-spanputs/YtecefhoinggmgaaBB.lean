import Derived.Test.YtecefhoinggmgaaAA
namespace Go.Proofs.Ytecefhoinggmgaa
open Go.RowKit

def isDig (c : Nat) : Prop := 48 ≤ c ∧ c ≤ 57
def valD (v : Nat) (ds : List Nat) : Nat := ds.foldl (fun v d => 10 * v + (d - 48)) v
theorem valD_mono : ∀ (ds : List Nat) (v : Nat), v ≤ valD v ds
  | [], v => Nat.le_refl v
  | d :: ds, v => Nat.le_trans (by omega) (valD_mono ds (10 * v + (d - 48)))
theorem valD_snoc (v : Nat) (ds : List Nat) (d : Nat) : valD v (ds ++ [d]) = 10 * valD v ds + (d - 48) := by simp [valD]

def big63 : Nat := 9223372036854775808
theorem lim_eq (d : Int) (h0 : 0 ≤ d) (h9 : d ≤ 9) (v : Nat) : (-(v : Int) < lim d) ↔ big63 < 10 * v + d.toNat := by
  have h : lim d = -((9223372036854775808 - d) / 10) := by
    unfold lim
    rw [show (-9223372036854775808 + d) = -(9223372036854775808 - d) from by omega, Int.neg_tdiv, Int.tdiv_eq_ediv_of_nonneg (by omega)]
  unfold big63
  rw [h]; omega

/-- What the reader holds behind the digits of a number v. -/
structure NumAt (r : R) (v : Nat) (r' : R) : Prop where
  st : r'.st = 3
  pos : r'.pos = r.pos
  txt : r'.txt = r.txt
  small : v ≤ big63 → r'.ov = false ∧ r'.n = -(v : Int)
  large : big63 < v → r'.ov = true

theorem readR_digit {r : R} {c : Nat} (h3 : r.st = 3) (hc : isDig c) : readR r c = some (addDigitR { r with st := 3 } ((c : Int) - 48)) := by
  unfold isDig at hc
  rw [show readR r c = readDigitR r c by simp [readR, h3]]
  unfold readDigitR
  rw [if_neg (by omega)]

theorem digits_run : ∀ (ds : List Nat) (r0 r : R) (v : Nat), (∀ d ∈ ds, isDig d) → NumAt r0 v r → ∃ r', stepAll readR r ds = some r' ∧ NumAt r0 (valD v ds) r'
  | [], r0, r, v, _, h => ⟨r, rfl, h⟩
  | d :: ds, r0, r, v, hd, h => by
    have hd0 := hd d (by simp)
    have hs := readR_digit h.st hd0
    unfold isDig at hd0
    have hl := lim_eq ((d : Int) - 48) (by omega) (by omega) v
    have e : ((d : Int) - 48).toNat = d - 48 := by omega
    rw [e] at hl
    have hn : NumAt r0 (10 * v + (d - 48)) (addDigitR { r with st := 3 } ((d : Int) - 48)) := by
      by_cases hv : v ≤ big63
      · obtain ⟨h1, h2⟩ := h.small hv
        by_cases hb : big63 < 10 * v + (d - 48)
        · have hx : addDigitR { r with st := 3 } ((d : Int) - 48) = { r with st := 3, ov := true } := by
            unfold addDigitR
            rw [if_pos]
            simp only [Bool.or_eq_true, decide_eq_true_eq, h2]
            exact .inr (hl.2 hb)
          rw [hx]
          exact ⟨rfl, h.pos, h.txt, fun q => by omega, fun _ => rfl⟩
        · have hx : addDigitR { r with st := 3 } ((d : Int) - 48) = { r with st := 3, n := r.n * 10 - ((d : Int) - 48) } := by
            unfold addDigitR
            rw [if_neg]
            simp only [Bool.or_eq_true, decide_eq_true_eq, h1, h2]
            intro q
            rcases q with q | q
            · cases q
            · exact hb (hl.1 q)
          rw [hx]
          exact ⟨rfl, h.pos, h.txt, fun _ => ⟨h1, by simp only [h2]; omega⟩, fun q => by omega⟩
      · have h1 := h.large (by omega)
        have hx : addDigitR { r with st := 3 } ((d : Int) - 48) = { r with st := 3, ov := true } := by
          unfold addDigitR
          rw [if_pos]
          simp [h1]
        rw [hx]
        exact ⟨rfl, h.pos, h.txt, fun q => by omega, fun _ => rfl⟩
    obtain ⟨r', h1, h2⟩ := digits_run ds r0 _ _ (fun x hx => hd x (by simp [hx])) hn
    refine ⟨r', ?_, h2⟩
    simp only [stepAll, hs]
    exact h1

theorem digits_back : ∀ (ds : List Nat) (r r' : R), r.st = 3 → stepAll readR r ds = some r' → ∀ d ∈ ds, isDig d
  | [], _, _, _, _ => fun d hd => by simp at hd
  | d :: ds, r, r', h3, h => by
    obtain ⟨r1, h1, h2⟩ := stepAll_cons _ _ _ _ _ h
    rw [show readR r d = readDigitR r d by simp [readR, h3]] at h1
    unfold readDigitR at h1
    split at h1
    · cases h1
    · rename_i hd
      simp only [Option.some.injEq] at h1
      have hd0 : isDig d := by unfold isDig; omega
      intro x hx
      rcases List.mem_cons.1 hx with rfl | hx
      · exact hd0
      · refine digits_back ds r1 r' ?_ h2 x hx
        rw [← h1]
        unfold addDigitR
        split <;> rfl

def digC (m : Nat) : List Nat := if m < 10 then [48 + m] else digC (m / 10) ++ [48 + m % 10]
termination_by m
theorem digC_small {m : Nat} (h : m < 10) : digC m = [48 + m] := by rw [digC, if_pos h]
theorem digC_big {m : Nat} (h : ¬ m < 10) : digC m = digC (m / 10) ++ [48 + m % 10] := by rw [digC, if_neg h]

theorem digC_dig : ∀ (k m : Nat), m < k → ∀ d ∈ digC m, isDig d
  | 0, m, h => by omega
  | k + 1, m, h => by
    intro d hd
    unfold isDig
    by_cases h10 : m < 10
    · rw [digC_small h10] at hd; simp at hd; omega
    · rw [digC_big h10] at hd
      rcases List.mem_append.1 hd with hd | hd
      · exact digC_dig k (m / 10) (by omega) d hd
      · simp at hd; omega
theorem digC_val : ∀ (k m : Nat), m < k → valD 0 (digC m) = m
  | 0, m, h => by omega
  | k + 1, m, h => by
    by_cases h10 : m < 10
    · rw [digC_small h10]; simp [valD]
    · rw [digC_big h10, valD_snoc, digC_val k (m / 10) (by omega)]; omega
theorem digC_head : ∀ (k m : Nat), m < k → 0 < m → ∃ d t, digC m = d :: t ∧ 49 ≤ d ∧ d ≤ 57
  | 0, m, h, _ => by omega
  | k + 1, m, h, h0 => by
    by_cases h10 : m < 10
    · rw [digC_small h10]; exact ⟨_, _, rfl, by omega, by omega⟩
    · obtain ⟨d, t, h1, h2, h3⟩ := digC_head k (m / 10) (by omega) (by omega)
      rw [digC_big h10, h1]; exact ⟨d, t ++ [48 + m % 10], rfl, h2, h3⟩
theorem digC_encs : ∀ (k m : Nat), m < k → encs (digC m) = digs m
  | 0, m, h => by omega
  | k + 1, m, h => by
    by_cases h10 : m < 10
    · rw [digC_small h10, digs_small h10, encs_cons, encs_nil, encB_1 (by omega)]; rfl
    · rw [digC_big h10, digs_big h10, encs_append, digC_encs k (m / 10) (by omega), encs_cons, encs_nil, encB_1 (by omega)]; rfl

theorem list_snoc {α : Type} : ∀ (n : Nat) (l : List α), l.length = n + 1 → ∃ a x, l = a ++ [x] ∧ a.length = n
  | 0, l, h => by
    match l, h with
    | [x], _ => exact ⟨[], x, rfl, rfl⟩
  | n + 1, l, h => by
    match l, h with
    | y :: l, h =>
      obtain ⟨a, x, h1, h2⟩ := list_snoc n l (by simpa using h)
      exact ⟨y :: a, x, by rw [h1]; rfl, by simp [h2]⟩

/-- Digits whose first is not 0 are those of the number that they tell. -/
theorem digC_back : ∀ (n : Nat) (ds : List Nat) (d : Nat) (t : List Nat), ds.length = n + 1 → ds = d :: t → 49 ≤ d → (∀ x ∈ ds, isDig x) → digC (valD 0 ds) = ds ∧ 0 < valD 0 ds
  | 0, ds, d, t, hn, he, hd, hx => by
    subst he
    have : t = [] := List.length_eq_zero_iff.1 (by simpa using hn)
    subst this
    have h9 := hx d (by simp)
    unfold isDig at h9
    have hv : valD 0 [d] = d - 48 := by simp [valD]
    rw [hv, digC_small (by omega)]
    exact ⟨by congr 1; omega, by omega⟩
  | n + 1, ds, d, t, hn, he, hd, hx => by
    obtain ⟨a, x, h1, h2⟩ := list_snoc (n + 1) ds hn
    have ha : ∃ t', a = d :: t' := by
      cases a with
      | nil => simp at h2
      | cons y u => rw [h1] at he; simp at he; exact ⟨u, by rw [he.1]⟩
    obtain ⟨t', ha⟩ := ha
    obtain ⟨h3, h4⟩ := digC_back n a d t' h2 ha hd (fun y hy => hx y (by rw [h1]; simp [hy]))
    have h9 := hx x (by rw [h1]; simp)
    unfold isDig at h9
    have hv : valD 0 ds = 10 * valD 0 a + (x - 48) := by rw [h1, valD_snoc]
    rw [hv]
    refine ⟨?_, by omega⟩
    rw [digC_big (by omega), show (10 * valD 0 a + (x - 48)) / 10 = valD 0 a by omega, show (10 * valD 0 a + (x - 48)) % 10 = x - 48 by omega, h3, h1]
    congr 2; omega

theorem dig_valid {ds : List Nat} (h : ∀ d ∈ ds, isDig d) : allV ds := fun c hc => asc_valid (by have := h c hc; unfold isDig at this; omega)

theorem num0 (r : R) (h1 : r.ov = false) (h2 : r.n = 0) : NumAt r 0 { r with st := 3 } := ⟨rfl, rfl, rfl, fun _ => ⟨h1, by simp [h2]⟩, fun h => by unfold big63 at h; omega⟩

/-- A first digit that is not 0, read in state 0 or 1, is read as in state 3. -/
theorem first_digit0 (d : Nat) (h : 49 ≤ d) (h9 : d ≤ 57) : readR R0 d = readR { R0 with st := 3, pos := true } d := by
  rw [readR_digit (r := { R0 with st := 3, pos := true }) rfl ⟨by omega, h9⟩]
  simp only [readR, R0, if_true, readFirstR, readDigitR]
  rw [if_neg (by omega), if_neg (by omega), if_neg (by omega), if_neg (by omega)]
theorem first_digit1 (d : Nat) (h : 49 ≤ d) (h9 : d ≤ 57) : readR { R0 with st := 1 } d = readR { R0 with st := 3 } d := by
  rw [readR_digit (r := { R0 with st := 3 }) rfl ⟨by omega, h9⟩]
  simp only [readR, R0, readDigitR]
  rw [if_neg (by omega), if_pos trivial, if_neg (by omega), if_neg (by omega)]

theorem steps_head {r1 r2 : R} {d : Nat} (h : readR r1 d = readR r2 d) (t : List Nat) : stepAll readR r1 (d :: t) = stepAll readR r2 (d :: t) := by simp only [stepAll, h]

/-- Parse, by the code points of the text. -/
theorem parse_steps {cps : List Nat} (hv : allV cps) {r : R} (h : stepAll readR R0 cps = some r) : parseR (encs cps) = parseEnd (encs cps).length (.inr r) := by
  unfold parseR
  rw [run_of_steps readR cps _ 0 R0 r hv (Nat.le_refl _) h]

theorem minI_eq : minI = -(big63 : Int) := by unfold minI big63; omega

theorem parse_int (n : Int) (h0 : -9223372036854775808 ≤ n) (h1 : n < 9223372036854775808) : parseR (intText n) = ⟨1, n, ⟨#[]⟩, (intText n).length, 0⟩ := by
  have hb : big63 = 9223372036854775808 := rfl
  obtain ⟨m, hm⟩ : ∃ m, n.natAbs = m := ⟨_, rfl⟩
  by_cases hn : n < 0
  · have ht : intText n = encs (45 :: digC m) := by
      rw [intText, if_pos hn, hm, encs_cons, encB_1 (by omega), digC_encs (m + 1) m (by omega)]; rfl
    obtain ⟨d, t, hd, hd1, hd9⟩ := digC_head (m + 1) m (by omega) (by omega)
    have hdig := digC_dig (m + 1) m (by omega)
    obtain ⟨r', hr, ha⟩ := digits_run (digC m) R0 { R0 with st := 3 } 0 hdig (num0 R0 rfl rfl)
    rw [digC_val (m + 1) m (by omega)] at ha
    obtain ⟨h2, h3⟩ := ha.small (by omega)
    have hs : stepAll readR R0 (45 :: digC m) = some r' := by
      rw [hd] at hr ⊢
      rw [← steps_head (first_digit1 d hd1 hd9)] at hr
      simp only [stepAll] at hr ⊢
      exact hr
    have hv : allV (45 :: digC m) := fun c hc => by
      rcases List.mem_cons.1 hc with rfl | hc
      · exact asc_valid (by omega)
      · exact dig_valid hdig c hc
    rw [ht, parse_steps hv hs]
    have hp : r'.pos = false := ha.pos
    have htx : r'.txt = [] := ha.txt
    simp only [parseEnd, completeR, bigR, ha.st, h2, hp, htx, vKind, vNum, vText]
    simp [h3]
    omega
  · by_cases hz : m = 0
    · have ht : intText n = encs [48] := by
        rw [intText, if_neg hn, hm, hz, digs_small (by omega), encs_cons, encs_nil, encB_1 (by omega)]; rfl
      have hn0 : n = 0 := by omega
      have hs : stepAll readR R0 [48] = some { R0 with st := 2 } := by simp [stepAll, readR, R0, readFirstR]
      rw [ht, parse_steps (fun c hc => by simp at hc; rw [hc]; exact asc_valid (by omega)) hs]
      simp [parseEnd, completeR, bigR, R0, vKind, vNum, vText, hn0]
    · have ht : intText n = encs (digC m) := by
        rw [intText, if_neg hn, hm, digC_encs (m + 1) m (by omega)]
      obtain ⟨d, t, hd, hd1, hd9⟩ := digC_head (m + 1) m (by omega) (by omega)
      have hdig := digC_dig (m + 1) m (by omega)
      obtain ⟨r', hr, ha⟩ := digits_run (digC m) { R0 with pos := true } { R0 with st := 3, pos := true } 0 hdig (num0 { R0 with pos := true } rfl rfl)
      rw [digC_val (m + 1) m (by omega)] at ha
      obtain ⟨h2, h3⟩ := ha.small (by omega)
      have hs : stepAll readR R0 (digC m) = some r' := by
        rw [hd] at hr ⊢
        rw [← steps_head (first_digit0 d hd1 hd9)] at hr
        exact hr
      rw [ht, parse_steps (dig_valid hdig) hs]
      have hp : r'.pos = true := ha.pos
      have htx : r'.txt = [] := ha.txt
      have hmin : ¬ (-(m : Int)) = minI := by rw [minI_eq]; omega
      simp only [parseEnd, completeR, bigR, ha.st, h2, h3, hp, htx, vKind, vNum, vText]
      simp [hmin]
      omega

theorem parse_text {cps : List Nat} (hv : allV cps) (hl : (encs cps).length ≤ 40) :
    parseR (34 :: encs (cps.flatMap ptC) ++ [34]) = ⟨2, 0, ⟨(encs cps).toArray⟩, ((34 :: encs (cps.flatMap ptC) ++ [34]).length : Nat), 0⟩ := by
  have ht : 34 :: encs (cps.flatMap ptC) ++ [34] = encs (34 :: (cps.flatMap ptC ++ [34])) := by
    rw [encs_cons, encs_append, encs_cons, encs_nil, encB_1 (by omega)]; rfl
  obtain ⟨r', h1, h2, h3, h4⟩ := read_body cps { R0 with st := 4 } hv rfl
  rw [addTxt_small cps _ (by simpa [R0] using hl)] at h3
  have hs : stepAll readR R0 (34 :: (cps.flatMap ptC ++ [34])) = some { r' with st := 8 } := by
    have : readR R0 ((34 : Nat) : Int) = some { R0 with st := 4 } := by simp [readR, R0, readFirstR]
    simp only [stepAll, this]
    rw [stepAll_append, h1]
    simp [stepAll, readR, h2, readPointR]
  have hv' : allV (34 :: (cps.flatMap ptC ++ [34])) := by
    intro c hc
    simp only [List.mem_cons, List.mem_append, List.not_mem_nil, or_false] at hc
    rcases hc with rfl | hc | rfl
    · exact asc_valid (by omega)
    · exact allV_flat hv c hc
    · exact asc_valid (by omega)
  have e1 : r'.pos = false := h4.pos
  have e2 : r'.ov = false := h4.ov
  have e3 : r'.txt = encs cps := h3
  rw [ht, parse_steps hv' hs]
  have hl' : ¬ (40 : Int) < ((encs cps).length : Int) := by omega
  simp only [parseEnd, completeR, bigR, vKind, vNum, vText, e1, e2, e3]
  simp [hl']
end Go.Proofs.Ytecefhoinggmgaa
