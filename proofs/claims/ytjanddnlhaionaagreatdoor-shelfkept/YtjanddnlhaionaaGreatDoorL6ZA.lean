/-
  The reader of what a crash leaves of a log of several lives. No condition.
-/
import Derived.Test.YtjanddnlhaionaaGreatDoorL6YR
namespace Go.Proofs.YtjanddnlhaionaaGreatDoor.L6
open Go.RowKit

/-- No valid sector of life L or later. -/
def Old (L : Nat) (x : ByteArray) : Prop := ∀ s, says x.data.toList = some s → s.life < L

/-! ### One visit -/
set_option maxRecDepth 100000 in
theorem visit_kinds (r : Rd) (x : ByteArray) : (visit r x).vis = r.vis + 1 ∧ r.great ≤ (visit r x).great ∧ (r.life ≤ r.great → (visit r x).life ≤ (visit r x).great) ∧
    (((visit r x).ended = true ∧ (visit r x).recs = r.recs ∧ (visit r x).occ = r.occ) ∨
     (r.ended = false ∧ (visit r x).ended = false ∧ (visit r x).recs = r.recs ∧ (visit r x).occ = r.occ ∧ (visit r x).parts = r.parts + 1) ∨
     (r.ended = false ∧ Clean (visit r x) ∧ (visit r x).occ = r.vis + 1 ∧ ∃ s, (visit r x).recs = r.recs ++ [s])) := by
  unfold visit
  cases hs : says x.data.toList with
  | none => exact ⟨rfl, Nat.le_refl _, fun h => h, .inl ⟨rfl, rfl, rfl⟩⟩
  | some s =>
    unfold visitO
    simp only
    by_cases hc : (r.ended || !expects r s) = true
    · rw [if_pos hc]
      exact ⟨rfl, by show r.great ≤ max r.great s.life; omega, fun h => by show r.life ≤ max r.great s.life; omega, .inl ⟨rfl, rfl, rfl⟩⟩
    · rw [if_neg hc]
      have he : r.ended = false := by
        cases h : r.ended with
        | false => rfl
        | true => rw [h] at hc; exact absurd rfl hc
      unfold takeS
      by_cases hl : s.last = true
      · rw [if_pos hl]
        exact ⟨rfl, by show r.great ≤ max r.great s.life; omega, fun h => by show s.life ≤ max r.great s.life; omega, .inr (.inr ⟨he, ⟨he, rfl, rfl⟩, rfl, _, rfl⟩)⟩
      · rw [if_neg hl]
        exact ⟨rfl, by show r.great ≤ max r.great s.life; omega, fun h => by show s.life ≤ max r.great s.life; omega, .inr (.inl ⟨he, he, rfl, rfl, rfl⟩)⟩
set_option maxRecDepth 100000 in
theorem visit_ended {r : Rd} (h : r.ended = true) (x : ByteArray) : (visit r x).ended = true ∧ (visit r x).recs = r.recs := by
  obtain ⟨-, -, -, hk⟩ := visit_kinds r x
  rcases hk with ⟨a, b, -⟩ | ⟨a, -⟩ | ⟨a, -⟩
  · exact ⟨a, b⟩
  · rw [h] at a; cases a
  · rw [h] at a; cases a
set_option maxRecDepth 100000 in
theorem fold_ended : ∀ (l : List ByteArray) {r : Rd}, r.ended = true → (l.foldl visit r).ended = true ∧ (l.foldl visit r).recs = r.recs
  | [], _, h => ⟨h, rfl⟩
  | x :: l, r, h => by
    obtain ⟨a, b⟩ := visit_ended h x
    obtain ⟨c, d⟩ := fold_ended l a
    exact ⟨c, d.trans b⟩
set_option maxRecDepth 100000 in
theorem fold_great : ∀ (l : List ByteArray) (r : Rd), r.great ≤ (l.foldl visit r).great
  | [], _ => Nat.le_refl _
  | x :: l, r => Nat.le_trans (visit_kinds r x).2.1 (fold_great l _)
set_option maxRecDepth 100000 in
theorem fold_life : ∀ (l : List ByteArray) (r : Rd), r.life ≤ r.great → (l.foldl visit r).life ≤ (l.foldl visit r).great
  | [], _, h => h
  | x :: l, r, h => fold_life l _ ((visit_kinds r x).2.2.1 h)
set_option maxRecDepth 100000 in
theorem visit_says {r : Rd} {x : ByteArray} {s : Sec} (h : says x.data.toList = some s) : (visit r x).great = max r.great s.life := by
  unfold visit
  rw [h]
  unfold visitO takeS
  simp only
  split
  · rfl
  · split <;> rfl
set_option maxRecDepth 100000 in
theorem visit_none {r : Rd} {x : ByteArray} (h : says x.data.toList = none) : visit r x = { r with vis := r.vis + 1, ended := true } := by
  unfold visit; rw [h]; rfl
set_option maxRecDepth 100000 in
theorem great_ge : ∀ (l : List ByteArray) (r : Rd) (x : ByteArray), x ∈ l → ∀ s, says x.data.toList = some s → s.life ≤ (l.foldl visit r).great
  | y :: l, r, x, hx, s, hs => by
    rcases List.mem_cons.1 hx with rfl | hx
    · refine Nat.le_trans ?_ (fold_great l (visit r x))
      rw [visit_says hs]; omega
    · exact great_ge l _ x hx s hs
set_option maxRecDepth 100000 in
theorem great_le (B : Nat) : ∀ (l : List ByteArray) (r : Rd), (∀ x ∈ l, ∀ s, says x.data.toList = some s → s.life ≤ B) → r.great ≤ B → (l.foldl visit r).great ≤ B
  | [], _, _, h => h
  | x :: l, r, hl, h => by
    refine great_le B l _ (fun y hy => hl y (List.mem_cons_of_mem _ hy)) ?_
    cases hs : says x.data.toList with
    | none => rw [visit_none hs]; exact h
    | some s =>
      have := hl x List.mem_cons_self s hs
      rw [visit_says hs]; omega
set_option maxRecDepth 100000 in
theorem fold_recs : ∀ (l : List ByteArray) (r : Rd), ∃ t, (l.foldl visit r).recs = r.recs ++ t
  | [], r => ⟨[], by simp⟩
  | x :: l, r => by
    obtain ⟨t, ht⟩ := fold_recs l (visit r x)
    obtain ⟨-, -, -, hk⟩ := visit_kinds r x
    rcases hk with ⟨-, b, -⟩ | ⟨-, -, b, -⟩ | ⟨-, -, -, s, b⟩
    · exact ⟨t, by rw [List.foldl_cons, ht, b]⟩
    · exact ⟨t, by rw [List.foldl_cons, ht, b]⟩
    · exact ⟨s :: t, by rw [List.foldl_cons, ht, b]; simp⟩
set_option maxRecDepth 100000 in
theorem fold_parts : ∀ (l : List ByteArray) (r : Rd), (l.foldl visit r).ended = false → (l.foldl visit r).recs.length = r.recs.length → (l.foldl visit r).parts = r.parts + l.length
  | [], _, _, _ => rfl
  | x :: l, r, he, hr => by
    obtain ⟨t, ht⟩ := fold_recs l (visit r x)
    obtain ⟨-, -, -, hk⟩ := visit_kinds r x
    rw [List.foldl_cons] at he hr ⊢
    rcases hk with ⟨a, -⟩ | ⟨-, -, b, -, p⟩ | ⟨-, -, -, s, b⟩
    · have := (fold_ended l a).1
      rw [this] at he; cases he
    · rw [fold_parts l (visit r x) he (by rw [hr, b]), p, List.length_cons]; omega
    · rw [ht, b] at hr
      simp at hr
set_option maxRecDepth 100000 in
/-- Behind the last whole record. -/
theorem take_occ (l : List ByteArray) : Clean ((l.take (scanL l).occ).foldl visit rd0) ∧ ((l.take (scanL l).occ).foldl visit rd0).recs = (scanL l).recs ∧ (scanL l).occ ≤ l.length := by
  have H : ∀ k, k ≤ l.length → ((l.take k).foldl visit rd0).vis = k ∧ ((l.take k).foldl visit rd0).occ ≤ k ∧ Clean ((l.take ((l.take k).foldl visit rd0).occ).foldl visit rd0) ∧ ((l.take ((l.take k).foldl visit rd0).occ).foldl visit rd0).recs = ((l.take k).foldl visit rd0).recs := by
    intro k
    induction k with
    | zero => intro _; exact ⟨rfl, Nat.le_refl _, rd0_clean, rfl⟩
    | succ k ih =>
      intro hk
      obtain ⟨h1, h2, h3, h4⟩ := ih (by omega)
      have e : (l.take (k + 1)).foldl visit rd0 = visit ((l.take k).foldl visit rd0) l[k] := by
        rw [List.take_succ_eq_append_getElem (by omega), List.foldl_append]; rfl
      obtain ⟨v, -, -, hkk⟩ := visit_kinds ((l.take k).foldl visit rd0) l[k]
      rw [← e] at v hkk
      rw [h1] at v
      have same : ((l.take (k + 1)).foldl visit rd0).recs = ((l.take k).foldl visit rd0).recs → ((l.take (k + 1)).foldl visit rd0).occ = ((l.take k).foldl visit rd0).occ → _ := fun a b => (⟨v, by rw [b]; omega, by rw [b]; exact h3, by rw [b, a]; exact h4⟩ : ((l.take (k + 1)).foldl visit rd0).vis = k + 1 ∧ ((l.take (k + 1)).foldl visit rd0).occ ≤ k + 1 ∧ Clean ((l.take ((l.take (k + 1)).foldl visit rd0).occ).foldl visit rd0) ∧ ((l.take ((l.take (k + 1)).foldl visit rd0).occ).foldl visit rd0).recs = ((l.take (k + 1)).foldl visit rd0).recs)
      rcases hkk with ⟨-, b, c⟩ | ⟨-, -, b, c, -⟩ | ⟨-, b, c, -⟩
      · exact same b c
      · exact same b c
      · rw [h1] at c
        exact ⟨v, by omega, by rw [c]; exact b, by rw [c]⟩
  obtain ⟨-, h2, h3, h4⟩ := H l.length (Nat.le_refl _)
  rw [List.take_length] at h2 h3 h4
  exact ⟨h3, h4, h2⟩

/-! ### A part of what was laid -/
set_option maxRecDepth 100000 in
theorem visit_mid (r : Rd) (life : Nat) (s : ByteArray) (hc : Clean r) (hl : r.life ≤ life) (h1 : 0 < life) (h2 : life < 4294967296) (h3 : r.recs.length + 1 < 4294967296) (hn : needN s.size ≤ 65536) : ∀ k, k < needN s.size → ((secsOf life (r.recs.length + 1) s).take k).foldl visit r = midR r life s k := by
  intro k
  induction k with
  | zero => intro _; rw [mid_zero r life s hc]; rfl
  | succ k ih =>
    intro hk
    have hkl : k < (secsOf life (r.recs.length + 1) s).length := by rw [secsOf_len]; omega
    rw [List.take_succ_eq_append_getElem hkl, List.foldl_append, ih (by omega)]
    show visit _ _ = _
    have : (secsOf life (r.recs.length + 1) s)[k] = layB (partOf life (r.recs.length + 1) s k) := by simp [secsOf]
    rw [this, visit_part r life s k hc hl h1 h2 h3 (by omega) hn, if_neg (by omega)]
set_option maxRecDepth 100000 in
theorem len_allSecs (L : Nat) : ∀ (rec : Nat) (M : List ByteArray), M.length ≤ (allSecs L rec M).length
  | _, [] => Nat.zero_le _
  | rec, s :: M => by
    have := len_allSecs L (rec + 1) M
    have := needN_pos s.size
    simp only [allSecs, List.length_append, List.length_cons, secsOf_len]
    omega
set_option maxRecDepth 100000 in
theorem mem_allSecs (L : Nat) (h1 : 0 < L) (h2 : L < 4294967296) : ∀ (rec : Nat) (M : List ByteArray), rec + M.length ≤ 4294967296 → (∀ s ∈ M, needN s.size ≤ 65536) → ∀ x ∈ allSecs L rec M, ∃ s, says x.data.toList = some s ∧ s.life = L
  | _, [], _, _, x, hx => by cases hx
  | rec, s :: M, h3, hn, x, hx => by
    rw [List.length_cons] at h3
    simp only [allSecs, List.mem_append] at hx
    rcases hx with hx | hx
    · unfold secsOf at hx
      obtain ⟨i, hi, rfl⟩ := List.mem_map.1 hx
      rw [List.mem_range] at hi
      exact ⟨_, says_part L rec s i h1 h2 (by omega) hi (hn s List.mem_cons_self), rfl⟩
    · exact mem_allSecs L h1 h2 (rec + 1) M (by omega) (fun y hy => hn y (List.mem_cons_of_mem _ hy)) x hx
set_option maxRecDepth 100000 in
theorem take_laid (L : Nat) (h1 : 0 < L) (h2 : L < 4294967296) : ∀ (M : List ByteArray) (r : Rd) (k : Nat), Clean r → r.life ≤ L → r.recs.length + M.length < 4294967295 → (∀ s ∈ M, needN s.size ≤ 65536) → k ≤ (allSecs L (r.recs.length + 1) M).length →
    ∃ m, m ≤ M.length ∧ (((allSecs L (r.recs.length + 1) M).take k).foldl visit r).recs = r.recs ++ M.take m ∧ (1 ≤ k → (((allSecs L (r.recs.length + 1) M).take k).foldl visit r).life = L ∧ L ≤ (((allSecs L (r.recs.length + 1) M).take k).foldl visit r).great) ∧
      ∀ s, s ≤ M.length → (allSecs L (r.recs.length + 1) (M.take s)).length ≤ k → s ≤ m
  | [], r, k, _, _, _, _, hk => by
    have : k = 0 := by simpa [allSecs] using hk
    subst this
    exact ⟨0, Nat.le_refl _, by simp [allSecs], fun h => by omega, fun s hs _ => hs⟩
  | s :: M, r, k, hc, hl, h3, hn, hk => by
    rw [List.length_cons] at h3
    have hns := hn s List.mem_cons_self
    by_cases hlt : k < needN s.size
    · have e : (allSecs L (r.recs.length + 1) (s :: M)).take k = (secsOf L (r.recs.length + 1) s).take k := by
        simp only [allSecs]
        rw [List.take_append_of_le_length (by rw [secsOf_len]; omega)]
      rw [e, visit_mid r L s hc hl h1 h2 (by omega) hns k hlt]
      refine ⟨0, Nat.zero_le _, by simp [midR], fun h => ?_, fun s' hs' hle => ?_⟩
      · unfold midR
        simp only
        rw [if_neg (by omega), if_neg (by omega)]
        exact ⟨rfl, by omega⟩
      · cases s' with
        | zero => exact Nat.le_refl _
        | succ s' =>
          simp only [List.take_succ_cons, allSecs, List.length_append, secsOf_len] at hle
          omega
    · have hrl : (endR r L s).recs.length = r.recs.length + 1 := by simp [endR]
      have e : ((allSecs L (r.recs.length + 1) (s :: M)).take k).foldl visit r = ((allSecs L ((endR r L s).recs.length + 1) M).take (k - needN s.size)).foldl visit (endR r L s) := by
        rw [hrl]
        simp only [allSecs]
        rw [List.take_append, List.take_of_length_le (by rw [secsOf_len]; omega), List.foldl_append, visit_rec r L s hc hl h1 h2 (by omega) hns, secsOf_len]
      simp only [allSecs, List.length_append, secsOf_len] at hk
      obtain ⟨m, i1, i2, i3, i4⟩ := take_laid L h1 h2 M (endR r L s) (k - needN s.size) (endR_clean r L s hc) (Nat.le_refl _) (by rw [hrl]; omega) (fun x hx => hn x (List.mem_cons_of_mem _ hx)) (by rw [hrl]; omega)
      rw [e]
      refine ⟨m + 1, by simpa using i1, by rw [i2]; simp [endR], fun _ => ?_, fun s' hs' hle => ?_⟩
      · by_cases h0 : k - needN s.size = 0
        · rw [h0]
          simp only [List.take_zero, List.foldl_nil]
          exact ⟨rfl, by show L ≤ max r.great L; omega⟩
        · exact i3 (by omega)
      · cases s' with
        | zero => exact Nat.zero_le _
        | succ s' =>
          simp only [List.take_succ_cons, allSecs, List.length_append, secsOf_len] at hle
          have := i4 s' (by simpa using hs') (by rw [hrl]; omega)
          omega
set_option maxRecDepth 100000 in
theorem visit_old {r : Rd} {x : ByteArray} {L : Nat} (hl : r.life = L) (hx : Old L x) : (visit r x).ended = true ∧ (visit r x).recs = r.recs := by
  cases hs : says x.data.toList with
  | none => rw [visit_none hs]; exact ⟨rfl, rfl⟩
  | some s =>
    have hlt := hx s hs
    have he : expects r s = false := by
      unfold expects
      rw [decide_eq_false (show ¬ s.life = r.life by omega), decide_eq_false (show ¬ r.life < s.life by omega)]
      simp
    unfold visit
    rw [hs]
    unfold visitO
    simp [he]
set_option maxRecDepth 100000 in
theorem visit_late {r : Rd} {x : ByteArray} {s : Sec} (hs : says x.data.toList = some s) (hl : r.life < s.life) (hp : 0 < r.parts) : (visit r x).ended = true ∧ (visit r x).recs = r.recs := by
  have he : expects r s = false := by
    unfold expects
    rw [decide_eq_false (show ¬ s.life = r.life by omega)]
    by_cases h0 : s.part = 0
    · rw [decide_eq_false (show ¬ s.part = r.parts by omega)]; simp
    · rw [decide_eq_false h0]; simp
  unfold visit
  rw [hs]
  unfold visitO
  simp [he]
set_option maxRecDepth 100000 in
theorem first_other : ∀ (Z Y : List ByteArray), Z.length ≤ Y.length → ∃ k, k ≤ Z.length ∧ Y.take k = Z.take k ∧ (k < Z.length → Y[k]? ≠ Z[k]?)
  | [], _, _ => ⟨0, Nat.le_refl _, rfl, fun h => by simp at h⟩
  | z :: Z, [], h => by simp at h
  | z :: Z, y :: Y, h => by
    by_cases e : y = z
    · subst e
      obtain ⟨k, h1, h2, h3⟩ := first_other Z Y (by simpa using h)
      exact ⟨k + 1, by simpa using h1, by simp [h2], fun hk => by simpa using h3 (by simpa using hk)⟩
    · exact ⟨0, Nat.zero_le _, rfl, fun _ => by simpa using e⟩
set_option maxRecDepth 100000 in
/-- What is told of the contents that a crash leaves: O lay at the opening, M was laid behind it; the first j sectors are sure. -/
theorem scan_mix (L : Nat) (h1 : 0 < L) (h2 : L < 4294967296) (O Y M : List ByteArray) (hO : ∀ x ∈ O, Old L x) (hc : (scanL O).recs.length + M.length < 4294967295) (hn : ∀ s ∈ M, needN s.size ≤ 65536)
    (hfit : (scanL O).occ + (allSecs L ((scanL O).recs.length + 1) M).length ≤ O.length) (hY : Y.length = O.length) (j s : Nat)
    (hout : ∀ i, i < (scanL O).occ ∨ (scanL O).occ + (allSecs L ((scanL O).recs.length + 1) M).length ≤ i → Y[i]? = O[i]?)
    (hmid : ∀ i, i < (allSecs L ((scanL O).recs.length + 1) M).length → Y[(scanL O).occ + i]? = (allSecs L ((scanL O).recs.length + 1) M)[i]? ∨ (j ≤ i ∧ Y[(scanL O).occ + i]? = O[(scanL O).occ + i]?))
    (hs : s ≤ M.length) (hj : (allSecs L ((scanL O).recs.length + 1) (M.take s)).length ≤ j) (hjz : j ≤ (allSecs L ((scanL O).recs.length + 1) M).length) :
    ∃ m, s ≤ m ∧ m ≤ M.length ∧ (scanL Y).recs = (scanL O).recs ++ M.take m ∧ (0 < m → L ≤ (scanL Y).great) := by
  obtain ⟨t1, t2, t3⟩ := take_occ O
  obtain ⟨r0, hr0⟩ : ∃ r0, (O.take (scanL O).occ).foldl visit rd0 = r0 := ⟨_, rfl⟩
  have hOsplit : scanL O = (O.drop (scanL O).occ).foldl visit r0 := by
    rw [← hr0, ← List.foldl_append, List.take_append_drop]; rfl
  have hgO : ∀ l : List ByteArray, (∀ x ∈ l, x ∈ O) → ∀ r : Rd, r.great ≤ L - 1 → (l.foldl visit r).great ≤ L - 1 := fun l hl r hr => great_le (L - 1) l r (fun x hx s hs => by have := hO x (hl x hx) s hs; omega) hr
  have hg0 : r0.great ≤ L - 1 := by rw [← hr0]; exact hgO _ (fun x hx => List.mem_of_mem_take hx) rd0 (Nat.zero_le _)
  have hl0 : r0.life ≤ r0.great := by rw [← hr0]; exact fold_life _ rd0 (Nat.le_refl _)
  rw [hr0] at t1 t2
  obtain ⟨P, hP⟩ : ∃ P, (scanL O).occ = P := ⟨_, rfl⟩
  obtain ⟨R, hR⟩ : ∃ R, (scanL O).recs = R := ⟨_, rfl⟩
  rw [hP] at hOsplit hfit hout hmid t3 hr0
  rw [hR] at hc hfit hout hmid hj hjz t2
  rw [hR]
  obtain ⟨Z, hZ⟩ : ∃ Z, allSecs L (R.length + 1) M = Z := ⟨_, rfl⟩
  have hZn : ∀ x ∈ Z, ∃ s, says x.data.toList = some s ∧ s.life = L := by rw [← hZ]; exact mem_allSecs L h1 h2 _ M (by omega) hn
  have hT := take_laid L h1 h2 M r0
  rw [t2, hZ] at hT
  rw [hZ] at hfit hout hmid hjz
  have hYP : Y.take P = O.take P := List.ext_getElem? fun i => by
    by_cases hi : i < P
    · rw [List.getElem?_take_of_lt hi, List.getElem?_take_of_lt hi]; exact hout i (.inl hi)
    · rw [List.getElem?_eq_none (by rw [List.length_take]; omega), List.getElem?_eq_none (by rw [List.length_take]; omega)]
  have hYsplit : scanL Y = (Y.drop P).foldl visit r0 := by
    rw [← hr0, ← hYP, ← List.foldl_append, List.take_append_drop]; rfl
  have hdl : (Y.drop P).length = O.length - P := by rw [List.length_drop, hY]
  obtain ⟨k, k1, k2, k3⟩ := first_other Z (Y.drop P) (by rw [hdl]; omega)
  have hkj : (allSecs L (R.length + 1) (M.take s)).length ≤ k := by
    by_cases hk : k < Z.length
    · have := k3 hk
      rw [List.getElem?_drop] at this
      rcases hmid k hk with h | ⟨h, -⟩
      · exact absurd h this
      · omega
    · omega
  have hold : ∀ x, (Y.drop P)[k]? = some x → x ∈ O := fun x hx => by
    have : (Y.drop P)[k]? = O[P + k]? := by
      rw [List.getElem?_drop]
      by_cases hk : k < Z.length
      · have := k3 hk
        rw [List.getElem?_drop] at this
        rcases hmid k hk with h | ⟨-, h⟩
        · exact absurd h this
        · exact h
      · exact hout _ (.inr (by omega))
    rw [this] at hx
    exact List.mem_of_getElem? hx
  have hsp : (Y.drop P).foldl visit r0 = ((Y.drop P).drop k).foldl visit ((Z.take k).foldl visit r0) := by
    rw [← k2, ← List.foldl_append, List.take_append_drop]
  by_cases hk0 : k = 0
  · subst hk0
    have hs0 : s = 0 := by
      have := len_allSecs L (R.length + 1) (M.take s)
      rw [List.length_take] at this
      omega
    subst hs0
    refine ⟨0, Nat.le_refl _, Nat.zero_le _, ?_, fun h => by omega⟩
    rw [List.take_zero, List.append_nil, hYsplit]
    obtain ⟨i, i1, i2, i3⟩ := first_other (O.drop P) (Y.drop P) (by rw [hdl, List.length_drop]; omega)
    rw [List.length_drop] at i1 i3
    by_cases hi : i < O.length - P
    · have hne := i3 hi
      rw [List.getElem?_drop, List.getElem?_drop] at hne
      have hiZ : i < Z.length := Nat.lt_of_not_le fun h => hne (hout _ (.inr (by omega)))
      have hYi : Y[P + i]? = Z[i]? := by
        rcases hmid i hiZ with h | ⟨-, h⟩
        · exact h
        · exact absurd h hne
      have hi0 : 0 < i := by
        refine Nat.pos_of_ne_zero fun h => ?_
        subst h
        have := k3 hiZ
        rw [List.getElem?_drop] at this
        exact this hYi
      obtain ⟨r', hr'⟩ : ∃ r', ((O.drop P).take i).foldl visit r0 = r' := ⟨_, rfl⟩
      have hO2 : scanL O = ((O.drop P).drop i).foldl visit r' := by
        rw [hOsplit, ← hr', ← List.foldl_append, List.take_append_drop]
      obtain ⟨a, ha⟩ := fold_recs ((O.drop P).take i) r0
      obtain ⟨b, hb⟩ := fold_recs ((O.drop P).drop i) r'
      rw [hr'] at ha
      have hRR : r'.recs = R := by
        have : R = r0.recs ++ a ++ b := by rw [← ha, ← hb, ← hO2, hR]
        rw [t2] at this
        have hl := congrArg List.length this
        simp only [List.length_append] at hl
        have : a = [] := List.length_eq_zero_iff.1 (by omega)
        rw [ha, this, t2, List.append_nil]
      have hfin : (visit r' Z[i]).ended = true ∧ (visit r' Z[i]).recs = r'.recs := by
        by_cases he : r'.ended = true
        · exact visit_ended he _
        · have he : r'.ended = false := by simpa using he
          have hp := fold_parts ((O.drop P).take i) r0 (by rw [hr']; exact he) (by rw [hr', hRR, t2])
          rw [hr', List.length_take, List.length_drop] at hp
          obtain ⟨sec, s1, s2⟩ := hZn Z[i] (List.getElem_mem _)
          have hlr : r'.life ≤ r'.great := by rw [← hr']; exact fold_life _ _ hl0
          have hgr : r'.great ≤ L - 1 := by rw [← hr']; exact hgO _ (fun x hx => List.mem_of_mem_drop (List.mem_of_mem_take hx)) r0 hg0
          exact visit_late s1 (by omega) (by omega)
      have hYd : Y.drop P = (O.drop P).take i ++ Z[i] :: (Y.drop P).drop (i + 1) := by
        rw [← i2]
        have hlt : i < (Y.drop P).length := by rw [hdl]; exact hi
        have : (Y.drop P)[i] = Z[i] := by
          have h3 : (Y.drop P)[i]? = Z[i]? := by rw [List.getElem?_drop]; exact hYi
          rw [List.getElem?_eq_getElem hlt, List.getElem?_eq_getElem hiZ] at h3
          exact Option.some.inj h3
        rw [← this, List.getElem_cons_drop, List.take_append_drop]
      rw [hYd, List.foldl_append, hr', List.foldl_cons, (fold_ended _ hfin.1).2, hfin.2, hRR]
    · have : Y.drop P = O.drop P := by
        have h3 : i = O.length - P := by omega
        rw [h3] at i2
        rw [List.take_of_length_le (by omega), List.take_of_length_le (by rw [List.length_drop]; omega)] at i2
        exact i2
      rw [this, ← hOsplit, hR]
  · obtain ⟨m, m1, m2, m3, m4⟩ := hT k t1 (by omega) hc hn k1
    obtain ⟨m5, m6⟩ := m3 (by omega)
    refine ⟨m, m4 s hs hkj, m1, ?_, fun _ => ?_⟩
    · rw [hYsplit, hsp, ← m2]
      cases hd : (Y.drop P).drop k with
      | nil => rfl
      | cons x l =>
        have hx : (Y.drop P)[k]? = some x := by
          have := congrArg (fun l => l[0]?) hd
          simpa using this
        obtain ⟨a, b⟩ := visit_old m5 (hO x (hold x hx))
        rw [List.foldl_cons, (fold_ended _ a).2, b]
    · rw [hYsplit, hsp]
      exact Nat.le_trans m6 (fold_great _ _)
end Go.Proofs.YtjanddnlhaionaaGreatDoor.L6
