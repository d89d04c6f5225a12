/-
  A tape between two openings, and behind a crash, as plain functions. No condition.
-/
import Derived.Test.YtjanddnlhaionaaGreatDoorL6ZA
namespace Go.Proofs.YtjanddnlhaionaaGreatDoor.L6
open Go.RowKit

set_option maxRecDepth 100000 in
theorem ap_pend_get (f : Nat → Bool) (S : List ByteArray) (o : Nat) (l : List ByteArray) (hl : o + l.length ≤ S.length) : ∀ k, k ≤ l.length → ∀ i, (ap f S (pend o l) k)[i]? = if o ≤ i ∧ i < o + k ∧ f (i - o) = true then l[i - o]? else S[i]?
  | 0, _, i => by rw [if_neg (by omega)]; rfl
  | k + 1, h, i => by
    have ih := ap_pend_get f S o l hl k (by omega) i
    rw [ap, pw_pend o l k (by omega)]
    by_cases hf : f k = true
    · rw [if_pos hf]
      simp only
      rw [List.getElem?_set]
      by_cases hi : o + k = i
      · subst hi
        rw [if_pos rfl, ap_length, if_pos (by omega), if_pos ⟨by omega, by omega, by rw [show o + k - o = k by omega]; exact hf⟩, show o + k - o = k by omega, List.getElem?_eq_getElem (by omega)]
      · rw [if_neg hi, ih]
        by_cases hc : o ≤ i ∧ i < o + k ∧ f (i - o) = true
        · rw [if_pos hc, if_pos ⟨hc.1, by omega, hc.2.2⟩]
        · rw [if_neg hc, if_neg (fun h => hc ⟨h.1, by omega, h.2.2⟩)]
    · rw [if_neg hf, ih]
      by_cases hc : o ≤ i ∧ i < o + k ∧ f (i - o) = true
      · rw [if_pos hc, if_pos ⟨hc.1, by omega, hc.2.2⟩]
      · rw [if_neg hc, if_neg (fun h => hc ⟨h.1, Nat.lt_of_le_of_ne (by omega) (fun e => hf (by have := h.2.2; rw [show i - o = k by omega] at this; exact this)), h.2.2⟩)]

set_option maxRecDepth 100000 in
/-- What an append writes. -/
theorem wrK_gen (t : T) (s : ByteArray) (d : D) (hp : t.pos + needN s.size ≤ d.S.length) : ∀ k, k ≤ needN s.size →
    ∃ q, q ≤ k ∧ (wrK t s d k).1.S = d.S ∧ (wrK t s d k).1.W = d.W ++ pend t.pos ((secsOf t.life (t.count + 1) s).take q) ∧ (((wrK t s d k).2 = 0 ∧ q = k) ∨ (wrK t s d k).2 = 9)
  | 0, _ => ⟨0, Nat.le_refl _, rfl, by simp [wrK, pend], .inl ⟨rfl, rfl⟩⟩
  | k + 1, h => by
    obtain ⟨q, hq, h1, h2, h3⟩ := wrK_gen t s d hp k (by omega)
    unfold wrK
    rcases h3 with ⟨h3, rfl⟩ | h3
    · rw [if_pos h3]
      obtain ⟨e, he⟩ : ∃ e, (wrK t s d q).1 = e := ⟨_, rfl⟩
      rw [he] at h1 h2 ⊢
      have hsz : (layB (partOf t.life (t.count + 1) s q)).size = 64 := layB_size _ (by unfold partOf; simp only [List.length_take]; omega)
      have ho : writeOk e ((t.pos + q : Nat) : Int) (layB (partOf t.life (t.count + 1) s q)) = true := by
        unfold writeOk
        rw [Bool.and_eq_true, hasB_iff, decide_eq_true_eq, h1]
        exact ⟨by omega, hsz⟩
      unfold writeD writeE
      rw [if_pos ho, if_pos ho]
      by_cases hg : (burn e).gone = true
      · rw [if_pos hg, if_pos hg]
        exact ⟨q, by omega, by rw [burn_S]; exact h1, by rw [burn_W]; exact h2, .inr rfl⟩
      · rw [if_neg hg, if_neg hg]
        refine ⟨q + 1, Nat.le_refl _, by show (burn e).S = _; rw [burn_S]; exact h1, ?_, .inl ⟨rfl, rfl⟩⟩
        show e.W ++ _ = _
        have hql : q < (secsOf t.life (t.count + 1) s).length := by rw [secsOf_len]; omega
        have hg : (secsOf t.life (t.count + 1) s)[q] = layB (partOf t.life (t.count + 1) s q) := by simp [secsOf]
        have hlen : ((secsOf t.life (t.count + 1) s).take q).length = q := by rw [List.length_take]; omega
        rw [h2, List.take_succ_eq_append_getElem hql, pend_append, hlen, hg, List.append_assoc]
        rfl
    · rw [if_neg (by rw [h3]; omega)]
      exact ⟨q, by omega, h1, h2, .inr h3⟩

/-- A tape since its opening: O lay there; M was laid behind it, and of its sectors q were written, j of them are sure. -/
structure Kp (n : Nat) (had : List ByteArray) (sure : Nat) (d : D) (t : T) (O M : List ByteArray) (j q s : Nat) : Prop where
  l1 : 0 < t.life
  l2 : t.life ≤ 1000
  nn : n ≤ 200
  on : O.length = n
  old : ∀ x ∈ O, Old t.life x
  fit : (scanL O).occ + (allSecs t.life ((scanL O).recs.length + 1) M).length ≤ n
  rn : (scanL O).recs.length ≤ n
  sn : d.S.length = n
  S : ∀ i, d.S[i]? = if (scanL O).occ ≤ i ∧ i < (scanL O).occ + j then (allSecs t.life ((scanL O).recs.length + 1) M)[i - (scanL O).occ]? else O[i]?
  W : d.W = pend ((scanL O).occ + j) (((allSecs t.life ((scanL O).recs.length + 1) M).take q).drop j)
  jq : j ≤ q
  qz : q ≤ (allSecs t.life ((scanL O).recs.length + 1) M).length
  had : ∃ E, had = (scanL O).recs ++ M ++ E ∧ (t.err = 0 → E = [])
  sure : sure = (scanL O).recs.length + s
  sm : s ≤ M.length
  sj : (allSecs t.life ((scanL O).recs.length + 1) (M.take s)).length ≤ j
  ok : t.err = 0 → q = (allSecs t.life ((scanL O).recs.length + 1) M).length ∧ t.count = (scanL O).recs.length + M.length ∧ t.pos = (scanL O).occ + (allSecs t.life ((scanL O).recs.length + 1) M).length
  er : t.err = 0 ∨ t.err = 9
set_option maxRecDepth 100000 in
theorem Kp.need {n : Nat} {had : List ByteArray} {sure : Nat} {d : D} {t : T} {O M : List ByteArray} {j q s : Nat} (h : Kp n had sure d t O M j q s) : ∀ x ∈ M, needN x.size ≤ 65536 := by
  intro x hx
  have hf := h.fit
  have hn := h.nn
  have H : ∀ (m : List ByteArray) (rec : Nat), x ∈ m → needN x.size ≤ (allSecs t.life rec m).length := by
    intro m
    induction m with
    | nil => intro rec h; cases h
    | cons a m ih =>
      intro rec h
      simp only [allSecs, List.length_append, secsOf_len]
      rcases List.mem_cons.1 h with rfl | h
      · omega
      · have := ih (rec + 1) h; omega
  have := H M ((scanL O).recs.length + 1) hx
  omega
set_option maxRecDepth 100000 in
theorem Kp.mlen {n : Nat} {had : List ByteArray} {sure : Nat} {d : D} {t : T} {O M : List ByteArray} {j q s : Nat} (h : Kp n had sure d t O M j q s) : M.length ≤ n := by
  have := len_allSecs t.life ((scanL O).recs.length + 1) M
  have := h.fit
  omega
set_option maxRecDepth 100000 in
theorem Kp.wlen {n : Nat} {had : List ByteArray} {sure : Nat} {d : D} {t : T} {O M : List ByteArray} {j q s : Nat} (h : Kp n had sure d t O M j q s) : d.W.length ≤ n := by
  have hf := h.fit
  rw [h.W, pend_len, List.length_drop, List.length_take]
  omega

/-! ### The calls -/
def HadB (t : T) (d : D) (had : List ByteArray) (s : ByteArray) : List ByteArray := if (appE t d s = 0 ∨ appE t d s = 9) ∧ had.length = t.count then had ++ [s] else had
set_option maxRecDepth 100000 in
theorem Kp.append {n : Nat} {had : List ByteArray} {sure : Nat} {d : D} {t : T} {O M : List ByteArray} {j q s : Nat} (h : Kp n had sure d t O M j q s) (x : ByteArray) :
    (appE t d x = 0 ∨ appE t d x = 8 ∨ appE t d x = 9) ∧ (appE t d x = 0 → (appT t d x).count = t.count + 1) ∧ ∃ M' q', Kp n (HadB t d had x) sure (appD t d x) (appT t d x) O M' j q' s := by
  obtain ⟨E, hE, hE0⟩ := h.had
  by_cases he : t.err = 0
  · obtain ⟨hq, hc, hp⟩ := h.ok he
    obtain ⟨Z, hZ⟩ : ∃ Z, allSecs t.life ((scanL O).recs.length + 1) M = Z := ⟨_, rfl⟩
    rw [hZ] at hq hp
    by_cases hf : needN x.size + t.pos ≤ d.S.length
    · have e1 : appFits t d x = true := by unfold appFits; rw [decide_eq_true he, decide_eq_true hf]; rfl
      obtain ⟨q', hq', w1, w2, w3⟩ := wrK_gen t x d (by omega) (needN x.size) (Nat.le_refl _)
      have hsn := h.sn
      have hhl : had.length = t.count := by rw [hE, hE0 he, hc]; simp
      have hsec : t.count + 1 = (scanL O).recs.length + 1 + M.length := by omega
      rw [hsec] at w2
      have hall : allSecs t.life ((scanL O).recs.length + 1) (M ++ [x]) = Z ++ secsOf t.life ((scanL O).recs.length + 1 + M.length) x := by rw [allSecs_snoc, hZ]
      have hAE : appE t d x = (wrK t x d (needN x.size)).2 := by unfold appE; rw [if_pos he, if_pos hf]
      have hAD : appD t d x = (wrK t x d (needN x.size)).1 := by unfold appD; rw [if_pos e1]
      have h9 : appE t d x = 0 ∨ appE t d x = 9 := by rw [hAE]; rcases w3 with ⟨a, -⟩ | a; exact .inl a; exact .inr a
      have hHB : HadB t d had x = had ++ [x] := by unfold HadB; rw [if_pos ⟨h9, hhl⟩]
      refine ⟨by rcases h9 with a | a; exact .inl a; exact .inr (.inr a), fun h0 => ?_, M ++ [x], q + q', ?_⟩
      · unfold appT; rw [if_pos e1, if_pos (by rw [← hAE]; exact h0)]
      · have hTl : (appT t d x).life = t.life := by unfold appT; rw [if_pos e1]; split <;> rfl
        have hqz := h.qz
        have hS := h.S
        have hW := h.W
        have hjq := h.jq
        have hsj := h.sj
        have hsm := h.sm
        have hft := h.fit
        rw [hZ] at hqz hS hW hft
        have hslen : (secsOf t.life ((scanL O).recs.length + 1 + M.length) x).length = needN x.size := secsOf_len _ _ _
        refine ⟨by rw [hTl]; exact h.l1, by rw [hTl]; exact h.l2, h.nn, h.on, by rw [hTl]; exact h.old, ?_, h.rn, by rw [hAD, w1]; exact h.sn, ?_, ?_, by omega, ?_, ?_, h.sure, ?_, ?_, ?_, ?_⟩
        · rw [hTl, hall, List.length_append, hslen]; omega
        · intro i
          rw [hAD, w1, hTl, hall, hS i]
          by_cases hi : (scanL O).occ ≤ i ∧ i < (scanL O).occ + j
          · rw [if_pos hi, if_pos hi, List.getElem?_append_left (by omega)]
          · rw [if_neg hi, if_neg hi]
        · have hZZ : (Z ++ secsOf t.life ((scanL O).recs.length + 1 + M.length) x).take (Z.length + q') = Z ++ (secsOf t.life ((scanL O).recs.length + 1 + M.length) x).take q' := by
            rw [List.take_append, List.take_of_length_le (Nat.le_add_right _ _), show Z.length + q' - Z.length = q' by omega]
          rw [hAD, w2, hTl, hall, hW, hq, List.take_length, hZZ, List.drop_append_of_le_length (by omega), pend_append, List.length_drop, hp, show (scanL O).occ + j + (Z.length - j) = (scanL O).occ + Z.length by omega]
        · rw [hTl, hall, List.length_append, hslen]; omega
        · refine ⟨[], ?_, fun _ => rfl⟩
          rw [hHB, hE, hE0 he]; simp
        · rw [List.length_append]; omega
        · rw [hTl, List.take_append_of_le_length hsm]; exact hsj
        · intro h0
          have hw0 : (wrK t x d (needN x.size)).2 = 0 := by
            unfold appT at h0
            rw [if_pos e1] at h0
            by_cases hw : (wrK t x d (needN x.size)).2 = 0
            · exact hw
            · rw [if_neg hw] at h0; exact h0
          have hqq : q' = needN x.size := by
            rcases w3 with ⟨-, b⟩ | a
            · exact b
            · rw [hw0] at a; omega
          rw [hTl, hall, List.length_append, hslen]
          unfold appT
          rw [if_pos e1, if_pos hw0]
          refine ⟨by omega, ?_, ?_⟩
          · show t.count + 1 = _; rw [List.length_append]; simp; omega
          · show t.pos + needN x.size = _; omega
        · unfold appT
          rw [if_pos e1]
          rcases w3 with ⟨a, -⟩ | a
          · rw [if_pos a]; exact .inl he
          · rw [if_neg (by rw [a]; omega)]; exact .inr a
    · have e1 : appFits t d x = false := by unfold appFits; rw [decide_eq_false hf, Bool.and_false]
      have hAE : appE t d x = 8 := by unfold appE; rw [if_pos he, if_neg hf]
      have hAD : appD t d x = d := by unfold appD; rw [e1]; rfl
      have hAT : appT t d x = t := by unfold appT; rw [e1]; rfl
      have hHB : HadB t d had x = had := by unfold HadB; rw [if_neg (by rw [hAE]; omega)]
      rw [hAD, hAT, hHB]
      exact ⟨.inr (.inl hAE), fun h0 => by rw [hAE] at h0; omega, M, q, h⟩
  · have h9 : t.err = 9 := by rcases h.er with h | h; exact absurd h he; exact h
    have e1 : appFits t d x = false := by unfold appFits; rw [decide_eq_false he]; rfl
    have hAE : appE t d x = 9 := by unfold appE; rw [if_neg he]; exact h9
    have hAD : appD t d x = d := by unfold appD; rw [e1]; rfl
    have hAT : appT t d x = t := by unfold appT; rw [e1]; rfl
    rw [hAD, hAT]
    refine ⟨.inr (.inr hAE), fun h0 => by rw [hAE] at h0; omega, M, q, { h with had := ?_ }⟩
    unfold HadB
    by_cases hl : (appE t d x = 0 ∨ appE t d x = 9) ∧ had.length = t.count
    · rw [if_pos hl]
      exact ⟨E ++ [x], by rw [hE]; simp, fun h0 => absurd h0 he⟩
    · rw [if_neg hl]
      exact ⟨E, hE, hE0⟩
set_option maxRecDepth 100000 in
theorem Kp.settle {n : Nat} {had : List ByteArray} {sure : Nat} {d : D} {t : T} {O M : List ByteArray} {j q s : Nat} (h : Kp n had sure d t O M j q s) :
    ∃ j' s', Kp n had (if flushE t d = 0 then had.length else sure) (flushD t d) (flushT t d) O M j' q s' := by
  obtain ⟨E, hE, hE0⟩ := h.had
  by_cases he : t.err = 0
  · obtain ⟨hq, hc, hp⟩ := h.ok he
    unfold flushE flushD flushT flushE settleE settleD
    rw [if_pos he, if_pos he]
    by_cases hg : (burn d).gone = true
    · rw [if_pos hg, if_pos hg, if_neg (by omega)]
      exact ⟨j, s, { h with sn := by rw [burn_S]; exact h.sn, S := by rw [burn_S]; exact h.S, W := by rw [burn_W]; exact h.W, had := ⟨E, hE, fun h0 => (by cases h0)⟩, ok := fun h0 => (by cases h0), er := .inr rfl }⟩
    · rw [if_neg hg, if_neg hg, if_pos rfl]
      have hqz := h.qz
      have hjq := h.jq
      have hft := h.fit
      have hsn := h.sn
      have hon := h.on
      have hS := h.S
      have hW := h.W
      obtain ⟨Z, hZ⟩ : ∃ Z, allSecs t.life ((scanL O).recs.length + 1) M = Z := ⟨_, rfl⟩
      rw [hZ] at hq hqz hft hS hW hp
      have hdl : ((Z.take q).drop j).length = q - j := by rw [List.length_drop, List.length_take]; omega
      refine ⟨q, M.length, ⟨h.l1, h.l2, h.nn, h.on, h.old, by rw [hZ]; exact hft, h.rn, by show (ap _ _ _ _).length = _; rw [ap_length]; exact hsn, ?_, ?_, Nat.le_refl _, by rw [hZ]; exact hqz, ⟨E, hE, fun _ => hE0 he⟩, ?_, Nat.le_refl _, by rw [List.take_length, hZ]; omega, fun _ => ⟨by rw [hZ]; exact hq, hc, by rw [hZ]; exact hp⟩, .inl rfl⟩⟩
      · intro i
        show (ap allF d.S d.W d.W.length)[i]? = _
        rw [hZ, hW, pend_len, ap_pend_get allF d.S _ _ (by rw [hdl, hsn]; omega) _ (Nat.le_refl _), hdl, hS i]
        by_cases h1 : (scanL O).occ ≤ i ∧ i < (scanL O).occ + q
        · rw [if_pos h1]
          by_cases h2 : i < (scanL O).occ + j
          · rw [if_neg (by omega), if_pos ⟨h1.1, h2⟩]
          · rw [if_pos ⟨by omega, by omega, rfl⟩, List.getElem?_drop, List.getElem?_take_of_lt (by omega)]
            congr 1
            omega
        · rw [if_neg h1, if_neg (by omega), if_neg (by omega)]
      · show ([] : List (Nat × ByteArray)) = _
        rw [hZ, List.drop_of_length_le (by rw [List.length_take]; omega)]
        rfl
      · rw [hE, hE0 he]; simp
  · have hfE : flushE t d = t.err := by unfold flushE; rw [if_neg he]
    have hfD : flushD t d = d := by unfold flushD; rw [if_neg he]
    have hfT : flushT t d = t := by unfold flushT; rw [hfE]
    rw [hfE, hfD, hfT, if_neg he]
    exact ⟨j, s, h⟩
set_option maxRecDepth 100000 in
theorem Kp.arm {n : Nat} {had : List ByteArray} {sure : Nat} {d : D} {t : T} {O M : List ByteArray} {j q s : Nat} (h : Kp n had sure d t O M j q s) (k : Int) : Kp n had sure (armD d k) t O M j q s := by
  have e1 : (armD d k).S = d.S := by unfold armD; split; rfl; split <;> rfl
  have e2 : (armD d k).W = d.W := by unfold armD; split; rfl; split <;> rfl
  exact { h with sn := by rw [e1]; exact h.sn, S := by rw [e1]; exact h.S, W := by rw [e2]; exact h.W }
set_option maxRecDepth 100000 in
/-- A crash, and an opening behind it. -/
theorem Kp.crash {n : Nat} {had : List ByteArray} {sure : Nat} {d : D} {t : T} {O M : List ByteArray} {j q s : Nat} (h : Kp n had sure d t O M j q s) (h3 : t.life < 1000) (keep : List Int) :
    openE (crashD d keep) = 0 ∧ (∃ E, had = (scanD (crashD d keep)).recs ++ E) ∧ sure ≤ (scanD (crashD d keep)).recs.length ∧ (sure < (scanD (crashD d keep)).recs.length → t.life < (openT (crashD d keep)).life) ∧ (openT (crashD d keep)).life ≤ t.life + 1 ∧ (scanD (crashD d keep)).recs.length ≤ n ∧
      ∃ O', Kp n (scanD (crashD d keep)).recs (scanD (crashD d keep)).recs.length (crashD d keep) (openT (crashD d keep)) O' [] 0 0 0 := by
  obtain ⟨Y, hYd⟩ : ∃ Y, ap (keepF keep) d.S d.W d.W.length = Y := ⟨_, rfl⟩
  have hcr : crashD d keep = rest Y := by unfold crashD rest; rw [hYd]
  have hsc : scanD (rest Y) = scanL Y := by unfold scanD; rw [shown_rest]
  obtain ⟨E, hE, hE0⟩ := h.had
  have hqz := h.qz
  have hjq := h.jq
  have hft := h.fit
  have hsn := h.sn
  have hon := h.on
  have hS := h.S
  have hW := h.W
  have hnn := h.nn
  have hrn := h.rn
  have hml := h.mlen
  have hl2 := h.l2
  obtain ⟨Z, hZ⟩ : ∃ Z, allSecs t.life ((scanL O).recs.length + 1) M = Z := ⟨_, rfl⟩
  have hmem := mem_allSecs t.life h.l1 (by omega) ((scanL O).recs.length + 1) M (by omega) h.need
  have hYl : Y.length = n := by rw [← hYd, ap_length]; exact hsn
  have hmix := scan_mix t.life h.l1 (by omega) O Y M h.old (by omega) h.need (by rw [hon]; exact hft) (by rw [hYl, hon]) j s
  rw [hZ] at hmix hqz hft hS hW hmem
  have hdl : ((Z.take q).drop j).length = q - j := by rw [List.length_drop, List.length_take]; omega
  have hY : ∀ i, Y[i]? = if (scanL O).occ + j ≤ i ∧ i < (scanL O).occ + q ∧ keepF keep (i - ((scanL O).occ + j)) = true then Z[i - (scanL O).occ]? else if (scanL O).occ ≤ i ∧ i < (scanL O).occ + j then Z[i - (scanL O).occ]? else O[i]? := by
    intro i
    rw [← hYd, hW, pend_len, ap_pend_get (keepF keep) d.S _ _ (by rw [hdl, hsn]; omega) _ (Nat.le_refl _), hdl, hS i, show (scanL O).occ + j + (q - j) = (scanL O).occ + q by omega]
    by_cases hc : (scanL O).occ + j ≤ i ∧ i < (scanL O).occ + q ∧ keepF keep (i - ((scanL O).occ + j)) = true
    · rw [if_pos hc, if_pos hc, List.getElem?_drop, List.getElem?_take_of_lt (by omega)]
      congr 1
      omega
    · rw [if_neg hc, if_neg hc]
  have hkind : ∀ i, Y[i]? = O[i]? ∨ ((scanL O).occ ≤ i ∧ i < (scanL O).occ + q ∧ Y[i]? = Z[i - (scanL O).occ]?) := by
    intro i
    rw [hY i]
    by_cases hc : (scanL O).occ + j ≤ i ∧ i < (scanL O).occ + q ∧ keepF keep (i - ((scanL O).occ + j)) = true
    · rw [if_pos hc]; exact .inr ⟨by omega, hc.2.1, rfl⟩
    · rw [if_neg hc]
      by_cases hc2 : (scanL O).occ ≤ i ∧ i < (scanL O).occ + j
      · rw [if_pos hc2]; exact .inr ⟨hc2.1, by omega, rfl⟩
      · rw [if_neg hc2]; exact .inl rfl
  obtain ⟨m, m1, m2, m3, m4⟩ := hmix (fun i hi => by
    rcases hkind i with hk | ⟨a, b, -⟩
    · exact hk
    · omega) (fun i hi => by
    rcases hkind ((scanL O).occ + i) with hk | ⟨-, -, hk⟩
    · by_cases hj : j ≤ i
      · exact .inr ⟨hj, hk⟩
      · rw [hY, if_neg (by omega), if_pos (by omega), show (scanL O).occ + i - (scanL O).occ = i by omega]; exact .inl rfl
    · rw [show (scanL O).occ + i - (scanL O).occ = i by omega] at hk; exact .inl hk) h.sm h.sj (by omega)
  have hgr : (scanL Y).great ≤ t.life := by
    refine great_le t.life Y rd0 (fun x hx sec hsec => ?_) (Nat.zero_le _)
    obtain ⟨i, hi⟩ := List.mem_iff_getElem?.1 hx
    rcases hkind i with hk | ⟨-, -, hk⟩
    · rw [hk] at hi
      have := h.old x (List.mem_of_getElem? hi) sec hsec
      omega
    · rw [hk] at hi
      obtain ⟨sec', a, b⟩ := hmem x (List.mem_of_getElem? hi)
      rw [hsec] at a
      injection a with a
      subst a
      omega
  have hrl : (scanL Y).recs.length = (scanL O).recs.length + m := by rw [m3, List.length_append, List.length_take]; omega
  have hocc := occ_le Y
  have hro := (scanL_ok Y).1
  have hsure := h.sure
  rw [hcr, hsc]
  have hlife : (openT (rest Y)).life = (scanL Y).great + 1 := by unfold openT; rw [hsc]
  refine ⟨?_, ⟨M.drop m ++ E, ?_⟩, by omega, fun hlt => ?_, by rw [hlife]; omega, by omega, Y, ?_⟩
  · unfold openE
    rw [if_neg (by simp [rest]), hsc, if_neg (by omega)]
  · rw [m3, hE, List.append_assoc, List.append_assoc, ← List.append_assoc (M.take m), List.take_append_drop]
  · have := m4 (by omega)
    rw [hlife]; omega
  · refine ⟨by rw [hlife]; omega, by rw [hlife]; omega, hnn, hYl, fun x hx sec hsec => ?_, by simp [allSecs]; omega, by omega, hYl, fun i => ?_, ?_, Nat.le_refl _, Nat.zero_le _, ⟨[], by simp, fun _ => rfl⟩, rfl, Nat.le_refl _, by simp [allSecs], fun _ => ⟨rfl, ?_, ?_⟩, .inl rfl⟩
    · rw [hlife]
      have := great_ge Y rd0 x hx sec hsec
      show _ < (Y.foldl visit rd0).great + 1
      omega
    · rw [if_neg (by omega)]; rfl
    · simp [rest, allSecs, pend]
    · show (scanD (rest Y)).recs.length = _; rw [hsc]; rfl
    · show (scanD (rest Y)).occ = _; rw [hsc]; rfl
set_option maxRecDepth 100000 in
theorem Kp.new (n : Nat) (h2 : n ≤ 200) : Kp n [] 0 (newD n) (openT (newD n)) (List.replicate n z64) [] 0 0 0 ∧ (openT (newD n)).life = 1 := by
  have hs : scanD (newD n) = scanL (List.replicate n z64) := by unfold scanD; rw [show newD n = rest (List.replicate n z64) from rfl, shown_rest]
  obtain ⟨b1, b2, b3⟩ := visit_blank n rd0
  have c1 : (scanL (List.replicate n z64)).recs = [] := b1
  have c2 : (scanL (List.replicate n z64)).occ = 0 := b2
  have c3 : (scanL (List.replicate n z64)).great = 0 := b3
  have hl : (openT (newD n)).life = 1 := by unfold openT; rw [hs, c3]
  refine ⟨⟨by omega, by omega, h2, by simp, fun x hx sec hsec => ?_, by rw [c2]; simp [allSecs], by rw [c1]; simp, by simp [newD], fun i => ?_, by simp [newD, allSecs, pend], Nat.le_refl _, Nat.zero_le _, ⟨[], by rw [c1]; rfl, fun _ => rfl⟩, by rw [c1]; rfl, Nat.le_refl _, by simp [allSecs], fun _ => ⟨rfl, ?_, ?_⟩, .inl rfl⟩, hl⟩
  · rw [List.eq_of_mem_replicate hx, says_z64] at hsec; cases hsec
  · rw [if_neg (by omega)]; rfl
  · show (scanD (newD n)).recs.length = _; rw [hs]; rfl
  · show (scanD (newD n)).occ = _; rw [hs]; rfl
end Go.Proofs.YtjanddnlhaionaaGreatDoor.L6
