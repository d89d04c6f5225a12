/-
  A drum that a tape filled from the beginning; a slice of strings that came in. No condition. The reader of what a crash leaves of a log of several lives. No condition. A tape between two openings, and behind a crash, as plain functions. No condition. A tape and rows of strings beside it; the walk of TapeWhole. No condition. A crash and an arm, beside a tape and rows of strings. No condition.
-/
import Derived.Test.YtjanddnlhaionaaGreatDoorL6x5
import Derived.OpenShut
import Derived.Deep.AppendLies
set_option maxRecDepth 100000
namespace Go.Proofs.YtjanddnlhaionaaGreatDoor.L6
open Go.ChangeShapes Go.WideShapes Go.ChangeAt Go.RowKit Go.Joins Go.Deep

/-! ### Pending writes to consecutive sectors -/
def pend : Nat → List ByteArray → List (Nat × ByteArray)
  | _, [] => []
  | o, x :: l => (o, x) :: pend (o + 1) l
theorem pend_len : ∀ (o : Nat) (l : List ByteArray), (pend o l).length = l.length
  | _, [] => rfl
  | o, x :: l => by simp [pend, pend_len (o + 1) l]
theorem pend_append : ∀ (o : Nat) (a b : List ByteArray), pend o (a ++ b) = pend o a ++ pend (o + a.length) b
  | o, [], b => by simp [pend]
  | o, x :: a, b => by
    simp only [List.cons_append, pend, pend_append (o + 1) a b, List.length_cons]
    rw [show o + 1 + a.length = o + (a.length + 1) by omega]
theorem pend_get : ∀ (o : Nat) (l : List ByteArray) (k : Nat) (h : k < l.length), (pend o l)[k]? = some (o + k, l[k])
  | o, x :: l, 0, _ => by simp [pend]
  | o, x :: l, k + 1, h => by
    have hk : k < l.length := by simpa using h
    simp only [pend, List.getElem?_cons_succ, pend_get (o + 1) l k hk, List.getElem_cons_succ]
    rw [show o + 1 + k = o + (k + 1) by omega]
theorem pw_pend (o : Nat) (l : List ByteArray) (k : Nat) (h : k < l.length) : pw (pend o l) k = (o + k, l[k]) := by
  unfold pw
  rw [List.getD_eq_getElem?_getD, pend_get o l k h]
  rfl
theorem ap_pend (n : Nat) (l : List ByteArray) (hl : l.length ≤ n) : ∀ k, k ≤ l.length → ap allF (List.replicate n z64) (pend 0 l) k = l.take k ++ List.replicate (n - k) z64
  | 0, _ => by simp [ap]
  | k + 1, h => by
    have hk : k < l.length := by omega
    rw [ap, ap_pend n l hl k (by omega), pw_pend 0 l k hk]
    have ha : allF k = true := rfl
    rw [ha, if_pos rfl]
    simp only [Nat.zero_add]
    have hlen : (l.take k).length = k := by rw [List.length_take]; omega
    rw [List.take_succ_eq_append_getElem hk, show n - k = (n - (k + 1)) + 1 by omega, List.replicate_succ, List.set_append_right _ _ (by omega), hlen, Nat.sub_self, List.set_cons_zero, List.append_assoc]
    rfl

/-- A drum of n sectors that holds nothing durable, with all of l pending. -/
structure Wh (n : Nat) (l : List ByteArray) (d : D) (t : T) : Prop where
  s : d.S = List.replicate n z64
  w : d.W = pend 0 (allSecs 1 1 l)
  f : d.fuse = -1
  g : d.gone = false
  t : t = ⟨l.length, 1, (allSecs 1 1 l).length, 0⟩
  le : (allSecs 1 1 l).length ≤ n
theorem burn_none {d : D} (h : d.fuse = -1) : burn d = d := by
  unfold burn
  rw [if_neg (by rw [h]; omega), if_neg (by rw [h]; omega)]
theorem write_none {d : D} (hf : d.fuse = -1) (hg : d.gone = false) (i : Nat) (s : ByteArray) (hi : i < d.S.length) (hs : s.size = 64) : writeE d (i : Int) s = 0 ∧ writeD d (i : Int) s = { d with W := d.W ++ [(i, s)] } := by
  have ho : writeOk d (i : Int) s = true := by
    unfold writeOk
    rw [Bool.and_eq_true, hasB_iff, decide_eq_true_eq]
    exact ⟨by omega, hs⟩
  unfold writeE writeD
  rw [ho, burn_none hf, hg]
  simp [hg]
theorem wrK_none (t : T) (s : ByteArray) (d : D) (hf : d.fuse = -1) (hg : d.gone = false) (hp : t.pos + needN s.size ≤ d.S.length) : ∀ k, k ≤ needN s.size →
    wrK t s d k = ({ d with W := d.W ++ pend t.pos (((List.range k).map fun i => layB (partOf t.life (t.count + 1) s i))) }, 0)
  | 0, _ => by simp [wrK, pend]
  | k + 1, h => by
    have ih := wrK_none t s d hf hg hp k (by omega)
    have hsz : (layB (partOf t.life (t.count + 1) s k)).size = 64 := layB_size _ (by unfold partOf; simp only [List.length_take]; omega)
    obtain ⟨e1, e2⟩ := write_none (d := { d with W := d.W ++ pend t.pos (((List.range k).map fun i => layB (partOf t.life (t.count + 1) s i))) }) hf hg (t.pos + k) (layB (partOf t.life (t.count + 1) s k)) (by show t.pos + k < d.S.length; omega) hsz
    unfold wrK
    rw [ih]
    simp only [if_true]
    rw [e1, e2]
    simp only
    congr 1
    congr 1
    rw [List.append_assoc, List.range_succ, List.map_append, pend_append]
    simp [pend]
theorem Wh.app {n : Nat} {l : List ByteArray} {d : D} {t : T} (h : Wh n l d t) (s : ByteArray) : (needN s.size + (allSecs 1 1 l).length ≤ n → appE t d s = 0 ∧ Wh n (l ++ [s]) (appD t d s) (appT t d s)) ∧ (¬ needN s.size + (allSecs 1 1 l).length ≤ n → appE t d s = 8 ∧ appD t d s = d ∧ appT t d s = t) := by
  have ht := h.t
  have hS : d.S.length = n := by rw [h.s]; simp
  have hp : t.pos = (allSecs 1 1 l).length := by rw [ht]
  have he : t.err = 0 := by rw [ht]
  have hc : t.count = l.length := by rw [ht]
  have hli : t.life = 1 := by rw [ht]
  refine ⟨fun hf => ?_, fun hf => ?_⟩
  · have e1 : appFits t d s = true := by unfold appFits; rw [decide_eq_true he, decide_eq_true (by rw [hp, hS]; exact hf)]; rfl
    have ek := wrK_none t s d h.f h.g (by rw [hp, hS]; omega) (needN s.size) (Nat.le_refl _)
    have hsec : ((List.range (needN s.size)).map fun i => layB (partOf t.life (t.count + 1) s i)) = secsOf 1 (1 + l.length) s := by rw [hc, hli, Nat.add_comm l.length 1]; rfl
    rw [hsec] at ek
    have hall : allSecs 1 1 (l ++ [s]) = allSecs 1 1 l ++ secsOf 1 (1 + l.length) s := allSecs_snoc 1 1 l s
    refine ⟨by unfold appE; rw [if_pos he, if_pos (by rw [hp, hS]; exact hf), ek], ?_⟩
    unfold appD appT
    rw [if_pos e1, if_pos e1, ek]
    simp only [if_true]
    refine ⟨h.s, ?_, h.f, h.g, ?_, ?_⟩
    · rw [hall, pend_append, h.w, hp, Nat.zero_add]
    · rw [hall, ht]
      simp [secsOf_len]
    · rw [hall, List.length_append, secsOf_len]; omega
  · have hf' : ¬ needN s.size + t.pos ≤ d.S.length := by rw [hp, hS]; exact hf
    have e1 : appFits t d s = false := by unfold appFits; rw [decide_eq_false hf', Bool.and_false]
    refine ⟨by unfold appE; rw [if_pos he, if_neg (by rw [hp, hS]; exact hf)], by unfold appD; rw [e1]; rfl, by unfold appT; rw [e1]; rfl⟩
/-- A drum at rest. -/
def rest (S : List ByteArray) : D := ⟨S, [], -1, false⟩
theorem Wh.settle {n : Nat} {l : List ByteArray} {d : D} {t : T} (h : Wh n l d t) : flushE t d = 0 ∧ flushD t d = rest (allSecs 1 1 l ++ List.replicate (n - (allSecs 1 1 l).length) z64) := by
  have he : t.err = 0 := by rw [h.t]
  unfold flushE flushD settleE settleD
  rw [if_pos he, if_pos he, burn_none h.f, h.g]
  simp only [Bool.false_eq_true, if_false, true_and]
  unfold rest
  have hw := h.w
  have hs := h.s
  have hf := h.f
  have hg := h.g
  have e : ap allF d.S d.W d.W.length = allSecs 1 1 l ++ List.replicate (n - (allSecs 1 1 l).length) z64 := by
    rw [hw, hs, pend_len, ap_pend n _ h.le _ (Nat.le_refl _), List.take_length]
  rw [e, hf, hg]
theorem shown_rest (S : List ByteArray) : shown (rest S) = S := by
  unfold shown rest sh
  refine List.ext_getElem (by simp) fun i h1 h2 => ?_
  simp [h2]
theorem Wh.new (n : Nat) : Wh n [] (newD n) (openT (newD n)) ∧ openE (newD n) = 0 ∧ (scanD (newD n)).recs = [] := by
  have hs : scanD (newD n) = scanL (List.replicate n z64) := by unfold scanD; rw [show newD n = rest (List.replicate n z64) from rfl, shown_rest]
  obtain ⟨b1, b2, b3⟩ := visit_blank n rd0
  have c1 : (scanD (newD n)).recs = [] := by rw [hs]; exact b1
  have c2 : (scanD (newD n)).occ = 0 := by rw [hs]; exact b2
  have c3 : (scanD (newD n)).great = 0 := by rw [hs]; exact b3
  refine ⟨⟨rfl, rfl, rfl, rfl, ?_, Nat.zero_le _⟩, ?_, c1⟩
  · unfold openT; rw [c1, c2, c3]; rfl
  · unfold openE; rw [c3]; rfl
theorem Wh.again {n : Nat} {l : List ByteArray} (hl : l.length ≤ 1000000) (hle : (allSecs 1 1 l).length ≤ n) (hn : n ≤ 4096) :
    openE (rest (allSecs 1 1 l ++ List.replicate (n - (allSecs 1 1 l).length) z64)) = 0 ∧ (scanD (rest (allSecs 1 1 l ++ List.replicate (n - (allSecs 1 1 l).length) z64))).recs = l ∧ (openT (rest (allSecs 1 1 l ++ List.replicate (n - (allSecs 1 1 l).length) z64))).count = l.length ∧
      (openT (rest (allSecs 1 1 l ++ List.replicate (n - (allSecs 1 1 l).length) z64))).pos = (allSecs 1 1 l).length := by
  have hne : ∀ s ∈ l, needN s.size ≤ 65536 := by
    intro s hs
    have : needN s.size ≤ (allSecs 1 1 l).length := by
      have H : ∀ (m : List ByteArray) (rec : Nat), s ∈ m → needN s.size ≤ (allSecs 1 rec m).length := by
        intro m
        induction m with
        | nil => intro rec h; cases h
        | cons a m ih =>
          intro rec h
          simp only [allSecs, List.length_append, secsOf_len]
          rcases List.mem_cons.1 h with rfl | h
          · omega
          · have := ih (rec + 1) h; omega
      exact H l 1 hs
    omega
  obtain ⟨s1, s2, s3⟩ := scan_whole 1 (by omega) (by omega) l (n - (allSecs 1 1 l).length) (by omega) hne
  have hsc : scanD (rest (allSecs 1 1 l ++ List.replicate (n - (allSecs 1 1 l).length) z64)) = scanL (allSecs 1 1 l ++ List.replicate (n - (allSecs 1 1 l).length) z64) := by unfold scanD; rw [shown_rest]
  rw [← hsc] at s1 s2 s3
  refine ⟨?_, s1, by show (scanD _).recs.length = _; rw [s1], s2⟩
  unfold openE
  rw [if_neg (by simp [rest]), if_neg (by omega)]

/-! ### A slice of strings that came in -/
def SAt (w : World) (B : Nat) (v : Value) (l : List ByteArray) : Prop :=
  ∃ a c, v = .slice a l.length c ∧ (0 < l.length → ∃ b o, a = some ⟨b, o, none⟩ ∧ b < B ∧ ∀ i (h : i < l.length), w.cell? ⟨b, o + i, none⟩ = some (.string l[i]))
section
variable {H : Type} {enc : TypeId × Value → H} {w : World} {held : Bool}
end
end Go.Proofs.YtjanddnlhaionaaGreatDoor.L6
namespace Go.Proofs.YtjanddnlhaionaaGreatDoor.L6
open Go.RowKit

/-- No valid sector of life L or later. -/
def Old (L : Nat) (x : ByteArray) : Prop := ∀ s, says x.data.toList = some s → s.life < L

/-! ### One visit -/
theorem visit_kinds (r : Rd) (x : ByteArray) : (visit r x).vis = r.vis + 1 ∧ r.great ≤ (visit r x).great ∧ (r.life ≤ r.great → (visit r x).life ≤ (visit r x).great) ∧
    (((visit r x).ended = true ∧ (visit r x).recs = r.recs ∧ (visit r x).occ = r.occ) ∨
     (r.ended = false ∧ (visit r x).ended = false ∧ (visit r x).recs = r.recs ∧ (visit r x).occ = r.occ ∧ (visit r x).parts = r.parts + 1) ∨
     (r.ended = false ∧ Clean (visit r x) ∧ (visit r x).occ = r.vis + 1 ∧ ∃ s, (visit r x).recs = r.recs ++ [s])) := by
  unfold visit
  cases hs : says x.data.toList with
  | none => exact ⟨rfl, Nat.le_refl _, fun h => h, .inl ⟨rfl, rfl, rfl⟩⟩
  | some s =>
    unfold visitO
    simp only
    by_cases hc : (r.ended || !expects r s) = true
    · rw [if_pos hc]
      exact ⟨rfl, by show r.great ≤ max r.great s.life; omega, fun h => by show r.life ≤ max r.great s.life; omega, .inl ⟨rfl, rfl, rfl⟩⟩
    · rw [if_neg hc]
      have he : r.ended = false := by
        cases h : r.ended with
        | false => rfl
        | true => rw [h] at hc; exact absurd rfl hc
      unfold takeS
      by_cases hl : s.last = true
      · rw [if_pos hl]
        exact ⟨rfl, by show r.great ≤ max r.great s.life; omega, fun h => by show s.life ≤ max r.great s.life; omega, .inr (.inr ⟨he, ⟨he, rfl, rfl⟩, rfl, _, rfl⟩)⟩
      · rw [if_neg hl]
        exact ⟨rfl, by show r.great ≤ max r.great s.life; omega, fun h => by show s.life ≤ max r.great s.life; omega, .inr (.inl ⟨he, he, rfl, rfl, rfl⟩)⟩
theorem visit_ended {r : Rd} (h : r.ended = true) (x : ByteArray) : (visit r x).ended = true ∧ (visit r x).recs = r.recs := by
  obtain ⟨-, -, -, hk⟩ := visit_kinds r x
  rcases hk with ⟨a, b, -⟩ | ⟨a, -⟩ | ⟨a, -⟩
  · exact ⟨a, b⟩
  · rw [h] at a; cases a
  · rw [h] at a; cases a
theorem fold_ended : ∀ (l : List ByteArray) {r : Rd}, r.ended = true → (l.foldl visit r).ended = true ∧ (l.foldl visit r).recs = r.recs
  | [], _, h => ⟨h, rfl⟩
  | x :: l, r, h => by
    obtain ⟨a, b⟩ := visit_ended h x
    obtain ⟨c, d⟩ := fold_ended l a
    exact ⟨c, d.trans b⟩
theorem fold_great : ∀ (l : List ByteArray) (r : Rd), r.great ≤ (l.foldl visit r).great
  | [], _ => Nat.le_refl _
  | x :: l, r => Nat.le_trans (visit_kinds r x).2.1 (fold_great l _)
theorem fold_life : ∀ (l : List ByteArray) (r : Rd), r.life ≤ r.great → (l.foldl visit r).life ≤ (l.foldl visit r).great
  | [], _, h => h
  | x :: l, r, h => fold_life l _ ((visit_kinds r x).2.2.1 h)
theorem visit_says {r : Rd} {x : ByteArray} {s : Sec} (h : says x.data.toList = some s) : (visit r x).great = max r.great s.life := by
  unfold visit
  rw [h]
  unfold visitO takeS
  simp only
  split
  · rfl
  · split <;> rfl
theorem visit_none {r : Rd} {x : ByteArray} (h : says x.data.toList = none) : visit r x = { r with vis := r.vis + 1, ended := true } := by
  unfold visit; rw [h]; rfl
theorem great_ge : ∀ (l : List ByteArray) (r : Rd) (x : ByteArray), x ∈ l → ∀ s, says x.data.toList = some s → s.life ≤ (l.foldl visit r).great
  | y :: l, r, x, hx, s, hs => by
    rcases List.mem_cons.1 hx with rfl | hx
    · refine Nat.le_trans ?_ (fold_great l (visit r x))
      rw [visit_says hs]; omega
    · exact great_ge l _ x hx s hs
theorem great_le (B : Nat) : ∀ (l : List ByteArray) (r : Rd), (∀ x ∈ l, ∀ s, says x.data.toList = some s → s.life ≤ B) → r.great ≤ B → (l.foldl visit r).great ≤ B
  | [], _, _, h => h
  | x :: l, r, hl, h => by
    refine great_le B l _ (fun y hy => hl y (List.mem_cons_of_mem _ hy)) ?_
    cases hs : says x.data.toList with
    | none => rw [visit_none hs]; exact h
    | some s =>
      have := hl x List.mem_cons_self s hs
      rw [visit_says hs]; omega
theorem fold_recs : ∀ (l : List ByteArray) (r : Rd), ∃ t, (l.foldl visit r).recs = r.recs ++ t
  | [], r => ⟨[], by simp⟩
  | x :: l, r => by
    obtain ⟨t, ht⟩ := fold_recs l (visit r x)
    obtain ⟨-, -, -, hk⟩ := visit_kinds r x
    rcases hk with ⟨-, b, -⟩ | ⟨-, -, b, -⟩ | ⟨-, -, -, s, b⟩
    · exact ⟨t, by rw [List.foldl_cons, ht, b]⟩
    · exact ⟨t, by rw [List.foldl_cons, ht, b]⟩
    · exact ⟨s :: t, by rw [List.foldl_cons, ht, b]; simp⟩
theorem fold_parts : ∀ (l : List ByteArray) (r : Rd), (l.foldl visit r).ended = false → (l.foldl visit r).recs.length = r.recs.length → (l.foldl visit r).parts = r.parts + l.length
  | [], _, _, _ => rfl
  | x :: l, r, he, hr => by
    obtain ⟨t, ht⟩ := fold_recs l (visit r x)
    obtain ⟨-, -, -, hk⟩ := visit_kinds r x
    rw [List.foldl_cons] at he hr ⊢
    rcases hk with ⟨a, -⟩ | ⟨-, -, b, -, p⟩ | ⟨-, -, -, s, b⟩
    · have := (fold_ended l a).1
      rw [this] at he; cases he
    · rw [fold_parts l (visit r x) he (by rw [hr, b]), p, List.length_cons]; omega
    · rw [ht, b] at hr
      simp at hr
/-- Behind the last whole record. -/
theorem take_occ (l : List ByteArray) : Clean ((l.take (scanL l).occ).foldl visit rd0) ∧ ((l.take (scanL l).occ).foldl visit rd0).recs = (scanL l).recs ∧ (scanL l).occ ≤ l.length := by
  have H : ∀ k, k ≤ l.length → ((l.take k).foldl visit rd0).vis = k ∧ ((l.take k).foldl visit rd0).occ ≤ k ∧ Clean ((l.take ((l.take k).foldl visit rd0).occ).foldl visit rd0) ∧ ((l.take ((l.take k).foldl visit rd0).occ).foldl visit rd0).recs = ((l.take k).foldl visit rd0).recs := by
    intro k
    induction k with
    | zero => intro _; exact ⟨rfl, Nat.le_refl _, rd0_clean, rfl⟩
    | succ k ih =>
      intro hk
      obtain ⟨h1, h2, h3, h4⟩ := ih (by omega)
      have e : (l.take (k + 1)).foldl visit rd0 = visit ((l.take k).foldl visit rd0) l[k] := by
        rw [List.take_succ_eq_append_getElem (by omega), List.foldl_append]; rfl
      obtain ⟨v, -, -, hkk⟩ := visit_kinds ((l.take k).foldl visit rd0) l[k]
      rw [← e] at v hkk
      rw [h1] at v
      have same : ((l.take (k + 1)).foldl visit rd0).recs = ((l.take k).foldl visit rd0).recs → ((l.take (k + 1)).foldl visit rd0).occ = ((l.take k).foldl visit rd0).occ → _ := fun a b => (⟨v, by rw [b]; omega, by rw [b]; exact h3, by rw [b, a]; exact h4⟩ : ((l.take (k + 1)).foldl visit rd0).vis = k + 1 ∧ ((l.take (k + 1)).foldl visit rd0).occ ≤ k + 1 ∧ Clean ((l.take ((l.take (k + 1)).foldl visit rd0).occ).foldl visit rd0) ∧ ((l.take ((l.take (k + 1)).foldl visit rd0).occ).foldl visit rd0).recs = ((l.take (k + 1)).foldl visit rd0).recs)
      rcases hkk with ⟨-, b, c⟩ | ⟨-, -, b, c, -⟩ | ⟨-, b, c, -⟩
      · exact same b c
      · exact same b c
      · rw [h1] at c
        exact ⟨v, by omega, by rw [c]; exact b, by rw [c]⟩
  obtain ⟨-, h2, h3, h4⟩ := H l.length (Nat.le_refl _)
  rw [List.take_length] at h2 h3 h4
  exact ⟨h3, h4, h2⟩

/-! ### A part of what was laid -/
theorem visit_mid (r : Rd) (life : Nat) (s : ByteArray) (hc : Clean r) (hl : r.life ≤ life) (h1 : 0 < life) (h2 : life < 4294967296) (h3 : r.recs.length + 1 < 4294967296) (hn : needN s.size ≤ 65536) : ∀ k, k < needN s.size → ((secsOf life (r.recs.length + 1) s).take k).foldl visit r = midR r life s k := by
  intro k
  induction k with
  | zero => intro _; rw [mid_zero r life s hc]; rfl
  | succ k ih =>
    intro hk
    have hkl : k < (secsOf life (r.recs.length + 1) s).length := by rw [secsOf_len]; omega
    rw [List.take_succ_eq_append_getElem hkl, List.foldl_append, ih (by omega)]
    show visit _ _ = _
    have : (secsOf life (r.recs.length + 1) s)[k] = layB (partOf life (r.recs.length + 1) s k) := by simp [secsOf]
    rw [this, visit_part r life s k hc hl h1 h2 h3 (by omega) hn, if_neg (by omega)]
theorem len_allSecs (L : Nat) : ∀ (rec : Nat) (M : List ByteArray), M.length ≤ (allSecs L rec M).length
  | _, [] => Nat.zero_le _
  | rec, s :: M => by
    have := len_allSecs L (rec + 1) M
    have := needN_pos s.size
    simp only [allSecs, List.length_append, List.length_cons, secsOf_len]
    omega
theorem mem_allSecs (L : Nat) (h1 : 0 < L) (h2 : L < 4294967296) : ∀ (rec : Nat) (M : List ByteArray), rec + M.length ≤ 4294967296 → (∀ s ∈ M, needN s.size ≤ 65536) → ∀ x ∈ allSecs L rec M, ∃ s, says x.data.toList = some s ∧ s.life = L
  | _, [], _, _, x, hx => by cases hx
  | rec, s :: M, h3, hn, x, hx => by
    rw [List.length_cons] at h3
    simp only [allSecs, List.mem_append] at hx
    rcases hx with hx | hx
    · unfold secsOf at hx
      obtain ⟨i, hi, rfl⟩ := List.mem_map.1 hx
      rw [List.mem_range] at hi
      exact ⟨_, says_part L rec s i h1 h2 (by omega) hi (hn s List.mem_cons_self), rfl⟩
    · exact mem_allSecs L h1 h2 (rec + 1) M (by omega) (fun y hy => hn y (List.mem_cons_of_mem _ hy)) x hx
theorem take_laid (L : Nat) (h1 : 0 < L) (h2 : L < 4294967296) : ∀ (M : List ByteArray) (r : Rd) (k : Nat), Clean r → r.life ≤ L → r.recs.length + M.length < 4294967295 → (∀ s ∈ M, needN s.size ≤ 65536) → k ≤ (allSecs L (r.recs.length + 1) M).length →
    ∃ m, m ≤ M.length ∧ (((allSecs L (r.recs.length + 1) M).take k).foldl visit r).recs = r.recs ++ M.take m ∧ (1 ≤ k → (((allSecs L (r.recs.length + 1) M).take k).foldl visit r).life = L ∧ L ≤ (((allSecs L (r.recs.length + 1) M).take k).foldl visit r).great) ∧
      ∀ s, s ≤ M.length → (allSecs L (r.recs.length + 1) (M.take s)).length ≤ k → s ≤ m
  | [], r, k, _, _, _, _, hk => by
    have : k = 0 := by simpa [allSecs] using hk
    subst this
    exact ⟨0, Nat.le_refl _, by simp [allSecs], fun h => by omega, fun s hs _ => hs⟩
  | s :: M, r, k, hc, hl, h3, hn, hk => by
    rw [List.length_cons] at h3
    have hns := hn s List.mem_cons_self
    by_cases hlt : k < needN s.size
    · have e : (allSecs L (r.recs.length + 1) (s :: M)).take k = (secsOf L (r.recs.length + 1) s).take k := by
        simp only [allSecs]
        rw [List.take_append_of_le_length (by rw [secsOf_len]; omega)]
      rw [e, visit_mid r L s hc hl h1 h2 (by omega) hns k hlt]
      refine ⟨0, Nat.zero_le _, by simp [midR], fun h => ?_, fun s' hs' hle => ?_⟩
      · unfold midR
        simp only
        rw [if_neg (by omega), if_neg (by omega)]
        exact ⟨rfl, by omega⟩
      · cases s' with
        | zero => exact Nat.le_refl _
        | succ s' =>
          simp only [List.take_succ_cons, allSecs, List.length_append, secsOf_len] at hle
          omega
    · have hrl : (endR r L s).recs.length = r.recs.length + 1 := by simp [endR]
      have e : ((allSecs L (r.recs.length + 1) (s :: M)).take k).foldl visit r = ((allSecs L ((endR r L s).recs.length + 1) M).take (k - needN s.size)).foldl visit (endR r L s) := by
        rw [hrl]
        simp only [allSecs]
        rw [List.take_append, List.take_of_length_le (by rw [secsOf_len]; omega), List.foldl_append, visit_rec r L s hc hl h1 h2 (by omega) hns, secsOf_len]
      simp only [allSecs, List.length_append, secsOf_len] at hk
      obtain ⟨m, i1, i2, i3, i4⟩ := take_laid L h1 h2 M (endR r L s) (k - needN s.size) (endR_clean r L s hc) (Nat.le_refl _) (by rw [hrl]; omega) (fun x hx => hn x (List.mem_cons_of_mem _ hx)) (by rw [hrl]; omega)
      rw [e]
      refine ⟨m + 1, by simpa using i1, by rw [i2]; simp [endR], fun _ => ?_, fun s' hs' hle => ?_⟩
      · by_cases h0 : k - needN s.size = 0
        · rw [h0]
          simp only [List.take_zero, List.foldl_nil]
          exact ⟨rfl, by show L ≤ max r.great L; omega⟩
        · exact i3 (by omega)
      · cases s' with
        | zero => exact Nat.zero_le _
        | succ s' =>
          simp only [List.take_succ_cons, allSecs, List.length_append, secsOf_len] at hle
          have := i4 s' (by simpa using hs') (by rw [hrl]; omega)
          omega
theorem visit_old {r : Rd} {x : ByteArray} {L : Nat} (hl : r.life = L) (hx : Old L x) : (visit r x).ended = true ∧ (visit r x).recs = r.recs := by
  cases hs : says x.data.toList with
  | none => rw [visit_none hs]; exact ⟨rfl, rfl⟩
  | some s =>
    have hlt := hx s hs
    have he : expects r s = false := by
      unfold expects
      rw [decide_eq_false (show ¬ s.life = r.life by omega), decide_eq_false (show ¬ r.life < s.life by omega)]
      simp
    unfold visit
    rw [hs]
    unfold visitO
    simp [he]
theorem visit_late {r : Rd} {x : ByteArray} {s : Sec} (hs : says x.data.toList = some s) (hl : r.life < s.life) (hp : 0 < r.parts) : (visit r x).ended = true ∧ (visit r x).recs = r.recs := by
  have he : expects r s = false := by
    unfold expects
    rw [decide_eq_false (show ¬ s.life = r.life by omega)]
    by_cases h0 : s.part = 0
    · rw [decide_eq_false (show ¬ s.part = r.parts by omega)]; simp
    · rw [decide_eq_false h0]; simp
  unfold visit
  rw [hs]
  unfold visitO
  simp [he]
theorem first_other : ∀ (Z Y : List ByteArray), Z.length ≤ Y.length → ∃ k, k ≤ Z.length ∧ Y.take k = Z.take k ∧ (k < Z.length → Y[k]? ≠ Z[k]?)
  | [], _, _ => ⟨0, Nat.le_refl _, rfl, fun h => by simp at h⟩
  | z :: Z, [], h => by simp at h
  | z :: Z, y :: Y, h => by
    by_cases e : y = z
    · subst e
      obtain ⟨k, h1, h2, h3⟩ := first_other Z Y (by simpa using h)
      exact ⟨k + 1, by simpa using h1, by simp [h2], fun hk => by simpa using h3 (by simpa using hk)⟩
    · exact ⟨0, Nat.zero_le _, rfl, fun _ => by simpa using e⟩
/-- What is told of the contents that a crash leaves: O lay at the opening, M was laid behind it; the first j sectors are sure. -/
theorem scan_mix (L : Nat) (h1 : 0 < L) (h2 : L < 4294967296) (O Y M : List ByteArray) (hO : ∀ x ∈ O, Old L x) (hc : (scanL O).recs.length + M.length < 4294967295) (hn : ∀ s ∈ M, needN s.size ≤ 65536)
    (hfit : (scanL O).occ + (allSecs L ((scanL O).recs.length + 1) M).length ≤ O.length) (hY : Y.length = O.length) (j s : Nat)
    (hout : ∀ i, i < (scanL O).occ ∨ (scanL O).occ + (allSecs L ((scanL O).recs.length + 1) M).length ≤ i → Y[i]? = O[i]?)
    (hmid : ∀ i, i < (allSecs L ((scanL O).recs.length + 1) M).length → Y[(scanL O).occ + i]? = (allSecs L ((scanL O).recs.length + 1) M)[i]? ∨ (j ≤ i ∧ Y[(scanL O).occ + i]? = O[(scanL O).occ + i]?))
    (hs : s ≤ M.length) (hj : (allSecs L ((scanL O).recs.length + 1) (M.take s)).length ≤ j) (hjz : j ≤ (allSecs L ((scanL O).recs.length + 1) M).length) :
    ∃ m, s ≤ m ∧ m ≤ M.length ∧ (scanL Y).recs = (scanL O).recs ++ M.take m ∧ (0 < m → L ≤ (scanL Y).great) := by
  obtain ⟨t1, t2, t3⟩ := take_occ O
  obtain ⟨r0, hr0⟩ : ∃ r0, (O.take (scanL O).occ).foldl visit rd0 = r0 := ⟨_, rfl⟩
  have hOsplit : scanL O = (O.drop (scanL O).occ).foldl visit r0 := by
    rw [← hr0, ← List.foldl_append, List.take_append_drop]; rfl
  have hgO : ∀ l : List ByteArray, (∀ x ∈ l, x ∈ O) → ∀ r : Rd, r.great ≤ L - 1 → (l.foldl visit r).great ≤ L - 1 := fun l hl r hr => great_le (L - 1) l r (fun x hx s hs => by have := hO x (hl x hx) s hs; omega) hr
  have hg0 : r0.great ≤ L - 1 := by rw [← hr0]; exact hgO _ (fun x hx => List.mem_of_mem_take hx) rd0 (Nat.zero_le _)
  have hl0 : r0.life ≤ r0.great := by rw [← hr0]; exact fold_life _ rd0 (Nat.le_refl _)
  rw [hr0] at t1 t2
  obtain ⟨P, hP⟩ : ∃ P, (scanL O).occ = P := ⟨_, rfl⟩
  obtain ⟨R, hR⟩ : ∃ R, (scanL O).recs = R := ⟨_, rfl⟩
  rw [hP] at hOsplit hfit hout hmid t3 hr0
  rw [hR] at hc hfit hout hmid hj hjz t2
  rw [hR]
  obtain ⟨Z, hZ⟩ : ∃ Z, allSecs L (R.length + 1) M = Z := ⟨_, rfl⟩
  have hZn : ∀ x ∈ Z, ∃ s, says x.data.toList = some s ∧ s.life = L := by rw [← hZ]; exact mem_allSecs L h1 h2 _ M (by omega) hn
  have hT := take_laid L h1 h2 M r0
  rw [t2, hZ] at hT
  rw [hZ] at hfit hout hmid hjz
  have hYP : Y.take P = O.take P := List.ext_getElem? fun i => by
    by_cases hi : i < P
    · rw [List.getElem?_take_of_lt hi, List.getElem?_take_of_lt hi]; exact hout i (.inl hi)
    · rw [List.getElem?_eq_none (by rw [List.length_take]; omega), List.getElem?_eq_none (by rw [List.length_take]; omega)]
  have hYsplit : scanL Y = (Y.drop P).foldl visit r0 := by
    rw [← hr0, ← hYP, ← List.foldl_append, List.take_append_drop]; rfl
  have hdl : (Y.drop P).length = O.length - P := by rw [List.length_drop, hY]
  obtain ⟨k, k1, k2, k3⟩ := first_other Z (Y.drop P) (by rw [hdl]; omega)
  have hkj : (allSecs L (R.length + 1) (M.take s)).length ≤ k := by
    by_cases hk : k < Z.length
    · have := k3 hk
      rw [List.getElem?_drop] at this
      rcases hmid k hk with h | ⟨h, -⟩
      · exact absurd h this
      · omega
    · omega
  have hold : ∀ x, (Y.drop P)[k]? = some x → x ∈ O := fun x hx => by
    have : (Y.drop P)[k]? = O[P + k]? := by
      rw [List.getElem?_drop]
      by_cases hk : k < Z.length
      · have := k3 hk
        rw [List.getElem?_drop] at this
        rcases hmid k hk with h | ⟨-, h⟩
        · exact absurd h this
        · exact h
      · exact hout _ (.inr (by omega))
    rw [this] at hx
    exact List.mem_of_getElem? hx
  have hsp : (Y.drop P).foldl visit r0 = ((Y.drop P).drop k).foldl visit ((Z.take k).foldl visit r0) := by
    rw [← k2, ← List.foldl_append, List.take_append_drop]
  by_cases hk0 : k = 0
  · subst hk0
    have hs0 : s = 0 := by
      have := len_allSecs L (R.length + 1) (M.take s)
      rw [List.length_take] at this
      omega
    subst hs0
    refine ⟨0, Nat.le_refl _, Nat.zero_le _, ?_, fun h => by omega⟩
    rw [List.take_zero, List.append_nil, hYsplit]
    obtain ⟨i, i1, i2, i3⟩ := first_other (O.drop P) (Y.drop P) (by rw [hdl, List.length_drop]; omega)
    rw [List.length_drop] at i1 i3
    by_cases hi : i < O.length - P
    · have hne := i3 hi
      rw [List.getElem?_drop, List.getElem?_drop] at hne
      have hiZ : i < Z.length := Nat.lt_of_not_le fun h => hne (hout _ (.inr (by omega)))
      have hYi : Y[P + i]? = Z[i]? := by
        rcases hmid i hiZ with h | ⟨-, h⟩
        · exact h
        · exact absurd h hne
      have hi0 : 0 < i := by
        refine Nat.pos_of_ne_zero fun h => ?_
        subst h
        have := k3 hiZ
        rw [List.getElem?_drop] at this
        exact this hYi
      obtain ⟨r', hr'⟩ : ∃ r', ((O.drop P).take i).foldl visit r0 = r' := ⟨_, rfl⟩
      have hO2 : scanL O = ((O.drop P).drop i).foldl visit r' := by
        rw [hOsplit, ← hr', ← List.foldl_append, List.take_append_drop]
      obtain ⟨a, ha⟩ := fold_recs ((O.drop P).take i) r0
      obtain ⟨b, hb⟩ := fold_recs ((O.drop P).drop i) r'
      rw [hr'] at ha
      have hRR : r'.recs = R := by
        have : R = r0.recs ++ a ++ b := by rw [← ha, ← hb, ← hO2, hR]
        rw [t2] at this
        have hl := congrArg List.length this
        simp only [List.length_append] at hl
        have : a = [] := List.length_eq_zero_iff.1 (by omega)
        rw [ha, this, t2, List.append_nil]
      have hfin : (visit r' Z[i]).ended = true ∧ (visit r' Z[i]).recs = r'.recs := by
        by_cases he : r'.ended = true
        · exact visit_ended he _
        · have he : r'.ended = false := by simpa using he
          have hp := fold_parts ((O.drop P).take i) r0 (by rw [hr']; exact he) (by rw [hr', hRR, t2])
          rw [hr', List.length_take, List.length_drop] at hp
          obtain ⟨sec, s1, s2⟩ := hZn Z[i] (List.getElem_mem _)
          have hlr : r'.life ≤ r'.great := by rw [← hr']; exact fold_life _ _ hl0
          have hgr : r'.great ≤ L - 1 := by rw [← hr']; exact hgO _ (fun x hx => List.mem_of_mem_drop (List.mem_of_mem_take hx)) r0 hg0
          exact visit_late s1 (by omega) (by omega)
      have hYd : Y.drop P = (O.drop P).take i ++ Z[i] :: (Y.drop P).drop (i + 1) := by
        rw [← i2]
        have hlt : i < (Y.drop P).length := by rw [hdl]; exact hi
        have : (Y.drop P)[i] = Z[i] := by
          have h3 : (Y.drop P)[i]? = Z[i]? := by rw [List.getElem?_drop]; exact hYi
          rw [List.getElem?_eq_getElem hlt, List.getElem?_eq_getElem hiZ] at h3
          exact Option.some.inj h3
        rw [← this, List.getElem_cons_drop, List.take_append_drop]
      rw [hYd, List.foldl_append, hr', List.foldl_cons, (fold_ended _ hfin.1).2, hfin.2, hRR]
    · have : Y.drop P = O.drop P := by
        have h3 : i = O.length - P := by omega
        rw [h3] at i2
        rw [List.take_of_length_le (by omega), List.take_of_length_le (by rw [List.length_drop]; omega)] at i2
        exact i2
      rw [this, ← hOsplit, hR]
  · obtain ⟨m, m1, m2, m3, m4⟩ := hT k t1 (by omega) hc hn k1
    obtain ⟨m5, m6⟩ := m3 (by omega)
    refine ⟨m, m4 s hs hkj, m1, ?_, fun _ => ?_⟩
    · rw [hYsplit, hsp, ← m2]
      cases hd : (Y.drop P).drop k with
      | nil => rfl
      | cons x l =>
        have hx : (Y.drop P)[k]? = some x := by
          have := congrArg (fun l => l[0]?) hd
          simpa using this
        obtain ⟨a, b⟩ := visit_old m5 (hO x (hold x hx))
        rw [List.foldl_cons, (fold_ended _ a).2, b]
    · rw [hYsplit, hsp]
      exact Nat.le_trans m6 (fold_great _ _)
end Go.Proofs.YtjanddnlhaionaaGreatDoor.L6
namespace Go.Proofs.YtjanddnlhaionaaGreatDoor.L6
open Go.RowKit

theorem ap_pend_get (f : Nat → Bool) (S : List ByteArray) (o : Nat) (l : List ByteArray) (hl : o + l.length ≤ S.length) : ∀ k, k ≤ l.length → ∀ i, (ap f S (pend o l) k)[i]? = if o ≤ i ∧ i < o + k ∧ f (i - o) = true then l[i - o]? else S[i]?
  | 0, _, i => by rw [if_neg (by omega)]; rfl
  | k + 1, h, i => by
    have ih := ap_pend_get f S o l hl k (by omega) i
    rw [ap, pw_pend o l k (by omega)]
    by_cases hf : f k = true
    · rw [if_pos hf]
      simp only
      rw [List.getElem?_set]
      by_cases hi : o + k = i
      · subst hi
        rw [if_pos rfl, ap_length, if_pos (by omega), if_pos ⟨by omega, by omega, by rw [show o + k - o = k by omega]; exact hf⟩, show o + k - o = k by omega, List.getElem?_eq_getElem (by omega)]
      · rw [if_neg hi, ih]
        by_cases hc : o ≤ i ∧ i < o + k ∧ f (i - o) = true
        · rw [if_pos hc, if_pos ⟨hc.1, by omega, hc.2.2⟩]
        · rw [if_neg hc, if_neg (fun h => hc ⟨h.1, by omega, h.2.2⟩)]
    · rw [if_neg hf, ih]
      by_cases hc : o ≤ i ∧ i < o + k ∧ f (i - o) = true
      · rw [if_pos hc, if_pos ⟨hc.1, by omega, hc.2.2⟩]
      · rw [if_neg hc, if_neg (fun h => hc ⟨h.1, Nat.lt_of_le_of_ne (by omega) (fun e => hf (by have := h.2.2; rw [show i - o = k by omega] at this; exact this)), h.2.2⟩)]

/-- What an append writes. -/
theorem wrK_gen (t : T) (s : ByteArray) (d : D) (hp : t.pos + needN s.size ≤ d.S.length) : ∀ k, k ≤ needN s.size →
    ∃ q, q ≤ k ∧ (wrK t s d k).1.S = d.S ∧ (wrK t s d k).1.W = d.W ++ pend t.pos ((secsOf t.life (t.count + 1) s).take q) ∧ (((wrK t s d k).2 = 0 ∧ q = k) ∨ (wrK t s d k).2 = 9)
  | 0, _ => ⟨0, Nat.le_refl _, rfl, by simp [wrK, pend], .inl ⟨rfl, rfl⟩⟩
  | k + 1, h => by
    obtain ⟨q, hq, h1, h2, h3⟩ := wrK_gen t s d hp k (by omega)
    unfold wrK
    rcases h3 with ⟨h3, rfl⟩ | h3
    · rw [if_pos h3]
      obtain ⟨e, he⟩ : ∃ e, (wrK t s d q).1 = e := ⟨_, rfl⟩
      rw [he] at h1 h2 ⊢
      have hsz : (layB (partOf t.life (t.count + 1) s q)).size = 64 := layB_size _ (by unfold partOf; simp only [List.length_take]; omega)
      have ho : writeOk e ((t.pos + q : Nat) : Int) (layB (partOf t.life (t.count + 1) s q)) = true := by
        unfold writeOk
        rw [Bool.and_eq_true, hasB_iff, decide_eq_true_eq, h1]
        exact ⟨by omega, hsz⟩
      unfold writeD writeE
      rw [if_pos ho, if_pos ho]
      by_cases hg : (burn e).gone = true
      · rw [if_pos hg, if_pos hg]
        exact ⟨q, by omega, by rw [burn_S]; exact h1, by rw [burn_W]; exact h2, .inr rfl⟩
      · rw [if_neg hg, if_neg hg]
        refine ⟨q + 1, Nat.le_refl _, by show (burn e).S = _; rw [burn_S]; exact h1, ?_, .inl ⟨rfl, rfl⟩⟩
        show e.W ++ _ = _
        have hql : q < (secsOf t.life (t.count + 1) s).length := by rw [secsOf_len]; omega
        have hg : (secsOf t.life (t.count + 1) s)[q] = layB (partOf t.life (t.count + 1) s q) := by simp [secsOf]
        have hlen : ((secsOf t.life (t.count + 1) s).take q).length = q := by rw [List.length_take]; omega
        rw [h2, List.take_succ_eq_append_getElem hql, pend_append, hlen, hg, List.append_assoc]
        rfl
    · rw [if_neg (by rw [h3]; omega)]
      exact ⟨q, by omega, h1, h2, .inr h3⟩

/-- A tape since its opening: O lay there; M was laid behind it, and of its sectors q were written, j of them are sure. -/
structure Kp (n : Nat) (had : List ByteArray) (sure : Nat) (d : D) (t : T) (O M : List ByteArray) (j q s : Nat) : Prop where
  l1 : 0 < t.life
  l2 : t.life ≤ 1000
  nn : n ≤ 200
  on : O.length = n
  old : ∀ x ∈ O, Old t.life x
  fit : (scanL O).occ + (allSecs t.life ((scanL O).recs.length + 1) M).length ≤ n
  rn : (scanL O).recs.length ≤ n
  sn : d.S.length = n
  S : ∀ i, d.S[i]? = if (scanL O).occ ≤ i ∧ i < (scanL O).occ + j then (allSecs t.life ((scanL O).recs.length + 1) M)[i - (scanL O).occ]? else O[i]?
  W : d.W = pend ((scanL O).occ + j) (((allSecs t.life ((scanL O).recs.length + 1) M).take q).drop j)
  jq : j ≤ q
  qz : q ≤ (allSecs t.life ((scanL O).recs.length + 1) M).length
  had : ∃ E, had = (scanL O).recs ++ M ++ E ∧ (t.err = 0 → E = [])
  sure : sure = (scanL O).recs.length + s
  sm : s ≤ M.length
  sj : (allSecs t.life ((scanL O).recs.length + 1) (M.take s)).length ≤ j
  ok : t.err = 0 → q = (allSecs t.life ((scanL O).recs.length + 1) M).length ∧ t.count = (scanL O).recs.length + M.length ∧ t.pos = (scanL O).occ + (allSecs t.life ((scanL O).recs.length + 1) M).length
  er : t.err = 0 ∨ t.err = 9
theorem Kp.need {n : Nat} {had : List ByteArray} {sure : Nat} {d : D} {t : T} {O M : List ByteArray} {j q s : Nat} (h : Kp n had sure d t O M j q s) : ∀ x ∈ M, needN x.size ≤ 65536 := by
  intro x hx
  have hf := h.fit
  have hn := h.nn
  have H : ∀ (m : List ByteArray) (rec : Nat), x ∈ m → needN x.size ≤ (allSecs t.life rec m).length := by
    intro m
    induction m with
    | nil => intro rec h; cases h
    | cons a m ih =>
      intro rec h
      simp only [allSecs, List.length_append, secsOf_len]
      rcases List.mem_cons.1 h with rfl | h
      · omega
      · have := ih (rec + 1) h; omega
  have := H M ((scanL O).recs.length + 1) hx
  omega
theorem Kp.mlen {n : Nat} {had : List ByteArray} {sure : Nat} {d : D} {t : T} {O M : List ByteArray} {j q s : Nat} (h : Kp n had sure d t O M j q s) : M.length ≤ n := by
  have := len_allSecs t.life ((scanL O).recs.length + 1) M
  have := h.fit
  omega
theorem Kp.wlen {n : Nat} {had : List ByteArray} {sure : Nat} {d : D} {t : T} {O M : List ByteArray} {j q s : Nat} (h : Kp n had sure d t O M j q s) : d.W.length ≤ n := by
  have hf := h.fit
  rw [h.W, pend_len, List.length_drop, List.length_take]
  omega

/-! ### The calls -/
def HadB (t : T) (d : D) (had : List ByteArray) (s : ByteArray) : List ByteArray := if (appE t d s = 0 ∨ appE t d s = 9) ∧ had.length = t.count then had ++ [s] else had
theorem Kp.append {n : Nat} {had : List ByteArray} {sure : Nat} {d : D} {t : T} {O M : List ByteArray} {j q s : Nat} (h : Kp n had sure d t O M j q s) (x : ByteArray) :
    (appE t d x = 0 ∨ appE t d x = 8 ∨ appE t d x = 9) ∧ (appE t d x = 0 → (appT t d x).count = t.count + 1) ∧ ∃ M' q', Kp n (HadB t d had x) sure (appD t d x) (appT t d x) O M' j q' s := by
  obtain ⟨E, hE, hE0⟩ := h.had
  by_cases he : t.err = 0
  · obtain ⟨hq, hc, hp⟩ := h.ok he
    obtain ⟨Z, hZ⟩ : ∃ Z, allSecs t.life ((scanL O).recs.length + 1) M = Z := ⟨_, rfl⟩
    rw [hZ] at hq hp
    by_cases hf : needN x.size + t.pos ≤ d.S.length
    · have e1 : appFits t d x = true := by unfold appFits; rw [decide_eq_true he, decide_eq_true hf]; rfl
      obtain ⟨q', hq', w1, w2, w3⟩ := wrK_gen t x d (by omega) (needN x.size) (Nat.le_refl _)
      have hsn := h.sn
      have hhl : had.length = t.count := by rw [hE, hE0 he, hc]; simp
      have hsec : t.count + 1 = (scanL O).recs.length + 1 + M.length := by omega
      rw [hsec] at w2
      have hall : allSecs t.life ((scanL O).recs.length + 1) (M ++ [x]) = Z ++ secsOf t.life ((scanL O).recs.length + 1 + M.length) x := by rw [allSecs_snoc, hZ]
      have hAE : appE t d x = (wrK t x d (needN x.size)).2 := by unfold appE; rw [if_pos he, if_pos hf]
      have hAD : appD t d x = (wrK t x d (needN x.size)).1 := by unfold appD; rw [if_pos e1]
      have h9 : appE t d x = 0 ∨ appE t d x = 9 := by rw [hAE]; rcases w3 with ⟨a, -⟩ | a; exact .inl a; exact .inr a
      have hHB : HadB t d had x = had ++ [x] := by unfold HadB; rw [if_pos ⟨h9, hhl⟩]
      refine ⟨by rcases h9 with a | a; exact .inl a; exact .inr (.inr a), fun h0 => ?_, M ++ [x], q + q', ?_⟩
      · unfold appT; rw [if_pos e1, if_pos (by rw [← hAE]; exact h0)]
      · have hTl : (appT t d x).life = t.life := by unfold appT; rw [if_pos e1]; split <;> rfl
        have hqz := h.qz
        have hS := h.S
        have hW := h.W
        have hjq := h.jq
        have hsj := h.sj
        have hsm := h.sm
        have hft := h.fit
        rw [hZ] at hqz hS hW hft
        have hslen : (secsOf t.life ((scanL O).recs.length + 1 + M.length) x).length = needN x.size := secsOf_len _ _ _
        refine ⟨by rw [hTl]; exact h.l1, by rw [hTl]; exact h.l2, h.nn, h.on, by rw [hTl]; exact h.old, ?_, h.rn, by rw [hAD, w1]; exact h.sn, ?_, ?_, by omega, ?_, ?_, h.sure, ?_, ?_, ?_, ?_⟩
        · rw [hTl, hall, List.length_append, hslen]; omega
        · intro i
          rw [hAD, w1, hTl, hall, hS i]
          by_cases hi : (scanL O).occ ≤ i ∧ i < (scanL O).occ + j
          · rw [if_pos hi, if_pos hi, List.getElem?_append_left (by omega)]
          · rw [if_neg hi, if_neg hi]
        · have hZZ : (Z ++ secsOf t.life ((scanL O).recs.length + 1 + M.length) x).take (Z.length + q') = Z ++ (secsOf t.life ((scanL O).recs.length + 1 + M.length) x).take q' := by
            rw [List.take_append, List.take_of_length_le (Nat.le_add_right _ _), show Z.length + q' - Z.length = q' by omega]
          rw [hAD, w2, hTl, hall, hW, hq, List.take_length, hZZ, List.drop_append_of_le_length (by omega), pend_append, List.length_drop, hp, show (scanL O).occ + j + (Z.length - j) = (scanL O).occ + Z.length by omega]
        · rw [hTl, hall, List.length_append, hslen]; omega
        · refine ⟨[], ?_, fun _ => rfl⟩
          rw [hHB, hE, hE0 he]; simp
        · rw [List.length_append]; omega
        · rw [hTl, List.take_append_of_le_length hsm]; exact hsj
        · intro h0
          have hw0 : (wrK t x d (needN x.size)).2 = 0 := by
            unfold appT at h0
            rw [if_pos e1] at h0
            by_cases hw : (wrK t x d (needN x.size)).2 = 0
            · exact hw
            · rw [if_neg hw] at h0; exact h0
          have hqq : q' = needN x.size := by
            rcases w3 with ⟨-, b⟩ | a
            · exact b
            · rw [hw0] at a; omega
          rw [hTl, hall, List.length_append, hslen]
          unfold appT
          rw [if_pos e1, if_pos hw0]
          refine ⟨by omega, ?_, ?_⟩
          · show t.count + 1 = _; rw [List.length_append]; simp; omega
          · show t.pos + needN x.size = _; omega
        · unfold appT
          rw [if_pos e1]
          rcases w3 with ⟨a, -⟩ | a
          · rw [if_pos a]; exact .inl he
          · rw [if_neg (by rw [a]; omega)]; exact .inr a
    · have e1 : appFits t d x = false := by unfold appFits; rw [decide_eq_false hf, Bool.and_false]
      have hAE : appE t d x = 8 := by unfold appE; rw [if_pos he, if_neg hf]
      have hAD : appD t d x = d := by unfold appD; rw [e1]; rfl
      have hAT : appT t d x = t := by unfold appT; rw [e1]; rfl
      have hHB : HadB t d had x = had := by unfold HadB; rw [if_neg (by rw [hAE]; omega)]
      rw [hAD, hAT, hHB]
      exact ⟨.inr (.inl hAE), fun h0 => by rw [hAE] at h0; omega, M, q, h⟩
  · have h9 : t.err = 9 := by rcases h.er with h | h; exact absurd h he; exact h
    have e1 : appFits t d x = false := by unfold appFits; rw [decide_eq_false he]; rfl
    have hAE : appE t d x = 9 := by unfold appE; rw [if_neg he]; exact h9
    have hAD : appD t d x = d := by unfold appD; rw [e1]; rfl
    have hAT : appT t d x = t := by unfold appT; rw [e1]; rfl
    rw [hAD, hAT]
    refine ⟨.inr (.inr hAE), fun h0 => by rw [hAE] at h0; omega, M, q, { h with had := ?_ }⟩
    unfold HadB
    by_cases hl : (appE t d x = 0 ∨ appE t d x = 9) ∧ had.length = t.count
    · rw [if_pos hl]
      exact ⟨E ++ [x], by rw [hE]; simp, fun h0 => absurd h0 he⟩
    · rw [if_neg hl]
      exact ⟨E, hE, hE0⟩
theorem Kp.settle {n : Nat} {had : List ByteArray} {sure : Nat} {d : D} {t : T} {O M : List ByteArray} {j q s : Nat} (h : Kp n had sure d t O M j q s) :
    ∃ j' s', Kp n had (if flushE t d = 0 then had.length else sure) (flushD t d) (flushT t d) O M j' q s' := by
  obtain ⟨E, hE, hE0⟩ := h.had
  by_cases he : t.err = 0
  · obtain ⟨hq, hc, hp⟩ := h.ok he
    unfold flushE flushD flushT flushE settleE settleD
    rw [if_pos he, if_pos he]
    by_cases hg : (burn d).gone = true
    · rw [if_pos hg, if_pos hg, if_neg (by omega)]
      exact ⟨j, s, { h with sn := by rw [burn_S]; exact h.sn, S := by rw [burn_S]; exact h.S, W := by rw [burn_W]; exact h.W, had := ⟨E, hE, fun h0 => (by cases h0)⟩, ok := fun h0 => (by cases h0), er := .inr rfl }⟩
    · rw [if_neg hg, if_neg hg, if_pos rfl]
      have hqz := h.qz
      have hjq := h.jq
      have hft := h.fit
      have hsn := h.sn
      have hon := h.on
      have hS := h.S
      have hW := h.W
      obtain ⟨Z, hZ⟩ : ∃ Z, allSecs t.life ((scanL O).recs.length + 1) M = Z := ⟨_, rfl⟩
      rw [hZ] at hq hqz hft hS hW hp
      have hdl : ((Z.take q).drop j).length = q - j := by rw [List.length_drop, List.length_take]; omega
      refine ⟨q, M.length, ⟨h.l1, h.l2, h.nn, h.on, h.old, by rw [hZ]; exact hft, h.rn, by show (ap _ _ _ _).length = _; rw [ap_length]; exact hsn, ?_, ?_, Nat.le_refl _, by rw [hZ]; exact hqz, ⟨E, hE, fun _ => hE0 he⟩, ?_, Nat.le_refl _, by rw [List.take_length, hZ]; omega, fun _ => ⟨by rw [hZ]; exact hq, hc, by rw [hZ]; exact hp⟩, .inl rfl⟩⟩
      · intro i
        show (ap allF d.S d.W d.W.length)[i]? = _
        rw [hZ, hW, pend_len, ap_pend_get allF d.S _ _ (by rw [hdl, hsn]; omega) _ (Nat.le_refl _), hdl, hS i]
        by_cases h1 : (scanL O).occ ≤ i ∧ i < (scanL O).occ + q
        · rw [if_pos h1]
          by_cases h2 : i < (scanL O).occ + j
          · rw [if_neg (by omega), if_pos ⟨h1.1, h2⟩]
          · rw [if_pos ⟨by omega, by omega, rfl⟩, List.getElem?_drop, List.getElem?_take_of_lt (by omega)]
            congr 1
            omega
        · rw [if_neg h1, if_neg (by omega), if_neg (by omega)]
      · show ([] : List (Nat × ByteArray)) = _
        rw [hZ, List.drop_of_length_le (by rw [List.length_take]; omega)]
        rfl
      · rw [hE, hE0 he]; simp
  · have hfE : flushE t d = t.err := by unfold flushE; rw [if_neg he]
    have hfD : flushD t d = d := by unfold flushD; rw [if_neg he]
    have hfT : flushT t d = t := by unfold flushT; rw [hfE]
    rw [hfE, hfD, hfT, if_neg he]
    exact ⟨j, s, h⟩
theorem Kp.arm {n : Nat} {had : List ByteArray} {sure : Nat} {d : D} {t : T} {O M : List ByteArray} {j q s : Nat} (h : Kp n had sure d t O M j q s) (k : Int) : Kp n had sure (armD d k) t O M j q s := by
  have e1 : (armD d k).S = d.S := by unfold armD; split; rfl; split <;> rfl
  have e2 : (armD d k).W = d.W := by unfold armD; split; rfl; split <;> rfl
  exact { h with sn := by rw [e1]; exact h.sn, S := by rw [e1]; exact h.S, W := by rw [e2]; exact h.W }
/-- A crash, and an opening behind it. -/
theorem Kp.crash {n : Nat} {had : List ByteArray} {sure : Nat} {d : D} {t : T} {O M : List ByteArray} {j q s : Nat} (h : Kp n had sure d t O M j q s) (h3 : t.life < 1000) (keep : List Int) :
    openE (crashD d keep) = 0 ∧ (∃ E, had = (scanD (crashD d keep)).recs ++ E) ∧ sure ≤ (scanD (crashD d keep)).recs.length ∧ (sure < (scanD (crashD d keep)).recs.length → t.life < (openT (crashD d keep)).life) ∧ (openT (crashD d keep)).life ≤ t.life + 1 ∧ (scanD (crashD d keep)).recs.length ≤ n ∧
      ∃ O', Kp n (scanD (crashD d keep)).recs (scanD (crashD d keep)).recs.length (crashD d keep) (openT (crashD d keep)) O' [] 0 0 0 := by
  obtain ⟨Y, hYd⟩ : ∃ Y, ap (keepF keep) d.S d.W d.W.length = Y := ⟨_, rfl⟩
  have hcr : crashD d keep = rest Y := by unfold crashD rest; rw [hYd]
  have hsc : scanD (rest Y) = scanL Y := by unfold scanD; rw [shown_rest]
  obtain ⟨E, hE, hE0⟩ := h.had
  have hqz := h.qz
  have hjq := h.jq
  have hft := h.fit
  have hsn := h.sn
  have hon := h.on
  have hS := h.S
  have hW := h.W
  have hnn := h.nn
  have hrn := h.rn
  have hml := h.mlen
  have hl2 := h.l2
  obtain ⟨Z, hZ⟩ : ∃ Z, allSecs t.life ((scanL O).recs.length + 1) M = Z := ⟨_, rfl⟩
  have hmem := mem_allSecs t.life h.l1 (by omega) ((scanL O).recs.length + 1) M (by omega) h.need
  have hYl : Y.length = n := by rw [← hYd, ap_length]; exact hsn
  have hmix := scan_mix t.life h.l1 (by omega) O Y M h.old (by omega) h.need (by rw [hon]; exact hft) (by rw [hYl, hon]) j s
  rw [hZ] at hmix hqz hft hS hW hmem
  have hdl : ((Z.take q).drop j).length = q - j := by rw [List.length_drop, List.length_take]; omega
  have hY : ∀ i, Y[i]? = if (scanL O).occ + j ≤ i ∧ i < (scanL O).occ + q ∧ keepF keep (i - ((scanL O).occ + j)) = true then Z[i - (scanL O).occ]? else if (scanL O).occ ≤ i ∧ i < (scanL O).occ + j then Z[i - (scanL O).occ]? else O[i]? := by
    intro i
    rw [← hYd, hW, pend_len, ap_pend_get (keepF keep) d.S _ _ (by rw [hdl, hsn]; omega) _ (Nat.le_refl _), hdl, hS i, show (scanL O).occ + j + (q - j) = (scanL O).occ + q by omega]
    by_cases hc : (scanL O).occ + j ≤ i ∧ i < (scanL O).occ + q ∧ keepF keep (i - ((scanL O).occ + j)) = true
    · rw [if_pos hc, if_pos hc, List.getElem?_drop, List.getElem?_take_of_lt (by omega)]
      congr 1
      omega
    · rw [if_neg hc, if_neg hc]
  have hkind : ∀ i, Y[i]? = O[i]? ∨ ((scanL O).occ ≤ i ∧ i < (scanL O).occ + q ∧ Y[i]? = Z[i - (scanL O).occ]?) := by
    intro i
    rw [hY i]
    by_cases hc : (scanL O).occ + j ≤ i ∧ i < (scanL O).occ + q ∧ keepF keep (i - ((scanL O).occ + j)) = true
    · rw [if_pos hc]; exact .inr ⟨by omega, hc.2.1, rfl⟩
    · rw [if_neg hc]
      by_cases hc2 : (scanL O).occ ≤ i ∧ i < (scanL O).occ + j
      · rw [if_pos hc2]; exact .inr ⟨hc2.1, by omega, rfl⟩
      · rw [if_neg hc2]; exact .inl rfl
  obtain ⟨m, m1, m2, m3, m4⟩ := hmix (fun i hi => by
    rcases hkind i with hk | ⟨a, b, -⟩
    · exact hk
    · omega) (fun i hi => by
    rcases hkind ((scanL O).occ + i) with hk | ⟨-, -, hk⟩
    · by_cases hj : j ≤ i
      · exact .inr ⟨hj, hk⟩
      · rw [hY, if_neg (by omega), if_pos (by omega), show (scanL O).occ + i - (scanL O).occ = i by omega]; exact .inl rfl
    · rw [show (scanL O).occ + i - (scanL O).occ = i by omega] at hk; exact .inl hk) h.sm h.sj (by omega)
  have hgr : (scanL Y).great ≤ t.life := by
    refine great_le t.life Y rd0 (fun x hx sec hsec => ?_) (Nat.zero_le _)
    obtain ⟨i, hi⟩ := List.mem_iff_getElem?.1 hx
    rcases hkind i with hk | ⟨-, -, hk⟩
    · rw [hk] at hi
      have := h.old x (List.mem_of_getElem? hi) sec hsec
      omega
    · rw [hk] at hi
      obtain ⟨sec', a, b⟩ := hmem x (List.mem_of_getElem? hi)
      rw [hsec] at a
      injection a with a
      subst a
      omega
  have hrl : (scanL Y).recs.length = (scanL O).recs.length + m := by rw [m3, List.length_append, List.length_take]; omega
  have hocc := occ_le Y
  have hro := (scanL_ok Y).1
  have hsure := h.sure
  rw [hcr, hsc]
  have hlife : (openT (rest Y)).life = (scanL Y).great + 1 := by unfold openT; rw [hsc]
  refine ⟨?_, ⟨M.drop m ++ E, ?_⟩, by omega, fun hlt => ?_, by rw [hlife]; omega, by omega, Y, ?_⟩
  · unfold openE
    rw [if_neg (by simp [rest]), hsc, if_neg (by omega)]
  · rw [m3, hE, List.append_assoc, List.append_assoc, ← List.append_assoc (M.take m), List.take_append_drop]
  · have := m4 (by omega)
    rw [hlife]; omega
  · refine ⟨by rw [hlife]; omega, by rw [hlife]; omega, hnn, hYl, fun x hx sec hsec => ?_, by simp [allSecs]; omega, by omega, hYl, fun i => ?_, ?_, Nat.le_refl _, Nat.zero_le _, ⟨[], by simp, fun _ => rfl⟩, rfl, Nat.le_refl _, by simp [allSecs], fun _ => ⟨rfl, ?_, ?_⟩, .inl rfl⟩
    · rw [hlife]
      have := great_ge Y rd0 x hx sec hsec
      show _ < (Y.foldl visit rd0).great + 1
      omega
    · rw [if_neg (by omega)]; rfl
    · simp [rest, allSecs, pend]
    · show (scanD (rest Y)).recs.length = _; rw [hsc]; rfl
    · show (scanD (rest Y)).occ = _; rw [hsc]; rfl
theorem Kp.new (n : Nat) (h2 : n ≤ 200) : Kp n [] 0 (newD n) (openT (newD n)) (List.replicate n z64) [] 0 0 0 ∧ (openT (newD n)).life = 1 := by
  have hs : scanD (newD n) = scanL (List.replicate n z64) := by unfold scanD; rw [show newD n = rest (List.replicate n z64) from rfl, shown_rest]
  obtain ⟨b1, b2, b3⟩ := visit_blank n rd0
  have c1 : (scanL (List.replicate n z64)).recs = [] := b1
  have c2 : (scanL (List.replicate n z64)).occ = 0 := b2
  have c3 : (scanL (List.replicate n z64)).great = 0 := b3
  have hl : (openT (newD n)).life = 1 := by unfold openT; rw [hs, c3]
  refine ⟨⟨by omega, by omega, h2, by simp, fun x hx sec hsec => ?_, by rw [c2]; simp [allSecs], by rw [c1]; simp, by simp [newD], fun i => ?_, by simp [newD, allSecs, pend], Nat.le_refl _, Nat.zero_le _, ⟨[], by rw [c1]; rfl, fun _ => rfl⟩, by rw [c1]; rfl, Nat.le_refl _, by simp [allSecs], fun _ => ⟨rfl, ?_, ?_⟩, .inl rfl⟩, hl⟩
  · rw [List.eq_of_mem_replicate hx, says_z64] at hsec; cases hsec
  · rw [if_neg (by omega)]; rfl
  · show (scanD (newD n)).recs.length = _; rw [hs]; rfl
  · show (scanD (newD n)).occ = _; rw [hs]; rfl
end Go.Proofs.YtjanddnlhaionaaGreatDoor.L6
namespace Go.Proofs.YtjanddnlhaionaaGreatDoor.L6
open Go.RowKit

/-- What lies in rows of strings has not turned. -/
def Keep9 (w w' : World) : Prop := ∀ (k : Nat) (cs : Array Value), w.heap[k]? = some (Obj.cells cs 9 (0, 0)) → w'.heap[k]? = w.heap[k]?
theorem Keep9.of {F : Nat → Prop} {w w' : World} (ht : Turn F w w') (hF : ∀ k, F k → ∃ cs t, w.heap[k]? = some (Obj.cells cs t (0, 0)) ∧ t ≠ 9) : Keep9 w w' := fun k cs hc => ht.block k (Array.getElem?_eq_some_iff.1 hc).1 (fun hk => by
  obtain ⟨cs', t, hc', ht9⟩ := hF k hk
  exact ty_ne hc' hc ht9 rfl)
theorem TN.core {w0 w : World} {bt bl b : Nat} {d : D} {t : T} (h : TN w0 w bt bl b d t) : ∃ F, TAt w F bt bl b d t ∧ (∀ k, F k → w0.heap.size ≤ k) ∧ w0.heap.size ≤ bt ∧ w0.heap.size ≤ bl ∧ Below w0.heap.size w0 w ∧ ∀ k, F k → ∃ cs ty, w.heap[k]? = some (Obj.cells cs ty (0, 0)) ∧ (ty = 120 ∨ ty = 144 ∨ ty = 146) := by
  obtain ⟨F, h1, h2, h3, h4, h5⟩ := h
  obtain ⟨G, g1, g2, g3⟩ := h1.p.core
  exact ⟨G, ⟨h1.l, g1, h1.ok, fun hk => h1.n1 (g2 _ hk), fun hk => h1.n2 (g2 _ hk)⟩, fun k hk => h2 k (g2 k hk), h3, h4, h5, g3⟩
theorem crashK {w0 w : World} {b : Nat} {d : D} (h : PN w0 w b d) (hw : d.W.length ≤ 1000000) (l : List Int) (lv : Value) (hl : IntsAt w w.heap.size lv l) (hll : l.length ≤ 1000000) :
    Calls Tryz.prog 36 #[.pointer (some ⟨b, 0, none⟩), lv] w fun e w' => e = .returned (.int .i64 0) ∧ PN w0 w' b (crashD d l) ∧ Keep9 w w' ∧ Below w0.heap.size w w' := by
  obtain ⟨F, hP, hF, hB⟩ := h
  obtain ⟨G, g1, g2, g3⟩ := hP.core
  refine (crash16 g1 hw l lv hl hll).mono ?_
  rintro e w' ⟨he, hP', hT⟩
  exact ⟨he, PN.turn (fun k hk => hF k (g2 k hk)) hB hP' hT, Keep9.of hT (fun k hk => by obtain ⟨cs, ty, hc, ht⟩ := g3 k hk; exact ⟨cs, ty, hc, by rcases ht with rfl | rfl | rfl <;> decide⟩), hT.below _ hB.size (fun k hk => hF k (g2 k hk))⟩
end Go.Proofs.YtjanddnlhaionaaGreatDoor.L6
namespace Go.Proofs.YtjanddnlhaionaaGreatDoor.L6
open Go.RowKit

/-! ### The state between two calls -/
def KP (n : Nat) (had : List ByteArray) (sure : Nat) (d : D) (t : T) : Prop := ∃ O M j q s, Kp n had sure d t O M j q s
theorem KP.wlen {n sure : Nat} {had : List ByteArray} {d : D} {t : T} (h : KP n had sure d t) : d.W.length ≤ 200 := by
  obtain ⟨O, M, j, q, s, h⟩ := h
  have := h.wlen
  have := h.nn
  omega
theorem KP.append {n sure : Nat} {had : List ByteArray} {d : D} {t : T} (h : KP n had sure d t) (x : ByteArray) :
    (appE t d x = 0 ∨ appE t d x = 8 ∨ appE t d x = 9) ∧ (appE t d x = 0 → (appT t d x).count = t.count + 1) ∧ KP n (HadB t d had x) sure (appD t d x) (appT t d x) := by
  obtain ⟨O, M, j, q, s, h⟩ := h
  obtain ⟨a, b, M', q', c⟩ := h.append x
  exact ⟨a, b, O, M', j, q', s, c⟩
theorem KP.settle {n sure : Nat} {had : List ByteArray} {d : D} {t : T} (h : KP n had sure d t) : KP n had (if flushE t d = 0 then had.length else sure) (flushD t d) (flushT t d) := by
  obtain ⟨O, M, j, q, s, h⟩ := h
  obtain ⟨j', s', c⟩ := h.settle
  exact ⟨O, M, j', q, s', c⟩
theorem KP.arm {n sure : Nat} {had : List ByteArray} {d : D} {t : T} (h : KP n had sure d t) (k : Int) : KP n had sure (armD d k) t := by
  obtain ⟨O, M, j, q, s, h⟩ := h
  exact ⟨O, M, j, q, s, h.arm k⟩
theorem KP.crash {n sure : Nat} {had : List ByteArray} {d : D} {t : T} (h : KP n had sure d t) (h3 : t.life < 1000) (keep : List Int) :
    openE (crashD d keep) = 0 ∧ had.take (scanD (crashD d keep)).recs.length = (scanD (crashD d keep)).recs ∧ sure ≤ (scanD (crashD d keep)).recs.length ∧ (sure < (scanD (crashD d keep)).recs.length → t.life < (openT (crashD d keep)).life) ∧ (openT (crashD d keep)).life ≤ t.life + 1 ∧ (scanD (crashD d keep)).recs.length ≤ 200 ∧
      KP n (scanD (crashD d keep)).recs (scanD (crashD d keep)).recs.length (crashD d keep) (openT (crashD d keep)) := by
  obtain ⟨O, M, j, q, s, h⟩ := h
  have hn := h.nn
  obtain ⟨a, ⟨E, b⟩, c, e, f, g, O', k⟩ := h.crash h3 keep
  refine ⟨a, ?_, c, e, f, by omega, O', [], 0, 0, 0, k⟩
  rw [b]
  exact List.take_left
theorem KP.new (n : Nat) (h2 : n ≤ 200) : KP n [] 0 (newD n) (openT (newD n)) ∧ (openT (newD n)).life = 1 := by
  obtain ⟨a, b⟩ := Kp.new n h2
  exact ⟨⟨_, _, _, _, _, a⟩, b⟩
theorem appT_count (t : T) (d : D) (s : ByteArray) : (appT t d s).count ≤ t.count + 1 ∧ (appT t d s).life = t.life := by
  unfold appT
  split
  · split
    · exact ⟨Nat.le_refl _, rfl⟩
    · exact ⟨Nat.le_succ _, rfl⟩
  · exact ⟨Nat.le_succ _, rfl⟩
end Go.Proofs.YtjanddnlhaionaaGreatDoor.L6
