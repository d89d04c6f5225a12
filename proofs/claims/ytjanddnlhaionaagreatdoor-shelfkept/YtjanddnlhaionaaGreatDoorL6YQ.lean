/-
  What the reader makes of a record's sectors; a log that was written whole. No condition.
-/
import Derived.Test.YtjanddnlhaionaaGreatDoorL6YP
namespace Go.Proofs.YtjanddnlhaionaaGreatDoor.L6
open Go.RowKit

def secsOf (life rec : Nat) (s : ByteArray) : List ByteArray := (List.range (needN s.size)).map fun i => layB (partOf life rec s i)
set_option maxRecDepth 100000 in
theorem needN_pos (n : Nat) : 0 < needN n := by unfold needN; split <;> omega
set_option maxRecDepth 100000 in
theorem secsOf_len (life rec : Nat) (s : ByteArray) : (secsOf life rec s).length = needN s.size := by simp [secsOf]
set_option maxRecDepth 100000 in
theorem partOf_ok (life rec : Nat) (s : ByteArray) (i : Nat) (h1 : 0 < life) (h2 : life < 4294967296) (h3 : rec < 4294967296) (hi : i < needN s.size) (hn : needN s.size ≤ 65536) : OkS (partOf life rec s i) := by
  refine ⟨h1, h2, h3, by show i < 65536; omega, by show ((s.data.toList.drop (51 * i)).take 51).length ≤ 51; rw [List.length_take]; omega, fun hl => ?_⟩
  have hl : decide (i + 1 = needN s.size) = false := hl
  rw [decide_eq_false_iff_not] at hl
  show ((s.data.toList.drop (51 * i)).take 51).length = 51
  rw [List.length_take, List.length_drop, len_list]
  have hi2 : i + 1 < needN s.size := by omega
  unfold needN at hi2
  split at hi2
  · omega
  · omega
set_option maxRecDepth 100000 in
theorem says_part (life rec : Nat) (s : ByteArray) (i : Nat) (h1 : 0 < life) (h2 : life < 4294967296) (h3 : rec < 4294967296) (hi : i < needN s.size) (hn : needN s.size ≤ 65536) :
    says (layB (partOf life rec s i)).data.toList = some (partOf life rec s i) := by
  rw [layB_list]; exact says_lay _ (partOf_ok life rec s i h1 h2 h3 hi hn)

/-- The reader stands behind whole records. -/
structure Clean (r : Rd) : Prop where
  e : r.ended = false
  p : r.parts = 0
  d : r.data = []
set_option maxRecDepth 100000 in
theorem part_end (s : ByteArray) (i : Nat) (h : i + 1 = needN s.size) : s.data.toList.take (51 * (i + 1)) = s.data.toList := by
  refine List.take_of_length_le ?_
  rw [len_list, h]
  unfold needN
  split <;> omega
/-- After k parts of a record that is not yet whole. -/
def midR (r : Rd) (life : Nat) (s : ByteArray) (k : Nat) : Rd := { r with vis := r.vis + k, great := if k = 0 then r.great else max r.great life, life := if k = 0 then r.life else life, parts := k, data := s.data.toList.take (51 * k) }
def endR (r : Rd) (life : Nat) (s : ByteArray) : Rd := { r with vis := r.vis + needN s.size, great := max r.great life, life := life, recs := r.recs ++ [s], occ := r.vis + needN s.size }
set_option maxRecDepth 100000 in
theorem visit_part (r : Rd) (life : Nat) (s : ByteArray) (k : Nat) (hc : Clean r) (hl : r.life ≤ life) (h1 : 0 < life) (h2 : life < 4294967296) (h3 : r.recs.length + 1 < 4294967296) (hk : k < needN s.size) (hn : needN s.size ≤ 65536) :
    visit (midR r life s k) (layB (partOf life (r.recs.length + 1) s k)) = if k + 1 = needN s.size then endR r life s else midR r life s (k + 1) := by
  unfold visit
  rw [says_part life (r.recs.length + 1) s k h1 h2 h3 hk hn]
  unfold visitO
  have he0 := hc.e
  have hen : (midR r life s k).ended = false := hc.e
  have hex : expects (midR r life s k) (partOf life (r.recs.length + 1) s k) = true := by
    unfold expects midR partOf
    simp only [decide_true, Bool.true_and, Bool.or_eq_true, Bool.and_eq_true, decide_eq_true_eq]
    by_cases h0 : k = 0
    · rw [if_pos h0]
      by_cases he : life = r.life
      · exact .inl he
      · exact .inr ⟨by omega, h0⟩
    · rw [if_neg h0]; exact .inl rfl
  simp only [hen, hex, Bool.not_true, Bool.or_self, Bool.false_eq_true, if_false]
  unfold takeS
  have hdat : s.data.toList.take (51 * k) ++ (s.data.toList.drop (51 * k)).take 51 = s.data.toList.take (51 * (k + 1)) := by
    rw [show 51 * (k + 1) = 51 * k + 51 by omega, List.take_add]
  by_cases hlast : k + 1 = needN s.size
  · have hd2 : (partOf life (r.recs.length + 1) s k).last = true := decide_eq_true hlast
    rw [hd2, if_pos rfl, if_pos hlast]
    unfold endR midR partOf
    simp only [hdat, part_end s k hlast]
    have hs : (⟨s.data.toList.toArray⟩ : ByteArray) = s := str_eta s
    rw [hs]
    have hp := hc.p
    have hd := hc.d
    by_cases h0 : k = 0
    · subst h0
      rw [← hlast]
      simp [hp, hd, he0]
    · rw [if_neg h0]
      have : max (max r.great life) life = max r.great life := by omega
      rw [this, ← hlast, hp, hd, he0, Nat.add_assoc]
  · have hd2 : (partOf life (r.recs.length + 1) s k).last = false := decide_eq_false hlast
    rw [hd2, if_neg (by simp), if_neg hlast]
    unfold midR partOf
    simp only [hdat]
    by_cases h0 : k = 0
    · subst h0
      simp [he0]
    · rw [if_neg h0, if_neg (by omega), if_neg (by omega)]
      have : max (max r.great life) life = max r.great life := by omega
      rw [this, he0, Nat.add_assoc]
set_option maxRecDepth 100000 in
theorem mid_zero (r : Rd) (life : Nat) (s : ByteArray) (hc : Clean r) : midR r life s 0 = r := by
  have := hc.p
  have := hc.d
  unfold midR
  cases r
  simp_all
set_option maxRecDepth 100000 in
theorem visit_rec (r : Rd) (life : Nat) (s : ByteArray) (hc : Clean r) (hl : r.life ≤ life) (h1 : 0 < life) (h2 : life < 4294967296) (h3 : r.recs.length + 1 < 4294967296) (hn : needN s.size ≤ 65536) :
    (secsOf life (r.recs.length + 1) s).foldl visit r = endR r life s := by
  have H : ∀ k, k < needN s.size → ((List.range k).map fun i => layB (partOf life (r.recs.length + 1) s i)).foldl visit r = midR r life s k := by
    intro k
    induction k with
    | zero => intro _; rw [mid_zero r life s hc]; rfl
    | succ k ih =>
      intro hk
      rw [List.range_succ, List.map_append, List.foldl_append, ih (by omega)]
      show visit _ _ = _
      rw [visit_part r life s k hc hl h1 h2 h3 (by omega) hn, if_neg (by omega)]
  obtain ⟨m, hm⟩ : ∃ m, needN s.size = m + 1 := ⟨needN s.size - 1, by have := needN_pos s.size; omega⟩
  unfold secsOf
  rw [hm, List.range_succ, List.map_append, List.foldl_append, H m (by omega)]
  show visit _ _ = _
  rw [visit_part r life s m hc hl h1 h2 h3 (by omega) hn, if_pos hm.symm]
set_option maxRecDepth 100000 in
theorem endR_clean (r : Rd) (life : Nat) (s : ByteArray) (hc : Clean r) : Clean (endR r life s) := ⟨hc.e, hc.p, hc.d⟩

/-- All the sectors of records, the first of number rec. -/
def allSecs (life : Nat) : Nat → List ByteArray → List ByteArray
  | _, [] => []
  | rec, s :: l => secsOf life rec s ++ allSecs life (rec + 1) l
set_option maxRecDepth 100000 in
theorem allSecs_snoc (life : Nat) : ∀ (rec : Nat) (l : List ByteArray) (s : ByteArray), allSecs life rec (l ++ [s]) = allSecs life rec l ++ secsOf life (rec + l.length) s
  | rec, [], s => by simp [allSecs]
  | rec, a :: l, s => by
    simp only [List.cons_append, allSecs, allSecs_snoc life (rec + 1) l s, List.append_assoc, List.length_cons]
    rw [show rec + 1 + l.length = rec + (l.length + 1) by omega]
set_option maxRecDepth 100000 in
theorem visit_all (life : Nat) (h1 : 0 < life) (h2 : life < 4294967296) : ∀ (l : List ByteArray) (r : Rd), Clean r → r.life ≤ life → r.recs.length + l.length < 4294967295 → (∀ s ∈ l, needN s.size ≤ 65536) →
    Clean ((allSecs life (r.recs.length + 1) l).foldl visit r) ∧ ((allSecs life (r.recs.length + 1) l).foldl visit r).recs = r.recs ++ l ∧ ((allSecs life (r.recs.length + 1) l).foldl visit r).vis = r.vis + (allSecs life (r.recs.length + 1) l).length ∧
      (((allSecs life (r.recs.length + 1) l).foldl visit r).occ = if l = [] then r.occ else r.vis + (allSecs life (r.recs.length + 1) l).length) ∧ ((allSecs life (r.recs.length + 1) l).foldl visit r).life ≤ life ∧ ((allSecs life (r.recs.length + 1) l).foldl visit r).great ≤ max r.great life
  | [], r, hc, hl, _, _ => ⟨hc, by simp [allSecs], by simp [allSecs], by simp [allSecs], hl, by simp only [allSecs, List.foldl_nil]; omega⟩
  | s :: l, r, hc, hl, h3, hn => by
    rw [List.length_cons] at h3
    have hv := visit_rec r life s hc hl h1 h2 (by omega) (hn s List.mem_cons_self)
    have hrl : (endR r life s).recs.length = r.recs.length + 1 := by simp [endR]
    obtain ⟨i1, i2, i3, i4, i5, i6⟩ := visit_all life h1 h2 l (endR r life s) (endR_clean r life s hc) (Nat.le_refl _) (by rw [hrl]; omega) (fun x hx => hn x (List.mem_cons_of_mem _ hx))
    rw [hrl] at i1 i2 i3 i4 i5 i6
    simp only [allSecs, List.foldl_append, hv, List.length_append, secsOf_len]
    refine ⟨i1, by rw [i2]; simp [endR], by rw [i3]; simp only [endR]; omega, ?_, i5, Nat.le_trans i6 (by simp only [endR]; omega)⟩
    rw [i4, if_neg (by simp : ¬ (s :: l) = [])]
    by_cases hl0 : l = []
    · subst hl0
      rw [if_pos rfl]
      simp [allSecs, endR]
    · rw [if_neg hl0]
      show r.vis + needN s.size + _ = _
      omega
set_option maxRecDepth 100000 in
theorem says_z64 : says z64.data.toList = none := by decide +kernel
set_option maxRecDepth 100000 in
theorem visit_blank : ∀ (m : Nat) (r : Rd), ((List.replicate m z64).foldl visit r).recs = r.recs ∧ ((List.replicate m z64).foldl visit r).occ = r.occ ∧ ((List.replicate m z64).foldl visit r).great = r.great
  | 0, r => ⟨rfl, rfl, rfl⟩
  | m + 1, r => by
    rw [List.replicate_succ, List.foldl_cons]
    have : visit r z64 = { r with vis := r.vis + 1, ended := true } := by unfold visit; rw [says_z64]; rfl
    rw [this]
    obtain ⟨a, b, c⟩ := visit_blank m { r with vis := r.vis + 1, ended := true }
    exact ⟨a, b, c⟩
set_option maxRecDepth 100000 in
theorem rd0_clean : Clean rd0 := ⟨rfl, rfl, rfl⟩
set_option maxRecDepth 100000 in
/-- A log written whole. -/
theorem scan_whole (life : Nat) (h1 : 0 < life) (h2 : life < 4294967296) (l : List ByteArray) (m : Nat) (h3 : l.length < 4294967295) (hn : ∀ s ∈ l, needN s.size ≤ 65536) :
    (scanL (allSecs life 1 l ++ List.replicate m z64)).recs = l ∧ (scanL (allSecs life 1 l ++ List.replicate m z64)).occ = (allSecs life 1 l).length ∧ (scanL (allSecs life 1 l ++ List.replicate m z64)).great ≤ life := by
  unfold scanL
  rw [List.foldl_append]
  obtain ⟨-, i2, -, i4, -, i6⟩ := visit_all life h1 h2 l rd0 rd0_clean (Nat.zero_le _) (by show 0 + l.length < _; omega) hn
  obtain ⟨b1, b2, b3⟩ := visit_blank m ((allSecs life (rd0.recs.length + 1) l).foldl visit rd0)
  have e : rd0.recs.length + 1 = 1 := rfl
  rw [e] at i2 i4 i6 b1 b2 b3
  refine ⟨by rw [b1, i2]; simp [rd0], ?_, ?_⟩
  · rw [b2, i4]
    by_cases h0 : l = []
    · subst h0; simp [allSecs, rd0]
    · rw [if_neg h0]; simp [rd0]
  · rw [b3]
    refine Nat.le_trans i6 ?_
    show max 0 life ≤ life
    omega
end Go.Proofs.YtjanddnlhaionaaGreatDoor.L6
