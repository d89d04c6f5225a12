/-
  A drum that a tape filled from the beginning; a slice of strings that came in. No condition.
-/
import Derived.Test.YtjanddnlhaionaaGreatDoorL6YQ
import Derived.Test.YtjanddnlhaionaaGreatDoorL6V
import Derived.OpenShut
namespace Go.Proofs.YtjanddnlhaionaaGreatDoor.L6
open Go.ChangeShapes Go.WideShapes Go.ChangeAt Go.RowKit Go.Joins Go.Deep

/-! ### Pending writes to consecutive sectors -/
def pend : Nat → List ByteArray → List (Nat × ByteArray)
  | _, [] => []
  | o, x :: l => (o, x) :: pend (o + 1) l
set_option maxRecDepth 100000 in
theorem pend_len : ∀ (o : Nat) (l : List ByteArray), (pend o l).length = l.length
  | _, [] => rfl
  | o, x :: l => by simp [pend, pend_len (o + 1) l]
set_option maxRecDepth 100000 in
theorem pend_append : ∀ (o : Nat) (a b : List ByteArray), pend o (a ++ b) = pend o a ++ pend (o + a.length) b
  | o, [], b => by simp [pend]
  | o, x :: a, b => by
    simp only [List.cons_append, pend, pend_append (o + 1) a b, List.length_cons]
    rw [show o + 1 + a.length = o + (a.length + 1) by omega]
set_option maxRecDepth 100000 in
theorem pend_get : ∀ (o : Nat) (l : List ByteArray) (k : Nat) (h : k < l.length), (pend o l)[k]? = some (o + k, l[k])
  | o, x :: l, 0, _ => by simp [pend]
  | o, x :: l, k + 1, h => by
    have hk : k < l.length := by simpa using h
    simp only [pend, List.getElem?_cons_succ, pend_get (o + 1) l k hk, List.getElem_cons_succ]
    rw [show o + 1 + k = o + (k + 1) by omega]
set_option maxRecDepth 100000 in
theorem pw_pend (o : Nat) (l : List ByteArray) (k : Nat) (h : k < l.length) : pw (pend o l) k = (o + k, l[k]) := by
  unfold pw
  rw [List.getD_eq_getElem?_getD, pend_get o l k h]
  rfl
set_option maxRecDepth 100000 in
theorem ap_pend (n : Nat) (l : List ByteArray) (hl : l.length ≤ n) : ∀ k, k ≤ l.length → ap allF (List.replicate n z64) (pend 0 l) k = l.take k ++ List.replicate (n - k) z64
  | 0, _ => by simp [ap]
  | k + 1, h => by
    have hk : k < l.length := by omega
    rw [ap, ap_pend n l hl k (by omega), pw_pend 0 l k hk]
    have ha : allF k = true := rfl
    rw [ha, if_pos rfl]
    simp only [Nat.zero_add]
    have hlen : (l.take k).length = k := by rw [List.length_take]; omega
    rw [List.take_succ_eq_append_getElem hk, show n - k = (n - (k + 1)) + 1 by omega, List.replicate_succ, List.set_append_right _ _ (by omega), hlen, Nat.sub_self, List.set_cons_zero, List.append_assoc]
    rfl

/-- A drum of n sectors that holds nothing durable, with all of l pending. -/
structure Wh (n : Nat) (l : List ByteArray) (d : D) (t : T) : Prop where
  s : d.S = List.replicate n z64
  w : d.W = pend 0 (allSecs 1 1 l)
  f : d.fuse = -1
  g : d.gone = false
  t : t = ⟨l.length, 1, (allSecs 1 1 l).length, 0⟩
  le : (allSecs 1 1 l).length ≤ n
set_option maxRecDepth 100000 in
theorem burn_none {d : D} (h : d.fuse = -1) : burn d = d := by
  unfold burn
  rw [if_neg (by rw [h]; omega), if_neg (by rw [h]; omega)]
set_option maxRecDepth 100000 in
theorem write_none {d : D} (hf : d.fuse = -1) (hg : d.gone = false) (i : Nat) (s : ByteArray) (hi : i < d.S.length) (hs : s.size = 64) : writeE d (i : Int) s = 0 ∧ writeD d (i : Int) s = { d with W := d.W ++ [(i, s)] } := by
  have ho : writeOk d (i : Int) s = true := by
    unfold writeOk
    rw [Bool.and_eq_true, hasB_iff, decide_eq_true_eq]
    exact ⟨by omega, hs⟩
  unfold writeE writeD
  rw [ho, burn_none hf, hg]
  simp [hg]
set_option maxRecDepth 100000 in
theorem wrK_none (t : T) (s : ByteArray) (d : D) (hf : d.fuse = -1) (hg : d.gone = false) (hp : t.pos + needN s.size ≤ d.S.length) : ∀ k, k ≤ needN s.size →
    wrK t s d k = ({ d with W := d.W ++ pend t.pos (((List.range k).map fun i => layB (partOf t.life (t.count + 1) s i))) }, 0)
  | 0, _ => by simp [wrK, pend]
  | k + 1, h => by
    have ih := wrK_none t s d hf hg hp k (by omega)
    have hsz : (layB (partOf t.life (t.count + 1) s k)).size = 64 := layB_size _ (by unfold partOf; simp only [List.length_take]; omega)
    obtain ⟨e1, e2⟩ := write_none (d := { d with W := d.W ++ pend t.pos (((List.range k).map fun i => layB (partOf t.life (t.count + 1) s i))) }) hf hg (t.pos + k) (layB (partOf t.life (t.count + 1) s k)) (by show t.pos + k < d.S.length; omega) hsz
    unfold wrK
    rw [ih]
    simp only [if_true]
    rw [e1, e2]
    simp only
    congr 1
    congr 1
    rw [List.append_assoc, List.range_succ, List.map_append, pend_append]
    simp [pend]
set_option maxRecDepth 100000 in
theorem Wh.app {n : Nat} {l : List ByteArray} {d : D} {t : T} (h : Wh n l d t) (s : ByteArray) : (needN s.size + (allSecs 1 1 l).length ≤ n → appE t d s = 0 ∧ Wh n (l ++ [s]) (appD t d s) (appT t d s)) ∧ (¬ needN s.size + (allSecs 1 1 l).length ≤ n → appE t d s = 8 ∧ appD t d s = d ∧ appT t d s = t) := by
  have ht := h.t
  have hS : d.S.length = n := by rw [h.s]; simp
  have hp : t.pos = (allSecs 1 1 l).length := by rw [ht]
  have he : t.err = 0 := by rw [ht]
  have hc : t.count = l.length := by rw [ht]
  have hli : t.life = 1 := by rw [ht]
  refine ⟨fun hf => ?_, fun hf => ?_⟩
  · have e1 : appFits t d s = true := by unfold appFits; rw [decide_eq_true he, decide_eq_true (by rw [hp, hS]; exact hf)]; rfl
    have ek := wrK_none t s d h.f h.g (by rw [hp, hS]; omega) (needN s.size) (Nat.le_refl _)
    have hsec : ((List.range (needN s.size)).map fun i => layB (partOf t.life (t.count + 1) s i)) = secsOf 1 (1 + l.length) s := by rw [hc, hli, Nat.add_comm l.length 1]; rfl
    rw [hsec] at ek
    have hall : allSecs 1 1 (l ++ [s]) = allSecs 1 1 l ++ secsOf 1 (1 + l.length) s := allSecs_snoc 1 1 l s
    refine ⟨by unfold appE; rw [if_pos he, if_pos (by rw [hp, hS]; exact hf), ek], ?_⟩
    unfold appD appT
    rw [if_pos e1, if_pos e1, ek]
    simp only [if_true]
    refine ⟨h.s, ?_, h.f, h.g, ?_, ?_⟩
    · rw [hall, pend_append, h.w, hp, Nat.zero_add]
    · rw [hall, ht]
      simp [secsOf_len]
    · rw [hall, List.length_append, secsOf_len]; omega
  · have hf' : ¬ needN s.size + t.pos ≤ d.S.length := by rw [hp, hS]; exact hf
    have e1 : appFits t d s = false := by unfold appFits; rw [decide_eq_false hf', Bool.and_false]
    refine ⟨by unfold appE; rw [if_pos he, if_neg (by rw [hp, hS]; exact hf)], by unfold appD; rw [e1]; rfl, by unfold appT; rw [e1]; rfl⟩
/-- A drum at rest. -/
def rest (S : List ByteArray) : D := ⟨S, [], -1, false⟩
set_option maxRecDepth 100000 in
theorem Wh.settle {n : Nat} {l : List ByteArray} {d : D} {t : T} (h : Wh n l d t) : flushE t d = 0 ∧ flushD t d = rest (allSecs 1 1 l ++ List.replicate (n - (allSecs 1 1 l).length) z64) := by
  have he : t.err = 0 := by rw [h.t]
  unfold flushE flushD settleE settleD
  rw [if_pos he, if_pos he, burn_none h.f, h.g]
  simp only [Bool.false_eq_true, if_false, true_and]
  unfold rest
  have hw := h.w
  have hs := h.s
  have hf := h.f
  have hg := h.g
  have e : ap allF d.S d.W d.W.length = allSecs 1 1 l ++ List.replicate (n - (allSecs 1 1 l).length) z64 := by
    rw [hw, hs, pend_len, ap_pend n _ h.le _ (Nat.le_refl _), List.take_length]
  rw [e, hf, hg]
set_option maxRecDepth 100000 in
theorem crash_rest (S : List ByteArray) : crashD (rest S) [] = rest S := rfl
set_option maxRecDepth 100000 in
theorem shown_rest (S : List ByteArray) : shown (rest S) = S := by
  unfold shown rest sh
  refine List.ext_getElem (by simp) fun i h1 h2 => ?_
  simp [h2]
set_option maxRecDepth 100000 in
theorem Wh.new (n : Nat) : Wh n [] (newD n) (openT (newD n)) ∧ openE (newD n) = 0 ∧ (scanD (newD n)).recs = [] := by
  have hs : scanD (newD n) = scanL (List.replicate n z64) := by unfold scanD; rw [show newD n = rest (List.replicate n z64) from rfl, shown_rest]
  obtain ⟨b1, b2, b3⟩ := visit_blank n rd0
  have c1 : (scanD (newD n)).recs = [] := by rw [hs]; exact b1
  have c2 : (scanD (newD n)).occ = 0 := by rw [hs]; exact b2
  have c3 : (scanD (newD n)).great = 0 := by rw [hs]; exact b3
  refine ⟨⟨rfl, rfl, rfl, rfl, ?_, Nat.zero_le _⟩, ?_, c1⟩
  · unfold openT; rw [c1, c2, c3]; rfl
  · unfold openE; rw [c3]; rfl
set_option maxRecDepth 100000 in
theorem Wh.again {n : Nat} {l : List ByteArray} (hl : l.length ≤ 1000000) (hle : (allSecs 1 1 l).length ≤ n) (hn : n ≤ 4096) :
    openE (rest (allSecs 1 1 l ++ List.replicate (n - (allSecs 1 1 l).length) z64)) = 0 ∧ (scanD (rest (allSecs 1 1 l ++ List.replicate (n - (allSecs 1 1 l).length) z64))).recs = l ∧ (openT (rest (allSecs 1 1 l ++ List.replicate (n - (allSecs 1 1 l).length) z64))).count = l.length ∧
      (openT (rest (allSecs 1 1 l ++ List.replicate (n - (allSecs 1 1 l).length) z64))).pos = (allSecs 1 1 l).length := by
  have hne : ∀ s ∈ l, needN s.size ≤ 65536 := by
    intro s hs
    have : needN s.size ≤ (allSecs 1 1 l).length := by
      have H : ∀ (m : List ByteArray) (rec : Nat), s ∈ m → needN s.size ≤ (allSecs 1 rec m).length := by
        intro m
        induction m with
        | nil => intro rec h; cases h
        | cons a m ih =>
          intro rec h
          simp only [allSecs, List.length_append, secsOf_len]
          rcases List.mem_cons.1 h with rfl | h
          · omega
          · have := ih (rec + 1) h; omega
      exact H l 1 hs
    omega
  obtain ⟨s1, s2, s3⟩ := scan_whole 1 (by omega) (by omega) l (n - (allSecs 1 1 l).length) (by omega) hne
  have hsc : scanD (rest (allSecs 1 1 l ++ List.replicate (n - (allSecs 1 1 l).length) z64)) = scanL (allSecs 1 1 l ++ List.replicate (n - (allSecs 1 1 l).length) z64) := by unfold scanD; rw [shown_rest]
  rw [← hsc] at s1 s2 s3
  refine ⟨?_, s1, by show (scanD _).recs.length = _; rw [s1], s2⟩
  unfold openE
  rw [if_neg (by simp [rest]), if_neg (by omega)]

/-! ### A slice of strings that came in -/
def SAt (w : World) (B : Nat) (v : Value) (l : List ByteArray) : Prop :=
  ∃ a c, v = .slice a l.length c ∧ (0 < l.length → ∃ b o, a = some ⟨b, o, none⟩ ∧ b < B ∧ ∀ i (h : i < l.length), w.cell? ⟨b, o + i, none⟩ = some (.string l[i]))
set_option maxRecDepth 100000 in
theorem SAt.below {w w' : World} {B : Nat} {v : Value} {l : List ByteArray} (h : SAt w B v l) (hb : Below B w w') : SAt w' B v l := by
  obtain ⟨a, c, rfl, h⟩ := h
  refine ⟨a, c, rfl, fun h0 => ?_⟩
  obtain ⟨b, o, rfl, hlt, hc⟩ := h h0
  exact ⟨b, o, rfl, hlt, fun i hi => by rw [hb.cell (p := ⟨b, o + i, none⟩) hlt]; exact hc i hi⟩
set_option maxRecDepth 100000 in
theorem SAt.cell {w : World} {B b o n c : Nat} {l : List ByteArray} (h : SAt w B (.slice (some ⟨b, o, none⟩) n c) l) (i : Nat) (hi : i < l.length) : w.cell? ⟨b, o + i, none⟩ = some (.string l[i]) := by
  obtain ⟨a, c', e, h⟩ := h
  obtain ⟨b', o', rfl, -, hc⟩ := h (by omega)
  injection e with e1 e2 e3
  injection e1 with e1
  injection e1 with e4 e5
  subst e4 e5
  exact hc i hi
set_option maxRecDepth 100000 in
theorem SAt.some_ {w : World} {B : Nat} {a : Option Addr} {n c : Nat} {l : List ByteArray} (h : SAt w B (.slice a n c) l) (h0 : 0 < l.length) : ∃ b o, a = some ⟨b, o, none⟩ := by
  obtain ⟨a', c', e, h⟩ := h
  injection e with e1 e2 e3
  subst e1
  obtain ⟨b, o, rfl, -, -⟩ := h h0
  exact ⟨b, o, rfl⟩
section
variable {H : Type} {enc : TypeId × Value → H} {w : World} {held : Bool}
set_option maxRecDepth 100000 in
theorem open_strs {v : Value} {d : DataW H} {p : List MemPlace} (hv : ∃ a len cap, v = .slice a len cap) (h : DataW.Trod enc Tryz.prog w 0 (fun _ => true) held 25 v d p) : ∃ l, SAt w w.heap.size v l := by
  obtain ⟨A, len, cap, rfl⟩ := hv
  obtain ⟨fuel, hf⟩ := h
  rcases open_strings Tryz.underlying25 Tryz.under9 Tryz.cells9 hf with ⟨h0, _⟩ | ⟨a, len', cap', ss, hcs, _, hl, hm, hss, _, hcell, _⟩
  · have e : Value.slice A len cap = .slice none 0 0 := by simpa [Value.cells] using h0
    injection e with e1 e2 e3
    subst e1 e2 e3
    exact ⟨[], none, 0, rfl, fun h => by simp at h⟩
  · have e : Value.slice A len cap = .slice (some a) len' cap' := by simpa [Value.cells] using hcs
    injection e with e1 e2 e3
    subst e1 e2 e3
    simp only [if_true] at hss
    have hlen : (ss.take len).length = len := by simp; omega
    refine ⟨ss.take len, some a, cap, by rw [hlen], fun h0 => ?_⟩
    rw [hlen] at h0
    obtain ⟨b, off, spot⟩ := a
    have hspot : spot = none := by simpa [Addr.add] using World.cell?_spot (hcell 0 (by omega))
    subst hspot
    have hc : ∀ i, i < ss.length → w.cell? ⟨b, off + i, none⟩ = some (.string (ss.getD i ByteArray.empty)) := fun i hi => by
      rw [← Go.WideShapes.add_plain]; exact hcell i hi
    refine ⟨b, off, rfl, World.block_lt_of_cell? w _ (hc 0 (by omega)), fun i hi => ?_⟩
    rw [hlen] at hi
    rw [hc i (by omega)]
    have hi' : i < ss.length := by omega
    simp [hi']
end
end Go.Proofs.YtjanddnlhaionaaGreatDoor.L6
