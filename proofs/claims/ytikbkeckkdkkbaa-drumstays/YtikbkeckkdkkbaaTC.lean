/-
  What is written to each sector, plain and in memory. No condition.
-/
import Derived.Test.YtikbkeckkdkkbaaSD
namespace Go.Proofs.Ytikbkeckkdkkbaa
open Go.RowKit

/-- What was written to sector i. -/
def wl (W : List (Nat × ByteArray)) (i : Nat) : List ByteArray := (W.filter fun p => decide (p.1 = i)).map (·.2)
theorem wl_snoc_same (W : List (Nat × ByteArray)) (i : Nat) (s : ByteArray) : wl (W ++ [(i, s)]) i = wl W i ++ [s] := by simp [wl]
theorem wl_snoc_other (W : List (Nat × ByteArray)) (i j : Nat) (s : ByteArray) (h : j ≠ i) : wl (W ++ [(i, s)]) j = wl W j := by
  have : ¬ i = j := fun e => h e.symm
  simp [wl, this]
theorem wl_nil (i : Nat) : wl [] i = [] := rfl
theorem wl_len (W : List (Nat × ByteArray)) (i : Nat) : (wl W i).length ≤ W.length := by
  unfold wl
  rw [List.length_map]
  exact List.length_filter_le _ _
theorem wl_mem {W : List (Nat × ByteArray)} {i k : Nat} (hk : k < W.length) (h : (pw W k).1 = i) : (pw W k).2 ∈ wl W i := by
  unfold wl
  exact List.mem_map.2 ⟨pw W k, List.mem_filter.2 ⟨pw_mem hk, by simpa using h⟩, rfl⟩

theorem getD_set_same (S : List ByteArray) (i : Nat) (s : ByteArray) (h : i < S.length) : (S.set i s).getD i ByteArray.empty = s := by simp [h]
theorem getD_set_other (S : List ByteArray) (i j : Nat) (s : ByteArray) (h : j ≠ i) : (S.set j s).getD i ByteArray.empty = S.getD i ByteArray.empty := by
  simp [h]

/-- Behind a crash a sector shows what was sure, or what was written to it. -/
theorem ap_from (f : Nat → Bool) (S : List ByteArray) (W : List (Nat × ByteArray)) (hW : ∀ p ∈ W, p.1 < S.length) (i : Nat) : ∀ k, k ≤ W.length → (ap f S W k).getD i ByteArray.empty = S.getD i ByteArray.empty ∨ (ap f S W k).getD i ByteArray.empty ∈ wl W i
  | 0, _ => .inl rfl
  | k + 1, h => by
    unfold ap
    split
    · by_cases e : (pw W k).1 = i
      · right
        have hk := hW _ (pw_mem (W := W) (k := k) (by omega))
        rw [e] at hk
        have := getD_set_same (ap f S W k) i (pw W k).2 (by rw [ap_length]; exact hk)
        rw [e, this]
        exact wl_mem (by omega) e
      · rw [getD_set_other _ _ _ _ e]
        exact ap_from f S W hW i k (by omega)
    · exact ap_from f S W hW i k (by omega)
/-- Settled: the last that was written to it, or what was sure. -/
theorem ap_last (S : List ByteArray) (W : List (Nat × ByteArray)) (hW : ∀ p ∈ W, p.1 < S.length) (i : Nat) : ∀ k, k ≤ W.length → (ap allF S W k).getD i ByteArray.empty = (wl (W.take k) i).getLast?.getD (S.getD i ByteArray.empty)
  | 0, _ => by simp [ap, wl]
  | k + 1, h => by
    have hkl : k < W.length := by omega
    have ht : W.take (k + 1) = W.take k ++ [pw W k] := by rw [List.take_succ_eq_append_getElem hkl, pw_eq hkl]
    unfold ap
    rw [if_pos (show allF k = true from rfl), ht]
    obtain ⟨⟨pi, ps⟩, hp⟩ : ∃ p, pw W k = p := ⟨_, rfl⟩
    rw [hp]
    by_cases e : pi = i
    · subst e
      have hk := hW _ (pw_mem hkl)
      rw [hp] at hk
      show ((ap allF S W k).set pi ps).getD pi ByteArray.empty = _
      rw [wl_snoc_same, getD_set_same _ _ _ (by rw [ap_length]; exact hk)]
      simp
    · show ((ap allF S W k).set pi ps).getD i ByteArray.empty = _
      rw [wl_snoc_other _ _ _ _ (fun h => e h.symm), getD_set_other _ _ _ _ e]
      exact ap_last S W hW i k (by omega)

/-! ### Six cells -/
def rowF (f : Nat → Value) : Array Value := ((List.range 6).map f).toArray
theorem rowF_get (f : Nat → Value) (i : Nat) (h : i < 6) : (rowF f)[i]? = some (f i) := by simp [rowF, h]
def upd (f : Nat → Value) (i : Nat) (v : Value) : Nat → Value := fun j => if j = i then v else f j
theorem rowF_set (f : Nat → Value) (i : Nat) (v : Value) : (rowF f).setIfInBounds i v = rowF (upd f i v) := by
  apply Array.ext_getElem?
  intro j
  by_cases hj : j < 6
  · rw [rowF_get _ _ hj, Array.getElem?_setIfInBounds]
    by_cases e : i = j
    · subst e
      have : i < (rowF f).size := by simpa [rowF] using hj
      simp [upd, this]
    · have e' : ¬ j = i := fun h => e h.symm
      rw [if_neg e, rowF_get _ _ hj]
      simp [upd, e']
  · rw [Array.getElem?_eq_none (by simp [rowF]; omega), Array.getElem?_eq_none (by simp [rowF]; omega)]

/-- The array of what was written: six rows of the call's own. -/
structure Wr (w : World) (G : Nat → Prop) (A : Nat) (W : List (Nat × ByteArray)) (vs : Nat → Value) : Prop where
  row : w.heap[A]? = some (.cells (rowF vs) 44 (0, 0))
  own : ∀ i, i < 6 → w.ownsRow 0 9 1 (vs i) (wl W i).length (strs (wl W i))
  na : ∀ i, i < 6 → (vs i).ownBlock ≠ some A
  nij : ∀ i j, i < 6 → j < 6 → i ≠ j → ∀ k, (vs i).ownBlock = some k → (vs j).ownBlock ≠ some k
  ga : G A
  gi : ∀ i, i < 6 → ∀ k, (vs i).ownBlock = some k → G k
  lt : ∀ k, G k → k < w.heap.size
theorem Wr.keep {w w' : World} {G H : Nat → Prop} {A : Nat} {W : List (Nat × ByteArray)} {vs : Nat → Value} (h : Wr w G A W vs) (hT : Turn H w w') (hd : ∀ k, G k → ¬ H k) : Wr w' G A W vs :=
  ⟨by rw [hT.block A (h.lt A h.ga) (hd A h.ga)]; exact h.row, fun i hi => row_keep (h.own i hi) (fun k hk => hT.block k (h.lt k (h.gi i hi k hk)) (hd k (h.gi i hi k hk))), h.na, h.nij, h.ga, h.gi, fun k hk => Nat.lt_of_lt_of_le (h.lt k hk) hT.size⟩
theorem Wr.below {w w' : World} {G : Nat → Prop} {A : Nat} {W : List (Nat × ByteArray)} {vs : Nat → Value} (h : Wr w G A W vs) (hb : Below w.heap.size w w') : Wr w' G A W vs :=
  h.keep (H := fun _ => False) (Turn.of_below hb) (fun _ _ h => h)
theorem Wr.cell {w : World} {G : Nat → Prop} {A : Nat} {W : List (Nat × ByteArray)} {vs : Nat → Value} (h : Wr w G A W vs) (i : Nat) (hi : i < 6) : w.cell? ⟨A, i, none⟩ = some (vs i) := cell_row h.row (rowF_get _ _ hi)
theorem Wr.alt {w : World} {G : Nat → Prop} {A : Nat} {W : List (Nat × ByteArray)} {vs : Nat → Value} (h : Wr w G A W vs) : A < w.heap.size := h.lt A h.ga
theorem strs_app (S : List ByteArray) (s : ByteArray) : strs (S ++ [s]) = strs S ++ [.string s] := by simp [strs]

/-- One more is written to sector i. -/
theorem Wr.more {w w4 : World} {G : Nat → Prop} {A i : Nat} {W : List (Nat × ByteArray)} {vs : Nat → Value} {s : ByteArray} {g' cap : Nat} (h : Wr w G A W vs) (hi : i < 6)
    (X : Obj) (ho : w4.ownsRow 0 9 1 (.slice (some ⟨g', 0, none⟩) ((wl W i).length + 1) cap) ((wl W i).length + 1) (strs (wl W i) ++ [.string s])) (hg : (w.alloc X).grownBy w4 (vs i).ownBlock) (hat : (vs i).ownBlock = some g' ∨ g' = (w.alloc X).heap.size) (hlt : g' < w4.heap.size) :
    Wr (w4.setCell ⟨A, i, none⟩ (.slice (some ⟨g', 0, none⟩) ((wl W i).length + 1) cap)) (Up G w (w4.setCell ⟨A, i, none⟩ (.slice (some ⟨g', 0, none⟩) ((wl W i).length + 1) cap))) A (W ++ [(i, s)]) (upd vs i (.slice (some ⟨g', 0, none⟩) ((wl W i).length + 1) cap)) ∧ Turn G w (w4.setCell ⟨A, i, none⟩ (.slice (some ⟨g', 0, none⟩) ((wl W i).length + 1) cap)) := by
  have hb' : Below w.heap.size w (w.alloc X) := (Below.refl _ _).alloc (Nat.le_refl _) _
  have halt := h.alt
  have hgA : g' ≠ A := by
    rcases hat with h1 | h1
    · intro e; exact h.na i hi (by rw [h1, e])
    · have := hb'.size; omega
  have hold : ∀ k, k < w.heap.size → (vs i).ownBlock ≠ some k → w4.heap[k]? = w.heap[k]? := fun k hk hne => by
    rw [hg.block k (Nat.lt_of_lt_of_le hk hb'.size) (Ne.symm hne), hb'.block k hk]
  have hTT : Turn G w w4 := (Turn.of_below (F := G) hb').trans (Turn.of_grown (F := G) hg (fun k e => h.gi i hi k e)) (fun _ h => .inl h)
  have hrow : w4.heap[A]? = some (.cells (rowF vs) 44 (0, 0)) := by rw [hold A halt (h.na i hi)]; exact h.row
  have hfar : ∀ j, j < 6 → j ≠ i → ∀ k, (vs j).ownBlock = some k → k ≠ g' := fun j hj hji k hk e => by
    subst e
    rcases hat with h1 | h1
    · exact h.nij j i hj hi hji k hk h1
    · have := h.lt k (h.gi j hj k hk)
      have := hb'.size
      omega
  refine ⟨⟨?_, fun j hj => ?_, fun j hj => ?_, fun j l hj hl hjl k hk => ?_, .inl h.ga, fun j hj k hk => ?_, fun k hk => ?_⟩, hTT.setCell _ _ (.inl h.ga)⟩
  · rw [heap_setCell_same _ _ _ _ _ _ hrow, rowF_set]
  · by_cases e : j = i
    · subst e
      simp only [upd, if_true]
      rw [wl_snoc_same, List.length_append, strs_app]
      exact row_keep ho (fun k hk => Below.heap_setCell _ _ _ _ (by rw [← own_some hk]; exact hgA))
    · simp only [upd, if_neg e]
      rw [wl_snoc_other _ _ _ _ e]
      refine row_keep (h.own j hj) (fun k hk => ?_)
      have hkl := h.lt k (h.gi j hj k hk)
      rw [Below.heap_setCell _ _ _ _ (own_ne (h.na j hj) hk)]
      exact hold k hkl (fun e' => h.nij j i hj hi e k hk e')
  · by_cases e : j = i
    · simp only [upd, if_pos e]
      simpa [Value.ownBlock] using hgA
    · simp only [upd, if_neg e]; exact h.na j hj
  · by_cases e : j = i
    · have el : ¬ l = i := fun e' => hjl (by rw [e, e'])
      simp only [upd, if_pos e] at hk
      simp only [upd, if_neg el]
      rw [← own_some hk]
      intro e'
      exact hfar l hl el g' e' rfl
    · simp only [upd, if_neg e] at hk
      by_cases el : l = i
      · simp only [upd, if_pos el]
        intro e'
        exact hfar j hj e k hk (own_some e').symm
      · simp only [upd, if_neg el]; exact h.nij j l hj hl hjl k hk
  · by_cases e : j = i
    · simp only [upd, if_pos e] at hk
      rw [← own_some hk]
      rcases hat with h1 | h1
      · exact .inl (h.gi i hi g' h1)
      · right
        have := hb'.size
        exact ⟨by omega, by simpa [World.setCell] using hlt⟩
    · simp only [upd, if_neg e] at hk
      exact .inl (h.gi j hj k hk)
  · rcases hk with hk | hk
    · have h1 := h.lt k hk
      have := hb'.size
      have := hg.size
      simpa [World.setCell] using (show k < w4.heap.size by omega)
    · exact hk.2
end Go.Proofs.Ytikbkeckkdkkbaa
