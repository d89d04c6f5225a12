/-
  Contracts of Scan and Open over a drum, and over none. No condition.
-/
import Derived.Test.YtjanddnlhaionaaGreatDoorL6YG
namespace Go.Proofs.YtjanddnlhaionaaGreatDoor.L6
open Go.RowKit Go.Shelf

set_option maxRecDepth 100000 in
theorem sh_size {d : D} (h : Ok d) {i : Nat} (hi : i < d.S.length) : (sh d i d.W.length).size = 64 := sh_64 h hi _ (Nat.le_refl _)
def itemsG : List Item := [⟨(ByteArray.empty, 9), fun h => by simp at h⟩]
def itemsD (d : D) (h : Ok d) : List Item := (List.finRange d.S.length).map fun i => ⟨(sh d i.1 d.W.length, 0), fun _ => sh_size h i.2⟩
set_option maxRecDepth 100000 in
theorem itemsD_len (d : D) (h : Ok d) : (itemsD d h).length = d.S.length := by simp [itemsD]
set_option maxRecDepth 100000 in
theorem itemsD_scan (d : D) (h : Ok d) : scanR (itemsD d h) = scanD d := by
  unfold scanR scanD itemsD shown
  rw [List.map_map]
  congr 1
  refine List.ext_getElem (by simp) fun i h1 h2 => ?_
  simp
set_option maxRecDepth 100000 in
theorem gives_gone (d : D) (hg : d.gone = true) : Gives (fun i => (readS d i, readE d i)) itemsG := by
  refine ⟨fun i h => ?_, fun h => ?_⟩
  · have h0 : i = 0 := by simp [itemsG] at h; exact h
    subst h0
    refine ⟨?_, by simp [itemsG], fun _ => by simp [itemsG]⟩
    simp [itemsG, readS, readE, hg]
  · have := h _ (List.mem_cons_self)
    simp at this
set_option maxRecDepth 100000 in
theorem gives_live (d : D) (h : Ok d) (hg : d.gone = false) : Gives (fun i => (readS d i, readE d i)) (itemsD d h) := by
  refine ⟨fun i hi => ?_, fun _ => ?_⟩
  · rw [itemsD_len] at hi
    have hb : hasB d (i : Int) = true := by rw [hasB_iff]; omega
    refine ⟨?_, by simp [itemsD], fun hne => absurd (by simp [itemsD]) hne⟩
    simp [itemsD, readS, readE, hg, hb]
  · rw [itemsD_len]
    have hb : hasB d (d.S.length : Int) = false := by
      cases hq : hasB d (d.S.length : Int) with
      | false => rfl
      | true => rw [hasB_iff] at hq; omega
    simp [readE, hg, hb]

set_option maxRecDepth 100000 in
theorem scanP {F : Nat → Prop} {b : Nat} {d : D} {w : World} (h : PAt w F b d) (hw : d.W.length ≤ 1000000) :
    Calls Tryz.prog 128 #[.pointer (some ⟨b, 0, none⟩)] w fun e w' => Below w.heap.size w w' ∧
      if d.gone then e = .returned (.tuple #[.slice none 0 0, .int .i64 0, .int .i64 0, .int .i64 9])
      else ∃ v, e = .returned (.tuple #[v, .int .i64 ((scanD d).occ : Int), .int .i64 ((scanD d).great : Int), .int .i64 0]) ∧ w'.ownsRow w.heap.size 9 1 v (scanD d).recs.length (strs (scanD d).recs) := by
  have hQt : ∀ W W', PAt W F b d → Turn (GB w.heap.size (w.heap.size + 5)) W W' → PAt W' F b d := fun W W' hp ht => hp.keep ht (fun k hk hg => by have := h.lt k hk; have := hg.1; omega)
  have hn2 := h.ok.n2
  have hR : ∀ W, PAt W F b d → ∀ i : Nat, Calls Tryz.prog 193 #[.pointer (some ⟨b, 0, none⟩), .int .i64 (i : Int)] W fun e w' => e = .returned (.tuple #[.string (readS d (i : Int)), .int .i64 (readE d (i : Int))]) ∧ Below W.heap.size W w' := fun W hp i => read22 hp i hw
  cases hg : d.gone with
  | true =>
    refine (scan14 (some ⟨b, 0, none⟩) (fun W => PAt W F b d) (fun i : Nat => (readS d i, readE d i)) itemsG (gives_gone d hg) (by simp [itemsG]) w (fun W W' hp hb => hp.below hb) hQt hR h).mono ?_
    rintro e w' ⟨hb, ⟨v, hz, -⟩ | ⟨-, he⟩⟩
    · have := hz _ (List.mem_cons_self)
      simp at this
    · refine ⟨hb, ?_⟩
      rw [if_pos rfl, he]
      rfl
  | false =>
    refine (scan14 (some ⟨b, 0, none⟩) (fun W => PAt W F b d) (fun i : Nat => (readS d i, readE d i)) (itemsD d h.ok) (gives_live d h.ok hg) (by rw [itemsD_len]; omega) w (fun W W' hp hb => hp.below hb) hQt hR h).mono ?_
    rintro e w' ⟨hb, ⟨v, -, he, ho⟩ | ⟨⟨x, hx, hne⟩, -⟩⟩
    · refine ⟨hb, ?_⟩
      rw [if_neg (by simp)]
      rw [itemsD_scan] at he ho
      exact ⟨v, he, ho⟩
    · exfalso
      unfold itemsD at hx
      rw [List.mem_map] at hx
      obtain ⟨i, -, rfl⟩ := hx
      exact hne rfl

set_option maxRecDepth 100000 in
theorem exNil (w : World) : Calls Tryz.prog 80 #[.pointer none] w fun e w' => e = .returned (.bool false) ∧ w = w' := by
  go_enter Tryz.func80, Tryz.ntmps80
  go_wp2
  go_ret
  exact ⟨rfl, rfl⟩
set_option maxRecDepth 100000 in
set_option maxHeartbeats 400000 in
theorem readNil (i : Int) (w : World) :
    Calls Tryz.prog 193 #[.pointer none, .int .i64 i] w fun e w' => e = .returned (.tuple #[.string ByteArray.empty, .int .i64 1]) ∧ Below w.heap.size w w' := by
  have HE := Lib.hid (exNil w)
  go_enter Tryz.func193, Tryz.ntmps193
  go_wp2_with (go_at_call 80; refine HE.out.mono ?_; rintro e w' ⟨rfl, rfl⟩)
  go_ret2
  exact ⟨rfl, Below.refl _ _⟩
set_option maxRecDepth 100000 in
theorem scanNil (w : World) :
    Calls Tryz.prog 128 #[.pointer none] w fun e w' => Below w.heap.size w w' ∧ e = .returned (.tuple #[.slice none 0 0, .int .i64 0, .int .i64 0, .int .i64 1]) := by
  refine (scan14 none (fun _ => True) (fun _ => (ByteArray.empty, 1)) [⟨(ByteArray.empty, 1), fun h => by simp at h⟩] ⟨fun i h => ?_, fun h => ?_⟩ (by simp) w (fun _ _ _ _ => trivial) (fun _ _ _ _ => trivial) (fun W _ i => readNil i W) trivial).mono ?_
  · have h0 : i = 0 := by simp at h; exact h
    subst h0
    exact ⟨rfl, by simp, fun _ => rfl⟩
  · have := h _ (List.mem_cons_self)
    simp at this
  · rintro e w' ⟨hb, ⟨v, hz, -⟩ | ⟨-, he⟩⟩
    · have := hz _ (List.mem_cons_self)
      simp at this
    · exact ⟨hb, he⟩

/-! ### The tape in memory -/
def logRow (b : Nat) (t : T) : Array Value := #[.pointer (some ⟨b, 0, none⟩), .int .i64 (t.life : Int), .int .i64 (t.count : Int), .int .i64 (t.pos : Int), .int .i64 t.err]
structure LogAt (w : World) (bt bl b : Nat) (t : T) : Prop where
  rt : w.heap[bt]? = some (.cells #[.pointer (some ⟨bl, 0, none⟩)] 203 (0, 0))
  rl : w.heap[bl]? = some (.cells (logRow b t) 201 (0, 0))
set_option maxRecDepth 100000 in
theorem great_lt (l : List ByteArray) : (scanL l).great < 4294967296 := by
  unfold scanL
  rw [show l = l.reverse.reverse by simp]
  generalize l.reverse = m
  induction m with
  | nil => simp [rd0]
  | cons a m ih =>
    rw [List.reverse_cons, List.foldl_append]
    show (visit _ a).great < _
    rw [visit_eq]
    have hp : (parseS a.data.toList).life < 4294967296 := by
      unfold parseS says
      have h4 : num (a.data.toList.take 4) < 4294967296 := by
        refine Nat.lt_of_lt_of_le (num_lt _) ?_
        exact Nat.pow_le_pow_right (n := 256) (by omega) (show (a.data.toList.take 4).length ≤ 4 by rw [List.length_take]; omega)
      by_cases hb : badSize a.data.toList = true
      · simp [hb, zeroS]
      · by_cases hv : isValid a.data.toList = true
        · simp only [hb, hv, if_true, Bool.false_eq_true, if_false, Option.getD_some, secOf]
          exact h4
        · simp [hb, hv, zeroS]
    split
    · simp only [rd2]; omega
    · unfold takeS
      split <;> (simp only [rd2]; omega)
set_option maxRecDepth 100000 in
theorem occ_le (l : List ByteArray) : (scanL l).occ ≤ l.length := by
  have hv : ∀ l, (scanL l).vis = l.length := fun l => (scanL_ok l).2.2.2
  unfold scanL at hv ⊢
  rw [show l = l.reverse.reverse by simp]
  generalize l.reverse = m
  induction m with
  | nil => simp [rd0]
  | cons a m ih =>
    have hv' := hv m.reverse
    rw [List.reverse_cons, List.foldl_append, List.length_append]
    show (visit _ a).occ ≤ _
    rw [visit_eq]
    split
    · simp only [rd2]; omega
    · unfold takeS
      split
      · simp only [rd2, List.length_singleton]; omega
      · simp only [rd2]; omega
end Go.Proofs.YtjanddnlhaionaaGreatDoor.L6
