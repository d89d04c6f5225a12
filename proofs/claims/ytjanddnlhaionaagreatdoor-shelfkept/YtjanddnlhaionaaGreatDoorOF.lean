/-
  Lists of cells in new memory; the contracts of rowCell and kidCell. No condition but that numbers are ints.
-/
import Derived.Test.YtjanddnlhaionaaGreatDoorOE
namespace Go.Proofs.YtjanddnlhaionaaGreatDoor
open Go.RowKit
open L4 (C LIn LNF Unf Wf rcells)
open L2 (Row Vl RowsAt rowsOK valOK)

set_option maxRecDepth 100000 in
theorem lnf_lin {lo B : Nat} {w : World} : ∀ {d : Nat} {v : Value} {l : List C}, LNF lo w B d v l → LIn w (fun b => b < B ∧ Unf lo w b) d v l
  | 0, _, _, h => h
  | d + 1, v, l, h => by
    obtain ⟨A, cap, rfl, h1, h2, h3⟩ := h
    refine ⟨A, cap, rfl, h1, h2, fun hl => ?_⟩
    obtain ⟨b, o, rfl, hb, hr⟩ := h3 hl
    obtain ⟨_, _, _, z0, _⟩ := hr 0 hl
    refine ⟨b, o, rfl, ⟨hb, z0⟩, fun i hi => ?_⟩
    obtain ⟨u, r, f, _, _, s⟩ := hr i hi
    exact ⟨u, r, f, lnf_lin s⟩
set_option maxRecDepth 100000 in
theorem lnf_step {lo d : Nat} {w w' : World} {v : Value} {l : List C} (h : LNF lo w w.heap.size d v l) (hb : Below w.heap.size w w') : LNF lo w' w'.heap.size d v l := h.keep hb.size fun k hk => hb.block k hk
set_option maxRecDepth 100000 in
theorem lnf_lo {lo lo' B : Nat} {w : World} (hl : lo' ≤ lo) : ∀ {d : Nat} {v : Value} {l : List C}, LNF lo w B d v l → LNF lo' w B d v l
  | 0, _, _, h => h
  | d + 1, v, l, h => by
    obtain ⟨A, cap, rfl, h1, h2, h3⟩ := h
    refine ⟨A, cap, rfl, h1, h2, fun hz => ?_⟩
    obtain ⟨b, o, rfl, hb, hr⟩ := h3 hz
    refine ⟨b, o, rfl, hb, fun i hi => ?_⟩
    obtain ⟨u, r, f, ⟨z1, z2⟩, zf, s⟩ := hr i hi
    exact ⟨u, r, f, ⟨Nat.le_trans hl z1, fun h => z2 (by omega)⟩, zf, lnf_lo hl s⟩
set_option maxRecDepth 100000 in
theorem lnf_up {lo B : Nat} {w : World} : ∀ {d d' : Nat} {v : Value} {l : List C}, LNF lo w B d v l → d ≤ d' → LNF lo w B d' v l
  | 0, _, _, _, h, _ => h.elim
  | d + 1, 0, _, _, _, hd => by omega
  | d + 1, d' + 1, v, l, h, hd => by
    obtain ⟨A, cap, rfl, h1, h2, h3⟩ := h
    refine ⟨A, cap, rfl, h1, h2, fun hz => ?_⟩
    obtain ⟨b, o, rfl, hb, hr⟩ := h3 hz
    refine ⟨b, o, rfl, hb, fun i hi => ?_⟩
    obtain ⟨u, r, f, z, zf, s⟩ := hr i hi
    exact ⟨u, r, f, z, zf, lnf_up s (by omega)⟩
set_option maxRecDepth 100000 in
theorem lnf_nil (lo : Nat) (w : World) (B d : Nat) : LNF lo w B (d + 1) (.slice none 0 0) [] := ⟨none, 0, rfl, Nat.le_refl _, Nat.zero_le _, fun h => by simp at h⟩

set_option maxRecDepth 100000 in
/-- A row of cells just built, whose lists are new. -/
theorem lnf_built {lo : Nat} {w : World} (hlo : lo ≤ w.heap.size) (D : List (C × Value)) (d : Nat) (hD : ∀ x ∈ D, Wf x.1 ∧ LNF lo w w.heap.size d x.2 x.1.l) (hm : D.length ≤ 1000) :
    LNF lo (w.alloc (.cells (rcells D).toArray 38)) (w.alloc (.cells (rcells D).toArray 38)).heap.size (d + 1) (.slice (some ⟨w.heap.size, 0, none⟩) D.length D.length) (D.map (·.1)) := by
  have hg := heap_alloc_new w (.cells (rcells D).toArray 38)
  have hb : Below w.heap.size w (w.alloc (.cells (rcells D).toArray 38)) := (Below.refl _ w).alloc (Nat.le_refl _) _
  have hs : w.heap.size < (w.alloc (.cells (rcells D).toArray 38)).heap.size := by simp
  generalize w.alloc (.cells (rcells D).toArray 38) = w' at hg hb hs
  refine ⟨_, D.length, by rw [List.length_map], by rw [List.length_map]; exact Nat.le_refl _, by unfold maxLen; omega, fun _ => ⟨w.heap.size, 0, rfl, hs, fun i hi => ?_⟩⟩
  rw [List.length_map] at hi
  have hc : ∀ j, j < 4 → w'.cell? ⟨w.heap.size, 0 + i * 4 + j, none⟩ = (L4.rowC D[i])[j]? := fun j hj => by
    rw [Nat.zero_add, cell_of_row w' _ (i * 4 + j) _ 38 (0, 0) hg, ← L4.rcells_get D i j hi hj, List.getElem?_toArray]
  obtain ⟨h1, h2⟩ := hD D[i] (List.getElem_mem hi)
  refine ⟨D[i].2, ?_, by simpa using h1, ⟨hlo, fun _ => ⟨_, _, hg⟩⟩, by simp [World.frozen?, hg], ?_⟩
  · simp only [List.getElem_map]
    exact ⟨hc 0 (by omega), hc 1 (by omega), hc 2 (by omega), hc 3 (by omega)⟩
  · simp only [List.getElem_map]
    exact lnf_step h2 hb

/-- The value of a list's cell. -/
def listV (u : Value) : Value := .agg #[.int .i64 3, .int .i64 0, .string ⟨#[]⟩, u]
/-- What a function that builds the cell of a list comes to. -/
def ListOf (w : World) (l : List C) (e : Ending) (w' : World) : Prop :=
  ∃ A n cap D, e = .returned (.agg #[.int .i64 3, .int .i64 0, .string ⟨#[]⟩, .slice A n cap]) ∧ LNF w.heap.size w' w'.heap.size D (.slice A n cap) l ∧ Below w.heap.size w w'

set_option maxRecDepth 100000 in
theorem set4 (w : World) (B : Nat) (a b c d v0 v1 v2 v3 : Value) (h : w.heap[B]? = some (.cells #[a, b, c, d] 38 (0, 0))) :
    ((((w.setCell ⟨B, 0, none⟩ v0).setCell ⟨B, 1, none⟩ v1).setCell ⟨B, 2, none⟩ v2).setCell ⟨B, 3, none⟩ v3).heap[B]? = some (.cells #[v0, v1, v2, v3] 38 (0, 0)) :=
  heap_setCell_same _ B 3 _ 38 v3 (heap_setCell_same _ B 2 _ 38 v2 (heap_setCell_same _ B 1 _ 38 v1 (heap_setCell_same _ B 0 _ 38 v0 h)))
set_option maxRecDepth 100000 in
theorem set4_other (w : World) (B k : Nat) (v0 v1 v2 v3 : Value) (h : k ≠ B) :
    ((((w.setCell ⟨B, 0, none⟩ v0).setCell ⟨B, 1, none⟩ v1).setCell ⟨B, 2, none⟩ v2).setCell ⟨B, 3, none⟩ v3).heap[k]? = w.heap[k]? := by
  rw [Below.heap_setCell _ ⟨B, 3, none⟩ v3 k h, Below.heap_setCell _ ⟨B, 2, none⟩ v2 k h, Below.heap_setCell _ ⟨B, 1, none⟩ v1 k h, Below.heap_setCell _ ⟨B, 0, none⟩ v0 k h]
set_option maxRecDepth 100000 in
theorem set4_size (w : World) (B : Nat) (v0 v1 v2 v3 : Value) : ((((w.setCell ⟨B, 0, none⟩ v0).setCell ⟨B, 1, none⟩ v1).setCell ⟨B, 2, none⟩ v2).setCell ⟨B, 3, none⟩ v3).heap.size = w.heap.size := by simp
set_option maxRecDepth 100000 in
/-- A list's cell laid into the result's place. -/
theorem ListOf.put {w w3 : World} {l : List C} {B : Nat} {A : Option Addr} {n cap D : Nat} {v0 v1 v2 v3 : Value} (hB : w.heap.size ≤ B) (hl : LNF (B + 1) w3 w3.heap.size D (.slice A n cap) l) (hb : Below w.heap.size w w3) :
    ListOf w l (.returned (.agg #[.int .i64 3, .int .i64 0, .string ⟨#[]⟩, .slice A n cap])) ((((w3.setCell ⟨B, 0, none⟩ v0).setCell ⟨B, 1, none⟩ v1).setCell ⟨B, 2, none⟩ v2).setCell ⟨B, 3, none⟩ v3) := by
  refine ⟨A, n, cap, D, rfl, ?_, hb.trans ⟨rfl, rfl, rfl, by rw [set4_size]; exact Nat.le_refl _, fun k hk => set4_other _ _ _ _ _ _ _ (by omega)⟩⟩
  rw [set4_size]
  have h2 := lnf_lin hl
  refine LIn.lnf (S := fun b => b < w3.heap.size ∧ Unf (B + 1) w3 b) (fun b hb' => ⟨hb'.1, ?_⟩) (h2.keep (fun b h => h) fun b o hb' => L4.cell_same (set4_other _ _ _ _ _ _ _ ?_) o)
  · obtain ⟨-, h3, h4'⟩ := hb'
    obtain ⟨cs, t, h4⟩ := h4' (Nat.succ_pos _)
    have h5 := (set4_other w3 B b v0 v1 v2 v3 (by omega)).trans h4
    exact ⟨⟨by omega, fun _ => ⟨cs, t, h5⟩⟩, fun o => by simp only [World.frozen?, h5]; simp⟩
  · have := hb'.2.1; omega
end Go.Proofs.YtjanddnlhaionaaGreatDoor
