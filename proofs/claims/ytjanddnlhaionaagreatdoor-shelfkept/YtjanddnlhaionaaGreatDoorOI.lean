/-
  A row of cells that grows, its lists in new memory: for listCell. No condition.
-/
import Derived.Test.YtjanddnlhaionaaGreatDoorOH
namespace Go.Proofs.YtjanddnlhaionaaGreatDoor
open Go.RowKit
open L4 (C LIn LNF Unf Wf rcells rowC)
open L2 (Row Vl RowsAt rowsOK valOK)

set_option maxRecDepth 100000 in
theorem lin_up {w : World} {S : Nat → Prop} : ∀ {d d' : Nat} {v : Value} {l : List C}, LIn w S d v l → d ≤ d' → LIn w S d' v l := fun h hd => L4.LIn.up h hd

/-- The slice v is the call's own, from base on, and holds the cells D; their lists lie in other new blocks. -/
structure OwnN (w : World) (base : Nat) (v : Value) (D : List (C × Value)) : Prop where
  row : w.ownsRow base 38 4 v D.length (rcells D)
  subs : ∀ x ∈ D, Wf x.1 ∧ ∃ d, LIn w (fun b => b < w.heap.size ∧ Unf base w b ∧ some b ≠ v.ownBlock) d x.2 x.1.l

set_option maxRecDepth 100000 in
theorem OwnN.nil (w : World) (base : Nat) : OwnN w base (.slice none 0 0) [] := ⟨World.ownsRow_nil w base 38 4, by simp⟩
set_option maxRecDepth 100000 in
theorem OwnN.slice {w : World} {base : Nat} {v : Value} {D : List (C × Value)} (h : OwnN w base v D) : ∃ A cap, v = .slice A D.length cap := by
  rcases h.row.2 with ⟨rfl, h0⟩ | ⟨g, cap, _, rfl, _⟩
  · exact ⟨none, 0, by rw [h0]⟩
  · exact ⟨_, cap, rfl⟩
set_option maxRecDepth 100000 in
theorem OwnN.step {w w' : World} {base : Nat} {v : Value} {D : List (C × Value)} (h : OwnN w base v D) (hb : Below w.heap.size w w') : OwnN w' base v D := by
  refine ⟨World.ownsRow.kept h.row (row := none) ⟨hb.os, hb.tape, hb.output, hb.size, fun i hi _ => hb.block i hi⟩ ?_, fun x hx => ?_⟩
  · cases hv : v.ownBlock with
    | none => exact .inl rfl
    | some k => exact .inr (by simp)
  · obtain ⟨h1, d, h2⟩ := h.subs x hx
    refine ⟨h1, d, h2.keep (fun b hb' => ⟨Nat.lt_of_lt_of_le hb'.1 hb.size, hb'.2.1.keep (hb.block b hb'.1), hb'.2.2⟩) fun b o hb' => L4.cell_same (hb.block b hb'.1) o⟩
set_option maxRecDepth 100000 in
theorem depth_all {w : World} {S : Nat → Prop} : ∀ (D : List (C × Value)), (∀ x ∈ D, ∃ d, LIn w S d x.2 x.1.l) → ∃ d, ∀ x ∈ D, LIn w S d x.2 x.1.l
  | [], _ => ⟨0, by simp⟩
  | x :: D, h => by
    obtain ⟨d1, h1⟩ := h x (by simp)
    obtain ⟨d2, h2⟩ := depth_all D (fun y hy => h y (by simp [hy]))
    refine ⟨Nat.max d1 d2, fun y hy => ?_⟩
    rcases List.mem_cons.1 hy with rfl | hy
    · exact lin_up h1 (Nat.le_max_left _ _)
    · exact lin_up (h2 y hy) (Nat.le_max_right _ _)
set_option maxRecDepth 100000 in
theorem OwnN.lnf {w : World} {base : Nat} {v : Value} {D : List (C × Value)} (h : OwnN w base v D) (h0 : 0 < base) : ∃ d, LNF base w w.heap.size d v (D.map (·.1)) := by
  rcases h.row.2 with ⟨rfl, h00⟩ | ⟨g, cap, cur, rfl, hb, hg, hnc, hcm, _, htake⟩
  · have : D = [] := List.length_eq_zero_iff.1 h00
    subst this
    exact ⟨1, lnf_nil _ _ _ _⟩
  · obtain ⟨d, hd⟩ := depth_all D (fun x hx => (h.subs x hx).2)
    refine ⟨d + 1, some ⟨g, 0, none⟩, cap, by rw [List.length_map], by rw [List.length_map]; exact hnc, hcm, fun _ => ⟨g, 0, rfl, (Array.getElem?_eq_some_iff.1 hg).1, fun i hi => ?_⟩⟩
    rw [List.length_map] at hi
    have hc : ∀ j, j < 4 → w.cell? ⟨g, 0 + i * 4 + j, none⟩ = (rowC D[i])[j]? := fun j hj => by
      rw [Nat.zero_add, cell_of_row w g (i * 4 + j) cur 38 (0, 0) hg, ← L4.rcells_get D i j hi hj, ← htake, List.getElem?_take, if_pos (by omega), Array.getElem?_toList]
    have hw := (h.subs D[i] (List.getElem_mem hi)).1
    have hs := hd D[i] (List.getElem_mem hi)
    refine ⟨D[i].2, ?_, by simpa using hw, ⟨hb, fun _ => ⟨_, _, hg⟩⟩, by simp [World.frozen?, hg], ?_⟩
    · simp only [List.getElem_map]
      exact ⟨hc 0 (by omega), hc 1 (by omega), hc 2 (by omega), hc 3 (by omega)⟩
    · simp only [List.getElem_map]
      exact LIn.lnf (fun b hb => ⟨hb.1, hb.2.1, hb.2.1.frozen h0⟩) hs

set_option maxRecDepth 100000 in
theorem OwnN.snoc {wr w2 w' : World} {base d : Nat} {v : Value} {D : List (C × Value)} {c : C} {u : Value} {g cap : Nat} {o : Obj} (h0 : OwnN wr base v D) (hb : base ≤ wr.heap.size) (h2 : OwnN w2 base v D)
    (hL : LNF wr.heap.size w2 w2.heap.size d u c.l) (hwf : Wf c) (ho : w'.ownsRow base 38 4 (.slice (some ⟨g, 0, none⟩) (D.length + 1) cap) (D.length + 1) (rcells D ++ rowC (c, u)))
    (hg : (w2.alloc o).grownBy w' v.ownBlock) (hgl : v.ownBlock = some g ∨ g = w2.heap.size + 1) : OwnN w' base (.slice (some ⟨g, 0, none⟩) (D.length + 1) cap) (D ++ [(c, u)]) := by
  have hsa : (w2.alloc o).heap.size = w2.heap.size + 1 := by simp
  have hsz := hg.size
  have hblk : ∀ b, b < w2.heap.size → some b ≠ v.ownBlock → w'.heap[b]? = w2.heap[b]? := fun b h1 h2 => (hg.block b (by omega) h2).trans (Below.heap_alloc w2 o b h1)
  have hne : ∀ b, b < w2.heap.size → some b ≠ v.ownBlock → some b ≠ (Value.slice (some ⟨g, 0, none⟩) (D.length + 1) cap).ownBlock := by
    intro b h1 h2 e
    simp only [Value.ownBlock, Option.some.injEq] at e
    rcases hgl with h3 | h3
    · exact h2 (by rw [h3, e])
    · omega
  refine ⟨?_, ?_⟩
  · rw [L4.rcells_append, List.length_append]
    exact ho
  · intro x hx
    rcases List.mem_append.1 hx with hx | hx
    · obtain ⟨hw, e, hl⟩ := h2.subs x hx
      exact ⟨hw, e, hl.keep (fun b hb => ⟨by have := hb.1; omega, hb.2.1.keep (hblk b hb.1 hb.2.2), hne b hb.1 hb.2.2⟩) fun b o' hb => L4.cell_same (hblk b hb.1 hb.2.2) o'⟩
    · rw [List.mem_singleton] at hx
      subst hx
      have hnv : ∀ b, wr.heap.size ≤ b → some b ≠ v.ownBlock := fun b hb e => by have := (h0.row.lt b e.symm).2; omega
      refine ⟨hwf, d, (lnf_lin hL).keep (fun b hb' => ?_) fun b o' hb' => L4.cell_same (hblk b hb'.1 (hnv b hb'.2.1)) o'⟩
      obtain ⟨h1, h3, h4⟩ := hb'
      exact ⟨by omega, ⟨by omega, fun hp => by obtain ⟨cs, t, h5⟩ := h4 (by omega); exact ⟨cs, t, (hblk b h1 (hnv b h3)).trans h5⟩⟩, hne b h1 (hnv b h3)⟩

set_option maxRecDepth 100000 in
theorem cntL_const {α : Type} (f : α → C) (k : Nat) (h : ∀ x, L4.cntC (f x) = k) : ∀ l : List α, L4.cntL (l.map f) = k * l.length
  | [] => by rw [List.map_nil, L4.cntL_nil]; rfl
  | x :: l => by rw [List.map_cons, L4.cntL_cons, h, cntL_const f k h l, List.length_cons, Nat.mul_add]; omega
set_option maxRecDepth 100000 in
theorem cnt_row (r : Row) : L4.cntC (rowCl r) = 4 := by
  unfold rowCl listC vC numC textC
  rw [L4.cntC_mk]
  split <;> simp [L4.cntL_cons, L4.cntL_nil, L4.cntC_mk]
set_option maxRecDepth 100000 in
theorem cnt_kid (k : Kd) : L4.cntC (kidCl k) = 3 := by
  unfold kidCl listC numC textC
  rw [L4.cntC_mk]
  simp [L4.cntL_cons, L4.cntL_nil, L4.cntC_mk]
set_option maxRecDepth 100000 in
theorem cnt_text (s : ByteArray) : L4.cntC (textC s) = 1 := by
  unfold textC
  rw [L4.cntC_mk, L4.cntL_nil]
end Go.Proofs.YtjanddnlhaionaaGreatDoor
