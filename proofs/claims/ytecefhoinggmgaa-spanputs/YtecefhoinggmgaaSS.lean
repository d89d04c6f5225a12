/-
  append of rows that came in to a row of one's own. No condition.
-/
import Derived.Test.YtecefhoinggmgaaSK
import Derived.Deep.AppendSrc
import Derived.Maps.AppendAt
namespace Go.Proofs.Ytecefhoinggmgaa
open Go.RowKit

theorem rows_cells {w : World} {b o : Nat} : ∀ {l : List Row}, (∀ i (h : i < l.length), RowAt w b (o + i * 5) l[i]) → ∀ j u, (rcells l)[j]? = some u → w.cell? ((⟨b, o, none⟩ : Addr).add j) = some u := by
  intro l h j u hj
  have hlt : j < (rcells l).length := (List.getElem?_eq_some_iff.1 hj).1
  rw [rcells_length] at hlt
  have hi : j / 5 < l.length := by omega
  have hr := h (j / 5) hi
  have e := rcells_get l (j / 5) (j % 5) hi (by omega)
  have ej : j / 5 * 5 + j % 5 = j := by omega
  rw [ej, hj] at e
  obtain ⟨c0, c1, c2, c3, c4⟩ := hr
  rw [show (⟨b, o, none⟩ : Addr).add j = ⟨b, o + j, none⟩ by simp [Addr.add]]
  have hm : j % 5 = 0 ∨ j % 5 = 1 ∨ j % 5 = 2 ∨ j % 5 = 3 ∨ j % 5 = 4 := by omega
  rcases hm with hm | hm | hm | hm | hm
  · rw [hm] at e; rw [show o + j = o + j / 5 * 5 by omega, c0]; exact e.symm
  · rw [hm] at e; rw [show o + j = o + j / 5 * 5 + 1 by omega, c1]; exact e.symm
  · rw [hm] at e; rw [show o + j = o + j / 5 * 5 + 2 by omega, c2]; exact e.symm
  · rw [hm] at e; rw [show o + j = o + j / 5 * 5 + 3 by omega, c3]; exact e.symm
  · rw [hm] at e; rw [show o + j = o + j / 5 * 5 + 4 by omega, c4]; exact e.symm

theorem run_append_rows (w : World) (ty : TypeId) (n₀ : Nat) (v x : Value) (l l2 : List Row) (h : OwnR w n₀ v l) (hn : n₀ ≤ w.heap.size) (hx : RowsAt w w.heap.size x l2) (hl : l.length + l2.length ≤ 1000000) :
    ∃ v' w', (Builtin.append_ #[22, 22] ty #[v, x]).run Try.prog w = .ok v' w' ∧ OwnR w' n₀ v' (l ++ l2) ∧ w.grownBy w' v.ownBlock ∧ (v'.ownBlock = v.ownBlock ∨ v'.ownBlock = some w.heap.size) := by
  obtain ⟨i0, hi, hz0, hz1, hz2⟩ := info_parts Try.info52
  obtain ⟨A, c, rfl, h1, h2, h3⟩ := hx
  have hu : Try.prog.underlying 22 = some (.slice 52) := Try.underlying22
  have own : ∀ {w' : World} {v' : Value}, w'.ownsRow n₀ 52 5 v' (l.length + l2.length) (rcells l ++ rcells l2) → OwnR w' n₀ v' (l ++ l2) := fun h => by
    unfold OwnR
    rw [List.length_append, rcells_append]
    exact h
  cases A with
  | some ad =>
    have hnews : ∀ j u, (rcells l2)[j]? = some u → w.cell? (ad.add j) = some u := by
      by_cases h0 : 0 < l2.length
      · obtain ⟨b, o, e, _, hr⟩ := h3 h0
        injection e with e
        subst e
        exact rows_cells hr
      · have : l2 = [] := List.eq_nil_of_length_eq_zero (by omega)
        subst this
        intro j u hj
        simp [rcells] at hj
    obtain ⟨v', w', r1, r2, r3, -, r4⟩ := run_append_own_at (P := Try.prog) w n₀ 22 ty 52 i0 _ 5 48 hu hi hz0 hz1 hz2 rfl (by omega) v l.length (rcells l) h ad l2.length c (rcells l2) (rcells_length l2) hnews (rcells_one l2) (by unfold maxLen; omega) (by omega) hn
    exact ⟨v', w', r1, own r2, r3, r4⟩
  | none =>
    have h0 : l2 = [] := by
      cases l2 with
      | nil => rfl
      | cons y ys =>
        obtain ⟨b, o, e, _⟩ := h3 (by simp)
        cases e
    subst h0
    rw [List.append_nil]
    refine ⟨v, w, ?_, h, ⟨rfl, rfl, rfl, Nat.le_refl _, fun _ _ _ => rfl⟩, .inl rfl⟩
    rcases h.2 with ⟨rfl, e0⟩ | ⟨g, cap, cur, rfl, hb, hg, hnc, hcm, _, htake⟩
    · simp [Builtin.append_, run_underlying hu, sizeOf, typeInfo, hi, Builtin.lenOf, Builtin.firstCells]
    · have := run_append_room_src (P := Try.prog) w 22 22 ty 52 i0 hu hi g 0 l.length cap (.slice none 0 c) 0 [] (Src.ofNil w hu c) (by omega) (fun j hj => by simp at hj) (fun j hj => by simp at hj)
      exact this

theorem wpList_append_rows {w : World} {ops : Array Oper} {rest : List Oper} {o : Oper} {a : Act} {Q : Exit → Act → World → Prop} (hgd : o.guard = none) (s x : Operand)
    (ho : o.op = .call { callee := .builtin .append, args := #[s, x], argTypes := #[22, 22] })
    (n₀ : Nat) (v xv : Value) (l l2 : List Row) (hs : a.eval s = v) (hx : a.eval x = xv) (h : OwnR w n₀ v l) (hn : n₀ ≤ w.heap.size) (hr : RowsAt w w.heap.size xv l2) (hl : l.length + l2.length ≤ 1000000)
    (hk : ∀ v' w', OwnR w' n₀ v' (l ++ l2) → w.grownBy w' v.ownBlock → (v'.ownBlock = v.ownBlock ∨ v'.ownBlock = some w.heap.size) → wpList Try.prog ops Q rest (a.put o.dst v') w') :
    wpList Try.prog ops Q (o :: rest) a w := by
  refine wpList_plain hgd fun K hK => ?_
  obtain ⟨v', w', hr, h2, h3, h4⟩ := run_append_rows w o.type n₀ v xv l l2 h hn hr hl
  unfold Oper.wp execOp
  simp only [ho, resolve, invoke, builtin, Sem.run_bind, Sem.run_pure, Result.andThen_ok, List.map_toArray, List.map_cons, List.map_nil, hs, hx, hr]
  exact hK _ _ (hk v' w' h2 h3 h4)

/-- A literal of no rows is one's own. -/
theorem own_lit0 (w : World) (n₀ : Nat) (hn : n₀ ≤ w.heap.size) : OwnR (w.alloc (.cells #[] 52)) n₀ (.slice (some ⟨w.heap.size, 0, none⟩) 0 0) [] :=
  ⟨rfl, .inr ⟨w.heap.size, 0, #[], rfl, hn, heap_alloc_new w _, Nat.le_refl _, Nat.zero_le _, rfl, rfl⟩⟩
/-- A row of one's own that grew: all below is as it was. -/
theorem below_grown {w w' : World} {n₀ : Nat} {v : Value} {l : List Row} (h : OwnR w n₀ v l) (hn : n₀ ≤ w.heap.size) (hg : w.grownBy w' v.ownBlock) : Below n₀ w w' :=
  ⟨hg.os, hg.tape, hg.output, hg.size, fun i hi => by
    rcases h.2 with ⟨rfl, _⟩ | ⟨g, cap, cur, rfl, hb, hgg, _⟩
    · exact hg.block i (by omega) (by simp [Value.ownBlock])
    · refine hg.block i (by omega) (fun e => ?_)
      have : i = g := by simpa [Value.ownBlock] using e
      omega⟩
end Go.Proofs.Ytecefhoinggmgaa
