/-
  What SpanOne asks of rows and of what they differ by. No condition.
-/
import Derived.Test.YtecefhoinggmgaaPF
namespace Go.Proofs.Ytecefhoinggmgaa

/-- The last of some numbers that is not behind t. -/
theorem last_le (t : Int) : ∀ B : List Int, (∀ x ∈ B, t < x) ∨ ∃ c ∈ B, c ≤ t ∧ ∀ x ∈ B, ¬ (c < x ∧ x < t + 1)
  | [] => .inl (fun _ h => by cases h)
  | y :: B => by
    rcases last_le t B with h | ⟨c, hc, h1, h2⟩
    · by_cases hy : y ≤ t
      · refine .inr ⟨y, List.mem_cons_self, hy, fun x hx => ?_⟩
        rcases List.mem_cons.1 hx with e | e
        · omega
        · have := h x e; omega
      · refine .inl fun x hx => ?_
        rcases List.mem_cons.1 hx with e | e
        · omega
        · exact h x e
    · by_cases hy : c ≤ y ∧ y ≤ t
      · refine .inr ⟨y, List.mem_cons_self, hy.2, fun x hx => ?_⟩
        rcases List.mem_cons.1 hx with e | e
        · omega
        · have := h2 x e; omega
      · refine .inr ⟨c, List.mem_cons_of_mem _ hc, h1, fun x hx => ?_⟩
        rcases List.mem_cons.1 hx with e | e
        · omega
        · exact h2 x e

def sameB (a b : List Row) (r : Row) : Bool := decide (atR a r.1 = atR b r.1) && decide (atR a r.2.1 = atR b r.2.1)

theorem at_lk {a b : List Row} (ha : rowsOK a = true) (hb : rowsOK b = true) {t : Int} (h : atR a t = atR b t) : lk a t = lk b t := by
  rw [at_eq ha, at_eq hb] at h
  have h1 : gv a t = gv b t := by injection h
  rw [← nzv_gv ha, ← nzv_gv hb, h1]

theorem one_all {a b : List Row} (ha : rowsOK a = true) (hb : rowsOK b = true) : (a ++ b).all (sameB a b) = decide (a = b) := by
  by_cases hab : a = b
  · rw [decide_eq_true hab]
    subst hab
    rw [List.all_eq_true]
    intro r _
    unfold sameB
    simp
  · rw [decide_eq_false hab]
    rw [Bool.eq_false_iff]
    intro hall
    apply hab
    rw [List.all_eq_true] at hall
    have ca := ((rowsOK_iff a).1 ha).2.1
    have cb := ((rowsOK_iff b).1 hb).2.1
    have hB : ∀ c ∈ boundsL [] (a ++ b), lk a c = lk b c := fun c hc => by
      rcases (boundsL_mem (a ++ b) [] c).1 hc with h | ⟨x, hx, e⟩
      · cases h
      · have hs := hall x hx
        unfold sameB at hs
        rw [Bool.and_eq_true, decide_eq_true_eq, decide_eq_true_eq] at hs
        rcases e with e | e
        · rw [e]; exact at_lk ha hb hs.1
        · rw [e]; exact at_lk ha hb hs.2
    have ma : ∀ x ∈ a, x.1 ∈ boundsL [] (a ++ b) ∧ x.2.1 ∈ boundsL [] (a ++ b) := fun x hx =>
      ⟨(boundsL_mem _ _ _).2 (.inr ⟨x, List.mem_append_left _ hx, .inl rfl⟩), (boundsL_mem _ _ _).2 (.inr ⟨x, List.mem_append_left _ hx, .inr rfl⟩)⟩
    have mb : ∀ x ∈ b, x.1 ∈ boundsL [] (a ++ b) ∧ x.2.1 ∈ boundsL [] (a ++ b) := fun x hx =>
      ⟨(boundsL_mem _ _ _).2 (.inr ⟨x, List.mem_append_right _ hx, .inl rfl⟩), (boundsL_mem _ _ _).2 (.inr ⟨x, List.mem_append_right _ hx, .inr rfl⟩)⟩
    refine canon_eq ca cb fun t _ => ?_
    rcases last_le t (boundsL [] (a ++ b)) with h | ⟨c, hc, h1, h2⟩
    · have na : lk a t = none := lk_no fun x hx hh => by have := h _ (ma x hx).1; omega
      have nb : lk b t = none := lk_no fun x hx hh => by have := h _ (mb x hx).1; omega
      rw [na, nb]
    · rw [← lk_const ma h2 h1 (by omega), ← lk_const mb h2 h1 (by omega)]
      exact hB c hc

theorem ce_next {α : Type} : ∀ {l : List (Seg α)} {lo : Int}, Up lo l → ∀ i (h : i + 1 < l.length), (l[i]'(by omega)).2.1 ≤ l[i + 1].1
  | [], _, _, _, h => by simp at h
  | [_], _, _, _, h => by simp at h
  | _ :: y :: r, _, hu, 0, _ => hu.2.2.1
  | _ :: y :: r, _, hu, i + 1, h => ce_next (l := y :: r) hu.2.2 i (by simpa using h)

theorem diff_begin {a b : List Row} (ha : rowsOK a = true) (hb : rowsOK b = true) :
    ∀ p ∈ diffR a b, (atR a p.1).1 = p.2.2.1 ∧ (atR b p.1).1 = p.2.2.2 ∧ p.2.2.1 ≠ p.2.2.2 := by
  obtain ⟨h1, h2⟩ := diff_sem ha hb
  intro p hp
  have hlt := (up_all h1.up p hp).2
  have e := lk_mem h1.up hp (Int.le_refl _) hlt
  rw [h2] at e
  rw [at_eq ha, at_eq hb]
  by_cases hg : gv a p.1 = gv b p.1
  · rw [if_pos hg] at e; cases e
  · rw [if_neg hg] at e
    injection e with e
    rw [← e]
    exact ⟨rfl, rfl, hg⟩
theorem diff_up {a b : List Row} (ha : rowsOK a = true) (hb : rowsOK b = true) : Up 0 (diffR a b) := (diff_sem ha hb).1.up
end Go.Proofs.Ytecefhoinggmgaa
