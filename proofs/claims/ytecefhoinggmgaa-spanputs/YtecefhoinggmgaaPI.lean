/-
  The document's over: rows that have a value in a span, and else what rows have; and that it is what replace makes. No condition.
-/
import Derived.Test.YtecefhoinggmgaaPD
namespace Go.Proofs.Ytecefhoinggmgaa

def overG (l : List Row) (f e : Int) (v : Vl) (a c : Int) : Vl := if f ≤ a ∧ c ≤ e then v else gv l a
def overB (l : List Row) (f e : Int) : List Int := boundsL (insL (insL [] f) e) l
def overL (l : List Row) (f e : Int) (v : Vl) : List Row := joins kindZ [] (segs (overG l f e v) (overB l f e))

theorem overB_mem (l : List Row) (f e t : Int) : t ∈ overB l f e ↔ (t = f ∨ t = e) ∨ ∃ x ∈ l, t = x.1 ∨ t = x.2.1 := by
  unfold overB
  rw [boundsL_mem, insL_mem, insL_mem]
  constructor
  · rintro ((h | h | h) | h)
    · exact .inl (.inr h)
    · exact .inl (.inl h)
    · cases h
    · exact .inr h
  · rintro ((h | h) | h)
    · exact .inl (.inr (.inl h))
    · exact .inl (.inl h)
    · exact .inr h
theorem overB_inc (l : List Row) (f e : Int) : Inc (overB l f e) := boundsL_inc l (insL_inc e (insL_inc f trivial))

theorem over_segs (l : List Row) (f e : Int) (v : Vl) (t : Int) : lk (segs (overG l f e v) (overB l f e)) t =
    if (∃ a ∈ overB l f e, a ≤ t) ∧ (∃ c ∈ overB l f e, t < c) then some (if f ≤ t ∧ t < e then v else gv l t) else none := by
  refine segs_lk (overG l f e v) (fun t => if f ≤ t ∧ t < e then v else gv l t) (overB_inc l f e) (fun a c t ha hc hn h1 h2 h3 => ?_) t
  have nf := hn f ((overB_mem l f e f).2 (.inl (.inl rfl)))
  have ne := hn e ((overB_mem l f e e).2 (.inl (.inr rfl)))
  unfold overG
  by_cases hi : f ≤ a ∧ c ≤ e
  · rw [if_pos hi]
    exact (if_pos (by omega)).symm
  · rw [if_neg hi]
    have hk : lk l a = lk l t := lk_const (fun x hx => ⟨(overB_mem l f e _).2 (.inr ⟨x, hx, .inl rfl⟩), (overB_mem l f e _).2 (.inr ⟨x, hx, .inr rfl⟩)⟩) hn h2 h3
    have hg : gv l a = gv l t := by unfold gv; rw [hk]
    rw [hg]
    exact (if_neg (by omega)).symm

theorem over_sem {l : List Row} {f e : Int} (hl : rowsOK l = true) (hs : isSpanB f e = true) (v : Vl) :
    (∃ E, CE 0 none (overL l f e v) E) ∧ ∀ t, lk (overL l f e v) t = if f ≤ t ∧ t < e then nzv v else lk l t := by
  obtain ⟨s0, s1, s2⟩ := isSpanB_iff.1 hs
  have hce := ((rowsOK_iff l).1 hl).2.1
  have hB0 : ∀ b ∈ overB l f e, 0 ≤ b := fun b hb => by
    rcases (overB_mem l f e b).1 hb with (h | h) | ⟨x, hx, h⟩
    · omega
    · omega
    · have := up_all hce.up x hx
      rcases h with h | h <;> omega
  have hU : Up 0 (segs (overG l f e v) (overB l f e)) := by
    have hi := overB_inc l f e
    cases hb : overB l f e with
    | nil => trivial
    | cons a r =>
      rw [hb] at hi hB0
      exact (segs_up _ hi).from_ (hB0 a List.mem_cons_self)
  obtain ⟨j1, j2⟩ := joins_nil kindZ _ hU
  refine ⟨j1, fun t => ?_⟩
  unfold overL
  rw [j2 t, over_segs]
  by_cases hc : (∃ a ∈ overB l f e, a ≤ t) ∧ (∃ c ∈ overB l f e, t < c)
  · rw [if_pos hc]
    show nzv (if f ≤ t ∧ t < e then v else gv l t) = _
    by_cases hi : f ≤ t ∧ t < e
    · rw [if_pos hi, if_pos hi]
    · rw [if_neg hi, if_neg hi]
      exact nzv_gv hl t
  · rw [if_neg hc, if_neg (fun hi => hc ⟨⟨f, (overB_mem l f e f).2 (.inl (.inl rfl)), hi.1⟩, ⟨e, (overB_mem l f e e).2 (.inl (.inr rfl)), hi.2⟩⟩)]
    cases hk : lk l t with
    | none => rfl
    | some u =>
      obtain ⟨x, hx, h1, h2, _⟩ := lk_bound hk
      exact (hc ⟨⟨x.1, (overB_mem l f e _).2 (.inr ⟨x, hx, .inl rfl⟩), h1⟩, ⟨x.2.1, (overB_mem l f e _).2 (.inr ⟨x, hx, .inr rfl⟩), h2⟩⟩).elim

/-- The document's over is what replace makes with the one piece. -/
theorem over_repl {l : List Row} {p : Pc} (hl : rowsOK l = true) (hs : isSpanB p.1 p.2.1 = true) : overL l p.1 p.2.1 p.2.2.2 = replL [p] (strA l [p]) := by
  obtain ⟨⟨E, o1⟩, o2⟩ := over_sem hl hs p.2.2.2
  obtain ⟨ho, hu⟩ := one_left hs
  obtain ⟨r1, r2, _⟩ := repl_sem hl ho hu
  refine canon_eq o1 r1 fun t _ => ?_
  rw [o2 t, r2 t]
  unfold overV
  rw [lk, lk]
  by_cases hc : p.1 ≤ t ∧ t < p.2.1
  · rw [if_pos hc, if_pos hc]
  · rw [if_neg hc, if_neg hc]

theorem segs_length {α : Type} (g : Int → Int → α) : ∀ (b : List Int), (segs g b).length = b.length - 1
  | [] => rfl
  | [_] => rfl
  | _ :: b :: r => by
    show (segs g (b :: r)).length + 1 = _
    rw [segs_length g (b :: r)]
    simp
end Go.Proofs.Ytecefhoinggmgaa
