/-
  What Diff finds turns the first rows into the second ones, and changed about, back. No condition.
-/
import Derived.Test.YtecefhoinggmgaaPG
import Derived.Test.YtecefhoinggmgaaSU
namespace Go.Proofs.Ytecefhoinggmgaa

def mapS {α β : Type} (g : α → β) (x : Seg α) : Seg β := (x.1, x.2.1, g x.2.2)
theorem ce_map {α β : Type} (g : α → β) (hg : ∀ x y, g x = g y → x = y) : ∀ {l : List (Seg α)} {lo : Int} {pv : Option α} {E : Int}, CE lo pv l E → CE lo (pv.map g) (l.map (mapS g)) E
  | [], _, _, _, h => h
  | x :: l, lo, pv, E, h => by
    obtain ⟨h1, h2, h3, h4⟩ := h
    refine ⟨h1, h2, fun hh => h3 ⟨hh.1, ?_⟩, ce_map g hg h4⟩
    have h5 : pv.map g = some (g x.2.2) := hh.2
    cases pv with
    | none => cases h5
    | some v =>
      have : g v = g x.2.2 := by injection h5
      rw [hg _ _ this]
theorem lk_map {α β : Type} (g : α → β) (l : List (Seg α)) (t : Int) : lk (l.map (mapS g)) t = (lk l t).map g := by
  induction l with
  | nil => rfl
  | cons x l ih =>
    rw [List.map_cons, lk, lk, ih]
    show (if x.1 ≤ t ∧ t < x.2.1 then some (g x.2.2) else _) = _
    split <;> rfl
theorem ends_le {α : Type} : ∀ {l : List (Seg α)} {lo : Int} {pv : Option α} {E : Int}, CE lo pv l E → ∀ x ∈ l, x.2.1 ≤ E
  | [], _, _, _, _, x, hx => by cases hx
  | y :: l, _, _, _, h, x, hx => by
    rcases List.mem_cons.1 hx with e | e
    · rw [e]; exact h.2.2.2.le
    · exact ends_le h.2.2.2 x e

theorem gv_may {l : List Row} (h : rowsOK l = true) (t : Int) : mayB (gv l t) = true := by
  unfold gv
  cases hk : lk l t with
  | none => rfl
  | some v =>
    obtain ⟨x, hx, _, _, rfl⟩ := lk_bound hk
    have := ((rowsOK_iff l).1 h).2.2 x hx
    unfold mayB
    show (_ || valOK x.2.2) = true
    rw [this, Bool.or_true]

theorem pcs_of_up : ∀ {d : List Pc} {E : Int}, Up E d → 0 ≤ E → (∀ p ∈ d, p.2.1 ≤ 1099511627776 ∧ p.2.2.1 ≠ p.2.2.2 ∧ mayB p.2.2.1 = true ∧ mayB p.2.2.2 = true) → pcsFrom E d = true
  | [], _, _, _, _ => rfl
  | p :: d, E, h, h0, hp => by
    obtain ⟨h1, h2, h3⟩ := h
    obtain ⟨a1, a2, a3, a4⟩ := hp p List.mem_cons_self
    rw [pcsFrom, Bool.and_eq_true]
    refine ⟨?_, pcs_of_up h3 (by omega) (fun q hq => hp q (List.mem_cons_of_mem _ hq))⟩
    unfold pcOK
    rw [decide_eq_false (show ¬ p.1 < E by omega), isSpanB_iff.2 ⟨by omega, h2, a1⟩, decide_eq_false a2, a3, a4]
    rfl

theorem apply_diff {a b : List Row} (ha : rowsOK a = true) (hb : rowsOK b = true) : applyR a (diffR a b) = (b, 0) := by
  obtain ⟨h1, h2⟩ := diff_sem ha hb
  have hbeg := diff_begin ha hb
  generalize hD : diffR a b = d at h1 h2 hbeg
  have hpk : ∀ p ∈ d, p.2.2 = (gv a p.1, gv b p.1) := fun p hp => by
    have e := lk_mem h1.up hp (Int.le_refl _) (up_all h1.up p hp).2
    rw [h2] at e
    by_cases hg : gv a p.1 = gv b p.1
    · rw [if_pos hg] at e; cases e
    · rw [if_neg hg] at e
      injection e with e
      exact e.symm
  have hpc : pcsOK d = true := pcs_of_up h1.up (by omega) fun p hp => by
    refine ⟨ends_le h1 p hp, (hbeg p hp).2.2, ?_, ?_⟩
    · rw [hpk p hp]; exact gv_may ha _
    · rw [hpk p hp]; exact gv_may hb _
  have hlf := pcs_left hpc
  obtain ⟨-, s2, -⟩ := strA_all (left_of_ok ha) hlf
  have hcl : (strA a d).any (clashB d) = false := by
    rw [List.any_eq_false]
    intro x hx
    unfold clashB
    have hs := s2 x hx
    have hr := hs.row x.1.1 (Int.le_refl _) hs.lt
    have hp := hs.pc x.1.1 (Int.le_refl _) hs.lt
    cases hx2 : x.2 with
    | none => simp
    | some i =>
      rw [hx2, h2] at hp
      by_cases hg : gv a x.1.1 = gv b x.1.1
      · rw [if_pos hg] at hp; cases hp
      · rw [if_neg hg] at hp
        have e : (gv a x.1.1, gv b x.1.1) = (d[i]).2.2 := by injection hp
        simp only
        rw [← e, hr]
        simp
  obtain ⟨r1, r2, -⟩ := repl_sem ha hlf h1.up
  have hre : replL d (strA a d) = b := canon_eq r1 ((rowsOK_iff b).1 hb).2.1 fun t _ => by
    rw [r2 t]
    unfold overV
    rw [h2 t]
    by_cases hg : gv a t = gv b t
    · rw [if_pos hg, ← nzv_gv ha, ← nzv_gv hb, hg]
    · rw [if_neg hg]
      exact nzv_gv hb t
  unfold applyR
  rw [ha, hpc, hcl, hre, if_pos ((rowsOK_iff b).1 hb).1]
  rfl

def swapP (p : Pc) : Pc := (p.1, p.2.1, p.2.2.2, p.2.2.1)
theorem diff_swap {a b : List Row} (ha : rowsOK a = true) (hb : rowsOK b = true) : diffR b a = (diffR a b).map swapP := by
  obtain ⟨h1, h2⟩ := diff_sem ha hb
  obtain ⟨k1, k2⟩ := diff_sem hb ha
  have hm := ce_map (fun v : Vl × Vl => (v.2, v.1)) (fun x y h => by
    injection h with e1 e2
    exact Prod.ext e2 e1) h1
  refine canon_eq k1 hm fun t _ => ?_
  rw [show (diffR a b).map swapP = (diffR a b).map (mapS fun v : Vl × Vl => (v.2, v.1)) from rfl, lk_map, k2 t, h2 t]
  by_cases hg : gv a t = gv b t
  · rw [if_pos hg, if_pos hg.symm]; rfl
  · rw [if_neg hg, if_neg (fun e => hg e.symm)]; rfl
end Go.Proofs.Ytecefhoinggmgaa
