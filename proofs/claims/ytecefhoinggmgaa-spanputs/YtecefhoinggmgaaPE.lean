/-
  What Clip comes to, time by time. No condition.
-/
import Derived.Test.YtecefhoinggmgaaPD
namespace Go.Proofs.Ytecefhoinggmgaa

def clipO (f t : Int) (r : Row) : Option Row := if max r.1 f < min r.2.1 t then some (clip1 f t r) else none

theorem dropWhile_none : ∀ {l : List Row} {lo f : Int}, Up lo l → f < lo → l.dropWhile (fun r => decide (r.2.1 ≤ f)) = l
  | [], _, _, _, _ => rfl
  | r :: rs, lo, f, h, hlo => by
    have h1 := h.1
    have h2 := h.2.1
    rw [List.dropWhile_cons, if_neg (by simp; omega)]
theorem clipO_late {l : List Row} {lo f t : Int} (h : Up lo l) (ht : t ≤ lo) : l.filterMap (clipO f t) = [] := by
  rw [List.filterMap_eq_nil_iff]
  intro r hr
  have := up_all h r hr
  unfold clipO
  rw [if_neg (by omega)]
theorem ovl_filter : ∀ {l : List Row} {lo f t : Int}, Up lo l → f < t → (ovl l f t).map (clip1 f t) = l.filterMap (clipO f t)
  | [], _, _, _, _, _ => rfl
  | r :: rs, lo, f, t, h, hft => by
    obtain ⟨h1, h2, h3⟩ := h
    have ih := ovl_filter h3 hft
    unfold ovl at ih ⊢
    rw [List.dropWhile_cons, List.filterMap_cons]
    by_cases hc : r.2.1 ≤ f
    · rw [if_pos (by simpa using hc), ih]
      have : clipO f t r = none := by unfold clipO; rw [if_neg (by omega)]
      rw [this]
    · rw [if_neg (by simpa using hc), List.takeWhile_cons]
      rw [dropWhile_none h3 (by omega)] at ih
      by_cases hd : r.1 < t
      · have : clipO f t r = some (clip1 f t r) := by unfold clipO; rw [if_pos (by omega)]
        rw [if_pos (by simpa using hd), this, List.map_cons, ih]
      · have : clipO f t r = none := by unfold clipO; rw [if_neg (by omega)]
        rw [if_neg (by simpa using hd), this, clipO_late h3 (by omega)]; rfl

theorem shrink_ce (g : Row → Option Row) (M : Int) :
    ∀ {l : List Row} {lo E : Int} {pv : Option Vl} {lo0 : Int} {pv0 : Option Vl}, (∀ r ∈ l, ∀ x, g r = some x → r.1 ≤ x.1 ∧ x.1 < x.2.1 ∧ x.2.1 ≤ r.2.1 ∧ x.2.2 = r.2.2 ∧ x.2.1 ≤ M) →
      CE lo pv l E → lo0 ≤ M → (lo0 < lo ∨ (lo0 = lo ∧ (pv0 = pv ∨ pv0 = none))) → CE lo0 pv0 (l.filterMap g) M
  | [], _, _, _, _, _, _, _, hM, _ => hM
  | r :: rs, lo, E, pv, lo0, pv0, hg, h, hM, hp => by
    obtain ⟨h1, h2, h3, h4⟩ := h
    have hg' : ∀ q ∈ rs, ∀ x, g q = some x → q.1 ≤ x.1 ∧ x.1 < x.2.1 ∧ x.2.1 ≤ q.2.1 ∧ x.2.2 = q.2.2 ∧ x.2.1 ≤ M := fun q hq => hg q (List.mem_cons_of_mem _ hq)
    rw [List.filterMap_cons]
    cases hgr : g r with
    | none => exact shrink_ce g M hg' h4 hM (.inl (by omega))
    | some x =>
      obtain ⟨a1, a2, a3, a4, a5⟩ := hg r List.mem_cons_self x hgr
      refine ⟨by omega, a2, fun hh => ?_, shrink_ce g M hg' h4 a5 ?_⟩
      · rcases hp with hp | ⟨hp1, hp2⟩
        · omega
        · rcases hp2 with hp2 | hp2
          · exact h3 ⟨by omega, by rw [← hp2, hh.2, a4]⟩
          · rw [hp2] at hh; cases hh.2
      · by_cases hx : x.2.1 = r.2.1
        · exact .inr ⟨hx, .inl (by rw [a4])⟩
        · exact .inl (by omega)

theorem clipO_some {f t : Int} {r x : Row} (h : clipO f t r = some x) : r.1 ≤ x.1 ∧ x.1 < x.2.1 ∧ x.2.1 ≤ r.2.1 ∧ x.2.2 = r.2.2 ∧ x = (max r.1 f, min r.2.1 t, r.2.2) := by
  unfold clipO at h
  split at h
  · rename_i hc
    injection h with h
    subst h
    exact ⟨by show r.1 ≤ max r.1 f; omega, hc, by show min r.2.1 t ≤ r.2.1; omega, rfl, rfl⟩
  · cases h
theorem clip_lk (f t : Int) : ∀ (l : List Row) (s : Int), lk (l.filterMap (clipO f t)) s = if f ≤ s ∧ s < t then lk l s else none
  | [], s => by split <;> rfl
  | r :: rs, s => by
    rw [List.filterMap_cons]
    have ih := clip_lk f t rs s
    cases hgr : clipO f t r with
    | none =>
      have hn : ¬ max r.1 f < min r.2.1 t := by
        unfold clipO at hgr
        split at hgr
        · cases hgr
        · assumption
      simp only
      rw [ih, lk]
      split
      · rename_i hc
        rw [if_neg (by omega)]
      · rfl
    | some x =>
      obtain ⟨_, _, _, _, e⟩ := clipO_some hgr
      subst e
      simp only
      rw [lk, ih, lk]
      simp only
      by_cases hc : f ≤ s ∧ s < t
      · rw [if_pos hc, if_pos hc]
        by_cases hd : r.1 ≤ s ∧ s < r.2.1
        · rw [if_pos (by omega), if_pos hd]
        · rw [if_neg (by omega), if_neg hd]
      · rw [if_neg hc, if_neg hc, if_neg (by omega)]

theorem clip_sem {l : List Row} (hl : rowsOK l = true) (f t : Int) :
    rowsOK (clipR l f t) = true ∧ (clipR l f t).length ≤ l.length ∧ (∀ s, lk (clipR l f t) s = if f ≤ s ∧ s < t then lk l s else none) ∧ clipR l f t = l.filterMap (clipO f t) := by
  obtain ⟨h1, h2, h3⟩ := (rowsOK_iff l).1 hl
  have he : clipR l f t = l.filterMap (clipO f t) := by
    unfold clipR
    rw [hl]
    by_cases hft : f < t
    · rw [decide_eq_true hft]
      exact ovl_filter h2.up hft
    · rw [decide_eq_false hft]
      show [] = _
      symm
      rw [List.filterMap_eq_nil_iff]
      intro r hr
      have := up_all h2.up r hr
      unfold clipO
      rw [if_neg (by omega)]
  rw [he]
  have hlen : (l.filterMap (clipO f t)).length ≤ l.length := List.length_filterMap_le _ _
  refine ⟨(rowsOK_iff _).2 ⟨by omega, ?_, fun x hx => ?_⟩, hlen, clip_lk f t l, rfl⟩
  · refine shrink_ce _ 1099511627776 (fun r hm x hx => ?_) h2 (by omega) (.inr ⟨rfl, .inl rfl⟩)
    obtain ⟨a1, a2, a3, a4, _⟩ := clipO_some hx
    have := ce_ends h2 r hm
    exact ⟨a1, a2, a3, a4, by omega⟩
  · obtain ⟨r, hr, hx⟩ := List.mem_filterMap.1 hx
    obtain ⟨_, _, _, a4, _⟩ := clipO_some hx
    rw [a4]
    exact h3 r hr

/-- Clipping again changes nothing. -/
theorem clip_again {l : List Row} (hl : rowsOK l = true) (f t : Int) : clipR (clipR l f t) f t = clipR l f t := by
  obtain ⟨a1, _, a3, _⟩ := clip_sem hl f t
  obtain ⟨b1, _, b3, _⟩ := clip_sem a1 f t
  refine canon_eq ((rowsOK_iff _).1 b1).2.1 ((rowsOK_iff _).1 a1).2.1 (fun s _ => ?_)
  rw [b3 s, a3 s]
  split <;> rfl
end Go.Proofs.Ytecefhoinggmgaa
