/-
  What Diff comes to, time by time. No condition.
-/
import Derived.Test.YtecefhoinggmgaaPE
namespace Go.Proofs.Ytecefhoinggmgaa

theorem up_apart {α : Type} : ∀ {l : List (Seg α)} {lo : Int}, Up lo l → ∀ x ∈ l, ∀ y ∈ l, x = y ∨ x.2.1 ≤ y.1 ∨ y.2.1 ≤ x.1
  | r :: rs, lo, h, x, hx, y, hy => by
    rcases List.mem_cons.1 hx with ex | hx
    · rcases List.mem_cons.1 hy with ey | hy
      · exact .inl (ex.trans ey.symm)
      · rw [ex]; exact .inr (.inl (up_all h.2.2 y hy).1)
    · rcases List.mem_cons.1 hy with ey | hy
      · rw [ey]; exact .inr (.inr (up_all h.2.2 x hx).1)
      · exact up_apart h.2.2 x hx y hy
theorem ce_touch {α : Type} : ∀ {l : List (Seg α)} {lo : Int} {pv : Option α} {E : Int}, CE lo pv l E → ∀ x ∈ l, ∀ y ∈ l, x.2.1 = y.1 → x.2.2 ≠ y.2.2
  | r :: rs, lo, pv, E, h, x, hx, y, hy, e => by
    obtain ⟨h1, h2, h3, h4⟩ := h
    rcases List.mem_cons.1 hx with ex | hx
    · rcases List.mem_cons.1 hy with ey | hy
      · rw [ex, ey] at e; omega
      · rw [ex] at e ⊢
        cases rs with
        | nil => cases hy
        | cons z zs =>
          obtain ⟨c1, c2, c3, c4⟩ := h4
          rcases List.mem_cons.1 hy with ey | hy
          · rw [ey] at e ⊢
            intro hv
            exact c3 ⟨e.symm, by rw [hv]⟩
          · have := (up_all c4.up y hy).1
            omega
    · rcases List.mem_cons.1 hy with ey | hy
      · rw [ey] at e
        have := (up_all h4.up x hx)
        omega
      · exact ce_touch h4 x hx y hy e

theorem gv_some {l : List Row} {t : Int} {v : Vl} (h : gv l t = v) (hv : v ≠ vz) : lk l t = some v := by
  unfold gv at h
  cases hk : lk l t with
  | none => rw [hk] at h; exact (hv h.symm).elim
  | some u => rw [hk] at h; rw [← h]; rfl

theorem ok_jump {l : List Row} (hl : rowsOK l = true) {r : Row} (hr : r ∈ l) : gv l r.1 ≠ gv l (r.1 - 1) ∧ gv l r.2.1 ≠ gv l (r.2.1 - 1) := by
  obtain ⟨_, hc, hv⟩ := (rowsOK_iff l).1 hl
  have hrv := (valOK_kind (hv r hr)).1
  have hlt := (up_all hc.up r hr).2
  have g1 : gv l r.1 = r.2.2 := by unfold gv; rw [lk_mem hc.up hr (Int.le_refl _) hlt]; rfl
  have g2 : gv l (r.2.1 - 1) = r.2.2 := by unfold gv; rw [lk_mem hc.up hr (by omega) (by omega)]; rfl
  constructor
  · rw [g1]
    intro e
    obtain ⟨y, hy, y1, y2, y3⟩ := lk_bound (gv_some e.symm hrv)
    rcases up_apart hc.up y hy r hr with rfl | h | h
    · omega
    · exact ce_touch hc y hy r hr (by omega) y3
    · omega
  · rw [g2]
    intro e
    obtain ⟨y, hy, y1, y2, y3⟩ := lk_bound (gv_some e hrv)
    rcases up_apart hc.up y hy r hr with rfl | h | h
    · omega
    · omega
    · exact ce_touch hc r hr y hy (by omega) y3.symm

theorem ce_of_jump {α : Type} (G : Int → α) (M : Int) : ∀ {L : List (Seg α)} {lo : Int}, Up lo L → lo ≤ M → (∀ x ∈ L, x.2.1 ≤ M ∧ G x.2.1 ≠ G (x.2.1 - 1) ∧ ∀ t, x.1 ≤ t → t < x.2.1 → G t = x.2.2) → CE lo none L M
  | [], _, _, hM, _ => hM
  | [x], lo, h, hM, hx => ⟨h.1, h.2.1, by simp, (hx x List.mem_cons_self).1⟩
  | x :: y :: r, lo, h, hM, hx => by
    obtain ⟨h1, h2, h3⟩ := h
    have hxx := hx x List.mem_cons_self
    have ih := ce_of_jump G M h3 hxx.1 (fun z hz => hx z (List.mem_cons_of_mem _ hz))
    refine ⟨h1, h2, by simp, ih.1, ih.2.1, fun hh => ?_, ih.2.2.2⟩
    have hy := hx y (by simp)
    have e1 := hxx.2.2 (x.2.1 - 1) (by omega) (by omega)
    have e2 := hy.2.2 x.2.1 (by omega) (by have := ih.2.1; omega)
    have : x.2.2 = y.2.2 := by injection hh.2
    exact hxx.2.1 (by rw [e1, e2, this])

theorem up_filter {α : Type} (q : Seg α → Bool) : ∀ {L : List (Seg α)} {lo : Int}, Up lo L → Up lo (L.filter q)
  | [], _, _ => trivial
  | x :: L, lo, h => by
    rw [List.filter_cons]
    split
    · exact ⟨h.1, h.2.1, up_filter q h.2.2⟩
    · exact (up_filter q h.2.2).from_ (by have := h.1; have := h.2.1; omega)

theorem lk_asPc (b : List Row) (t : Int) : lk (b.map asPc) t = (lk b t).map fun v => (vz, v) := by
  induction b with
  | nil => rfl
  | cons r rs ih =>
    rw [List.map_cons, lk, lk, ih]
    show (if r.1 ≤ t ∧ t < r.2.1 then some (vz, r.2.2) else _) = _
    split <;> rfl
theorem up_asPc : ∀ {b : List Row} {lo : Int}, Up lo b → Up lo (b.map asPc)
  | [], _, _ => trivial
  | _ :: _, _, h => ⟨h.1, h.2.1, up_asPc h.2.2⟩

theorem diff_sem {a b : List Row} (ha : rowsOK a = true) (hb : rowsOK b = true) :
    CE 0 none (diffR a b) 1099511627776 ∧ ∀ t, lk (diffR a b) t = if gv a t = gv b t then none else some (gv a t, gv b t) := by
  have ca := ((rowsOK_iff a).1 ha).2.1
  have cb := ((rowsOK_iff b).1 hb).2.1
  obtain ⟨h1, h2, h3⟩ := strA_all (left_of_ok ha) (left_asPc hb)
  have hE : diffR a b = diffL (b.map asPc) (strA a (b.map asPc)) := by unfold diffR; rw [ha, hb]; rfl
  rw [hE]
  generalize hd : b.map asPc = d at h1 h2 h3
  have hkd : ∀ t, lk d t = (lk b t).map fun v => (vz, v) := fun t => by rw [← hd]; exact lk_asPc b t
  have hu : Up 0 ((strA a d).map (foundOf d)) := up_congr (·.1) (foundOf d) (fun x => ⟨rfl, rfl⟩) h1
  have hval : ∀ x ∈ strA a d, ∀ t, x.1.1 ≤ t → t < x.1.2.1 → (foundOf d x).2.2 = (gv a t, gv b t) := fun x hx t t1 t2 => by
    have e1 := (h2 x hx).row t t1 t2
    have e2 := (h2 x hx).pc t t1 t2
    rw [hkd] at e2
    show (x.1.2.2, nowOf d x) = _
    rw [e1]
    congr 1
    unfold nowOf gv
    cases hx2 : x.2 with
    | none =>
      rw [hx2] at e2
      cases hk : lk b t with
      | none => rfl
      | some v => rw [hk] at e2; cases e2
    | some i =>
      rw [hx2] at e2
      cases hk : lk b t with
      | none => rw [hk] at e2; cases e2
      | some v =>
        rw [hk] at e2
        have e3 : (vz, v) = (d[i]).2.2 := by injection e2
        show (d[i]).2.2.2 = v
        rw [← e3]
  have hup : Up 0 (diffL d (strA a d)) := up_filter _ hu
  have hmem : ∀ y ∈ diffL d (strA a d), ∃ x ∈ strA a d, foundOf d x = y ∧ pcDiff y = true := fun y hy => by
    obtain ⟨hy1, hy2⟩ := List.mem_filter.1 hy
    obtain ⟨x, hx, e⟩ := List.mem_map.1 hy1
    exact ⟨x, hx, e, hy2⟩
  refine ⟨ce_of_jump (fun t => (gv a t, gv b t)) _ hup (by omega) (fun y hy => ?_), fun t => ?_⟩
  · obtain ⟨x, hx, e, _⟩ := hmem y hy
    subst e
    refine ⟨(h2 x hx).le, fun hj => ?_, fun t t1 t2 => (hval x hx t t1 t2).symm⟩
    have j1 : gv a x.1.2.1 = gv a (x.1.2.1 - 1) := by injection hj
    have j2 : gv b x.1.2.1 = gv b (x.1.2.1 - 1) := by injection hj
    rcases (h2 x hx).bound with ⟨r, hr, e⟩ | ⟨p, hp, e⟩
    · rcases e with e | e
      · rw [e] at j1; exact (ok_jump ha hr).1 j1
      · rw [e] at j1; exact (ok_jump ha hr).2 j1
    · rw [← hd] at hp
      obtain ⟨r, hr, rfl⟩ := List.mem_map.1 hp
      rcases e with e | e
      · have e : x.1.2.1 = r.1 := e
        rw [e] at j2; exact (ok_jump hb hr).1 j2
      · have e : x.1.2.1 = r.2.1 := e
        rw [e] at j2; exact (ok_jump hb hr).2 j2
  · by_cases hc : ∃ x ∈ strA a d, x.1.1 ≤ t ∧ t < x.1.2.1
    · obtain ⟨x, hx, c1, c2⟩ := hc
      have hv := hval x hx t c1 c2
      by_cases hg : gv a t = gv b t
      · rw [if_pos hg]
        apply lk_no
        intro y hy hyt
        obtain ⟨x', hx', e, hpd⟩ := hmem y hy
        subst e
        have := hval x' hx' t hyt.1 hyt.2
        unfold pcDiff at hpd
        rw [this] at hpd
        simp [hg] at hpd
      · rw [if_neg hg, ← hv]
        refine lk_mem hup (List.mem_filter.2 ⟨List.mem_map.2 ⟨x, hx, rfl⟩, ?_⟩) c1 c2
        unfold pcDiff
        rw [hv]
        simpa using hg
    · have hn : ∀ y ∈ diffL d (strA a d), ¬ (y.1 ≤ t ∧ t < y.2.1) := fun y hy hyt => by
        obtain ⟨x, hx, e, _⟩ := hmem y hy
        subst e
        exact hc ⟨x, hx, hyt⟩
      rw [lk_no hn]
      have hz : gv a t = gv b t := by
        by_cases ht : 0 ≤ t
        · obtain ⟨n1, n2⟩ := h3 t ht (fun x hx hh => hc ⟨x, hx, hh⟩)
          rw [hkd] at n2
          unfold gv
          rw [n1]
          cases hk : lk b t with
          | none => rfl
          | some v => rw [hk] at n2; cases n2
        · unfold gv
          rw [lk_before ca.up (by omega), lk_before cb.up (by omega)]
      rw [if_pos hz]

/-- Right rows with the same values are the same. -/
theorem gv_eq {a b : List Row} (ha : rowsOK a = true) (hb : rowsOK b = true) (h : ∀ t, gv a t = gv b t) : a = b :=
  canon_eq ((rowsOK_iff a).1 ha).2.1 ((rowsOK_iff b).1 hb).2.1 (fun t _ => by rw [← nzv_gv ha, ← nzv_gv hb, h t])
theorem diff_nil {a b : List Row} (ha : rowsOK a = true) (hb : rowsOK b = true) : diffR a b = [] ↔ a = b := by
  obtain ⟨h1, h2⟩ := diff_sem ha hb
  constructor
  · intro h
    refine gv_eq ha hb fun t => ?_
    have := h2 t
    rw [h] at this
    by_cases hg : gv a t = gv b t
    · exact hg
    · rw [if_neg hg] at this; cases this
  · rintro rfl
    cases hD : diffR a a with
    | nil => rfl
    | cons x r =>
      rw [hD] at h1 h2
      have := h2 x.1
      rw [if_pos rfl, lk, if_pos ⟨Int.le_refl _, h1.2.1⟩] at this
      cases this
end Go.Proofs.Ytecefhoinggmgaa
