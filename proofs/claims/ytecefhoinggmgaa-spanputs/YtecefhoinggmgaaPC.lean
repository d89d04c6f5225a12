/-
  What the plain functions of layer 2 come to, time by time. No condition.
-/
import Derived.Test.YtecefhoinggmgaaSN
import Derived.Test.YtecefhoinggmgaaSQ
namespace Go.Proofs.Ytecefhoinggmgaa

def gv (l : List Row) (t : Int) : Vl := (lk l t).getD vz

/-! ### At -/
theorem ovl_head : ∀ {l : List Row} {lo : Int} (t : Int), Up lo l → (ovl l t (t + 1)).head?.map (·.2.2) = lk l t
  | [], _, _, _ => rfl
  | r :: rs, lo, t, h => by
    obtain ⟨h1, h2, h3⟩ := h
    have ih := ovl_head t h3
    unfold ovl at ih ⊢
    rw [List.dropWhile_cons]
    by_cases hc : r.2.1 ≤ t
    · rw [if_pos (by simpa using hc), ih, lk, if_neg (by omega)]
    · rw [if_neg (by simpa using hc), List.takeWhile_cons, lk]
      by_cases hd : r.1 < t + 1
      · rw [if_pos (by simpa using hd), if_pos (by omega)]; rfl
      · rw [if_neg (by simpa using hd), if_neg (by omega), lk_before h3 (by omega)]; rfl

theorem lk_out {α : Type} {l : List (Seg α)} {pv : Option α} (h : CE 0 pv l 1099511627776) {t : Int} (ht : t < 0 ∨ 1099511627776 ≤ t) : lk l t = none := by
  rcases ht with ht | ht
  · exact lk_before h.up ht
  · exact lk_after h ht

theorem at_eq {l : List Row} (h : rowsOK l = true) (t : Int) : atR l t = (gv l t, (lk l t).isSome) := by
  have hc := ((rowsOK_iff l).1 h).2.1
  unfold atR
  rw [h]
  have hh := ovl_head t hc.up
  cases ht : isTimeB t with
  | false =>
    have : lk l t = none := lk_out hc (by
      by_cases h0 : 0 ≤ t
      · right
        have : ¬ (0 ≤ t ∧ t ≤ 1099511627776) := fun x => by rw [isTimeB_iff.2 x] at ht; cases ht
        omega
      · left; omega)
    unfold gv
    rw [this]; rfl
  | true =>
    simp only [Bool.and_self, if_true]
    unfold gv
    rw [← hh]
    cases ovl l t (t + 1) <;> rfl

theorem valOK_kind {v : Vl} (h : valOK v = true) : v ≠ vz ∧ kindZ v = false := by
  have hk : v.1 ≠ 0 := by
    intro e
    unfold valOK validV at h
    rw [e] at h
    simp at h
  exact ⟨fun e => hk (by rw [e]; rfl), by simpa [kindZ] using hk⟩

/-! ### The stretches -/
theorem lk_cutAt {α : Type} {l : List (Seg α)} {t2 t : Int} (ht : t2 ≤ t) : lk (cutAt t2 l) t = lk l t := by
  cases l with
  | nil => rfl
  | cons r rs =>
    show lk (if r.2.1 = t2 then rs else r :: rs) t = _
    split
    · rw [lk, if_neg (by omega)]
    · rfl
theorem cutAt_sub {α : Type} {l : List (Seg α)} {t2 : Int} {x : Seg α} (h : x ∈ cutAt t2 l) : x ∈ l := by
  cases l with
  | nil => cases h
  | cons r rs =>
    have h : x ∈ (if r.2.1 = t2 then rs else r :: rs) := h
    split at h
    · exact List.mem_cons_of_mem _ h
    · exact h
def atHead {α : Type} (a : Int) : List (Seg α) → Option α
  | [] => none
  | r :: _ => if r.1 ≤ a then some r.2.2 else none
theorem nu_pos {α : Type} (a : Int) (r : Seg α) (rs : List (Seg α)) : 0 < nu a (r :: rs) := by simp only [nu]; split <;> omega
theorem lk_left {α : Type} {l : List (Seg α)} {a t E dflt : Int} (h : Left a E l) (h1 : a ≤ t) (h2 : t < nxt dflt a l) : lk l t = atHead a l := by
  cases l with
  | nil => rfl
  | cons r rs =>
    obtain ⟨l1, l2, l3, _⟩ := h
    have h2 : t < edge a r.1 r.2.1 := h2
    unfold edge at h2
    show _ = if r.1 ≤ a then some r.2.2 else none
    by_cases hr : r.1 ≤ a
    · rw [if_neg (by omega)] at h2
      rw [if_pos hr, lk, if_pos (by omega)]
    · rw [if_pos (by omega)] at h2
      rw [if_neg hr, lk, if_neg (by omega), lk_before l3 (by omega)]

/-- What is said of one stretch. -/
structure StrAt (rows : List Row) (d : List Pc) (ps : List Pc) (x : Str d) : Prop where
  lt : x.1.1 < x.1.2.1
  le : x.1.2.1 ≤ 1099511627776
  row : ∀ t, x.1.1 ≤ t → t < x.1.2.1 → x.1.2.2 = gv rows t
  pc : ∀ t, x.1.1 ≤ t → t < x.1.2.1 → lk ps t = x.2.map fun i => d[i].2.2
  bound : (∃ r ∈ rows, x.1.2.1 = r.1 ∨ x.1.2.1 = r.2.1) ∨ (∃ p ∈ ps, x.1.2.1 = p.1 ∨ x.1.2.1 = p.2.1)

theorem strN_all (d : List Pc) : ∀ (fuel : Nat) (a : Int) (rows : List Row) (pi : Nat), Left a 1099511627776 rows → Left a 1099511627776 (d.drop pi) → nu a rows + nu a (d.drop pi) ≤ fuel →
    Up a ((strN d fuel a rows pi).map (·.1)) ∧ (∀ x ∈ strN d fuel a rows pi, StrAt rows d (d.drop pi) x) ∧
      (∀ t, a ≤ t → (∀ x ∈ strN d fuel a rows pi, ¬ (x.1.1 ≤ t ∧ t < x.1.2.1)) → lk rows t = none ∧ lk (d.drop pi) t = none)
  | 0, a, rows, pi, hr, hp, hf => by
    have h1 : rows = [] := by
      cases rows with
      | nil => rfl
      | cons r rs => have := nu_pos a r rs; omega
    have h2 : d.drop pi = [] := by
      cases h : d.drop pi with
      | nil => rfl
      | cons r rs => rw [h] at hf; have := nu_pos a r rs; omega
    refine ⟨trivial, fun x hx => (by cases hx), fun t _ _ => ?_⟩
    rw [h1, h2]; exact ⟨rfl, rfl⟩
  | f + 1, a, rows, pi, hr, hp, hf => by
    by_cases hend : rows = [] ∧ d.length ≤ pi
    · have : strN d (f + 1) a rows pi = [] := by rw [strN, if_pos hend]
      rw [this]
      refine ⟨trivial, fun x hx => (by cases hx), fun t _ _ => ?_⟩
      rw [hend.1, List.drop_of_length_le hend.2]; exact ⟨rfl, rfl⟩
    · have hst := step_left hr hp hend
      have hE : strN d (f + 1) a rows pi = ((a, nxt2 a rows (d.drop pi), hasV a rows), around d a pi) :: strN d f (nxt2 a rows (d.drop pi)) (cutAt (nxt2 a rows (d.drop pi)) rows) (piNext d (nxt2 a rows (d.drop pi)) pi) := by rw [strN, if_neg hend]
      have hle1 : nxt2 a rows (d.drop pi) ≤ nxt 1099511627776 a rows := by rw [nxt2_eq]; split <;> omega
      have hle2 : d.drop pi ≠ [] → nxt2 a rows (d.drop pi) ≤ nxt 1099511627776 a (d.drop pi) := fun hne => by rw [nxt2_eq, if_neg hne]; omega
      have hbd : (∃ r ∈ rows, nxt2 a rows (d.drop pi) = r.1 ∨ nxt2 a rows (d.drop pi) = r.2.1) ∨ (∃ p ∈ d.drop pi, nxt2 a rows (d.drop pi) = p.1 ∨ nxt2 a rows (d.drop pi) = p.2.1) := by
        have hR : ∀ r rs, rows = r :: rs → nxt2 a rows (d.drop pi) = nxt 1099511627776 a rows → ∃ r ∈ rows, nxt2 a rows (d.drop pi) = r.1 ∨ nxt2 a rows (d.drop pi) = r.2.1 := fun r rs e h => by
          refine ⟨r, by rw [e]; exact List.mem_cons_self, ?_⟩
          rw [h, e]
          show edge a r.1 r.2.1 = _ ∨ edge a r.1 r.2.1 = _
          unfold edge; split
          · exact .inl rfl
          · exact .inr rfl
        have hP : ∀ p ps, d.drop pi = p :: ps → nxt2 a rows (d.drop pi) = nxt 1099511627776 a (d.drop pi) → ∃ p ∈ d.drop pi, nxt2 a rows (d.drop pi) = p.1 ∨ nxt2 a rows (d.drop pi) = p.2.1 := fun p ps e h => by
          refine ⟨p, by rw [e]; exact List.mem_cons_self, ?_⟩
          rw [h, e]
          show edge a p.1 p.2.1 = _ ∨ edge a p.1 p.2.1 = _
          unfold edge; split
          · exact .inl rfl
          · exact .inr rfl
        cases hps : d.drop pi with
        | nil =>
          left
          cases hrs : rows with
          | nil => exact (hend ⟨hrs, List.drop_eq_nil_iff.1 hps⟩).elim
          | cons r rs =>
            have := hR r rs hrs (by rw [nxt2_eq, hps, if_pos rfl])
            rw [hps, hrs] at this
            exact this
        | cons p ps =>
          have hpe : d.drop pi ≠ [] := by rw [hps]; simp
          have hmin : nxt2 a rows (d.drop pi) = nxt 1099511627776 a rows ∨ nxt2 a rows (d.drop pi) = nxt 1099511627776 a (d.drop pi) := by rw [nxt2_eq, if_neg hpe]; omega
          rcases hmin with hm | hm
          · cases hrs : rows with
            | nil =>
              right
              have hk := nxt_le hp
              have h2 := hle2 hpe
              have : nxt2 a rows (d.drop pi) = nxt 1099511627776 a (d.drop pi) := by
                have h0 : nxt 1099511627776 a rows = 1099511627776 := by rw [hrs]; rfl
                omega
              have := hP p ps hps this
              rw [hps, hrs] at this
              exact this
            | cons r rs =>
              left
              have := hR r rs hrs hm
              rw [hps, hrs] at this
              exact this
          · right
            have := hP p ps hps hm
            rw [hps] at this
            exact this
      generalize ht2 : nxt2 a rows (d.drop pi) = t2 at hst hE hle1 hle2 hbd
      obtain ⟨s1, s2, s3, s4, s5⟩ := hst
      obtain ⟨i1, i2, i3⟩ := strN_all d f t2 (cutAt t2 rows) (piNext d t2 pi) s3 s4 (by omega)
      rw [hE]
      refine ⟨⟨Int.le_refl _, s1, i1⟩, fun x hx => ?_, fun t ht hn => ?_⟩
      · rcases List.mem_cons.1 hx with rfl | hx
        · refine ⟨s1, s2, fun t h1 h2 => ?_, fun t h1 h2 => ?_, hbd⟩
          · have := lk_left hr h1 (show t < nxt 1099511627776 a rows by simp only at h2; omega)
            show hasV a rows = gv rows t
            unfold gv
            rw [this]
            cases rows with
            | nil => rfl
            | cons r rs =>
              show (if r.1 ≤ a then r.2.2 else vz) = (if r.1 ≤ a then some r.2.2 else none).getD vz
              split <;> rfl
          · show lk (d.drop pi) t = (around d a pi).map fun i => d[i].2.2
            unfold around
            by_cases hpi : pi < d.length
            · rw [dif_pos hpi]
              have hne : d.drop pi ≠ [] := fun e => by rw [drop_get d pi hpi] at e; cases e
              have h22 := hle2 hne
              have := lk_left hp h1 (show t < nxt 1099511627776 a (d.drop pi) by simp only at h2; omega)
              rw [this, drop_get d pi hpi]
              show (if d[pi].1 ≤ a then some d[pi].2.2 else none) = _
              split <;> rfl
            · rw [dif_neg hpi, List.drop_of_length_le (by omega)]; rfl
        · obtain ⟨e1, e2, e3, e4, e5⟩ := i2 x hx
          have hax : t2 ≤ x.1.1 := (up_all i1 x.1 (List.mem_map.2 ⟨x, hx, rfl⟩)).1
          refine ⟨e1, e2, fun t h1 h2 => ?_, fun t h1 h2 => ?_, ?_⟩
          · rw [e3 t h1 h2]
            unfold gv
            rw [lk_cutAt (by omega)]
          · rw [← e4 t h1 h2, drop_piNext, lk_cutAt (by omega)]
          · rcases e5 with ⟨r, hr', h'⟩ | ⟨p, hp', h'⟩
            · exact .inl ⟨r, cutAt_sub hr', h'⟩
            · rw [drop_piNext] at hp'
              exact .inr ⟨p, cutAt_sub hp', h'⟩
      · have h0 := hn _ List.mem_cons_self
        simp only at h0
        have := i3 t (by omega) (fun x hx => hn x (List.mem_cons_of_mem _ hx))
        rw [drop_piNext, lk_cutAt (by omega), lk_cutAt (by omega)] at this
        exact this

theorem strA_all {l : List Row} {d : List Pc} (hl : Left 0 1099511627776 l) (hd : Left 0 1099511627776 d) :
    Up 0 ((strA l d).map (·.1)) ∧ (∀ x ∈ strA l d, StrAt l d d x) ∧ (∀ t, 0 ≤ t → (∀ x ∈ strA l d, ¬ (x.1.1 ≤ t ∧ t < x.1.2.1)) → lk l t = none ∧ lk d t = none) := by
  have h := strN_all d (2 * l.length + 2 * d.length) 0 l 0 hl (by simpa using hd) (by have := nu_le 0 l; have := nu_le 0 d; simp only [List.drop_zero]; omega)
  simp only [List.drop_zero] at h
  exact h
end Go.Proofs.Ytecefhoinggmgaa
