/-
  What Put, Cut, Clip and Diff come to, time by time. No condition.
-/
import Derived.Test.YtecefhoinggmgaaPC
namespace Go.Proofs.Ytecefhoinggmgaa

theorem lk_mem {α : Type} : ∀ {L : List (Seg α)} {lo t : Int} {x : Seg α}, Up lo L → x ∈ L → x.1 ≤ t → t < x.2.1 → lk L t = some x.2.2
  | r :: rs, lo, t, x, h, hx, h1, h2 => by
    rcases List.mem_cons.1 hx with rfl | hx
    · rw [lk, if_pos ⟨h1, h2⟩]
    · have := (up_all h.2.2 x hx).1
      rw [lk, if_neg (by omega)]
      exact lk_mem h.2.2 hx h1 h2
theorem lk_no {α : Type} {L : List (Seg α)} {t : Int} (h : ∀ x ∈ L, ¬ (x.1 ≤ t ∧ t < x.2.1)) : lk L t = none := by
  cases hk : lk L t with
  | none => rfl
  | some v =>
    obtain ⟨x, hx, h1, h2, _⟩ := lk_bound hk
    exact (h x hx ⟨h1, h2⟩).elim
theorem up_congr {α β γ : Type} (f : γ → Seg α) (g : γ → Seg β) (h : ∀ x, (g x).1 = (f x).1 ∧ (g x).2.1 = (f x).2.1) : ∀ {S : List γ} {lo : Int}, Up lo (S.map f) → Up lo (S.map g)
  | [], _, _ => trivial
  | x :: S, lo, hu => by
    obtain ⟨h1, h2, h3⟩ := hu
    refine ⟨by rw [(h x).1]; exact h1, by rw [(h x).1, (h x).2]; exact h2, ?_⟩
    rw [(h x).2]
    exact up_congr f g h h3
theorem ce_bound {α : Type} : ∀ {l : List (Seg α)} {lo : Int} {pv : Option α} {E M : Int}, CE lo pv l E → (∀ x ∈ l, x.2.1 ≤ M) → lo ≤ M → CE lo pv l M
  | [], _, _, _, _, _, _, h => h
  | r :: _, _, _, _, _, h, hx, _ => ⟨h.1, h.2.1, h.2.2.1, ce_bound h.2.2.2 (fun x hx' => hx x (List.mem_cons_of_mem _ hx')) (hx r List.mem_cons_self)⟩

theorem addL_mem {α : Type} [DecidableEq α] : ∀ (l : List (Seg α)) (y x : Seg α), x ∈ addL l y → x ∈ l ∨ (x.2.1 = y.2.1 ∧ x.2.2 = y.2.2)
  | [], y, x, h => by
    have : x = y := by simpa [addL] using h
    subst this; exact .inr ⟨rfl, rfl⟩
  | [z], y, x, h => by
    unfold addL at h
    split at h
    · rename_i hc
      have : x = (z.1, y.2.1, z.2.2) := by simpa using h
      subst this; exact .inr ⟨rfl, hc.2⟩
    · have : x = z ∨ x = y := by simpa using h
      rcases this with rfl | rfl
      · exact .inl List.mem_cons_self
      · exact .inr ⟨rfl, rfl⟩
  | z :: z' :: r, y, x, h => by
    have h : x ∈ z :: addL (z' :: r) y := h
    rcases List.mem_cons.1 h with rfl | h
    · exact .inl List.mem_cons_self
    · rcases addL_mem (z' :: r) y x h with h | h
      · exact .inl (List.mem_cons_of_mem _ h)
      · exact .inr h
theorem joins_mem {α : Type} [DecidableEq α] (nn : α → Bool) : ∀ (S out : List (Seg α)) (x : Seg α), x ∈ joins nn out S → x ∈ out ∨ ∃ y ∈ S, nn y.2.2 = false ∧ x.2.1 = y.2.1 ∧ x.2.2 = y.2.2
  | [], _, _, h => .inl h
  | y :: S, out, x, h => by
    rcases joins_mem nn S (joinStep nn out y) x h with h | ⟨z, hz, h'⟩
    · unfold joinStep at h
      split at h
      · exact .inl h
      · rename_i hn
        rcases addL_mem out y x h with h | h
        · exact .inl h
        · exact .inr ⟨y, List.mem_cons_self, by simpa using hn, h⟩
    · exact .inr ⟨z, List.mem_cons_of_mem _ hz, h'⟩

def nzv (v : Vl) : Option Vl := if kindZ v then none else some v
def overV (l : List Row) (d : List Pc) (t : Int) : Option Vl := match lk d t with | some hn => nzv hn.2 | none => lk l t

theorem nzv_gv {l : List Row} (h : rowsOK l = true) (t : Int) : nzv (gv l t) = lk l t := by
  unfold nzv gv
  cases hk : lk l t with
  | none => rfl
  | some v =>
    obtain ⟨x, hx, _, _, rfl⟩ := lk_bound hk
    have := (valOK_kind (((rowsOK_iff l).1 h).2.2 x hx)).2
    show (if kindZ x.2.2 = true then none else some x.2.2) = some x.2.2
    rw [this]; rfl

theorem repl_sem {l : List Row} {d : List Pc} (hl : rowsOK l = true) (hd : Left 0 1099511627776 d) (hdu : Up 0 d) :
    CE 0 none (replL d (strA l d)) 1099511627776 ∧ (∀ t, lk (replL d (strA l d)) t = overV l d t) ∧ ∀ x ∈ replL d (strA l d), (∃ r ∈ l, r.2.2 = x.2.2) ∨ (∃ p ∈ d, p.2.2.2 = x.2.2 ∧ kindZ p.2.2.2 = false) := by
  obtain ⟨h1, h2, h3⟩ := strA_all (left_of_ok hl) hd
  have hce := ((rowsOK_iff l).1 hl).2.1
  have hu : Up 0 ((strA l d).map (strR d)) := up_congr (·.1) (strR d) (fun x => ⟨rfl, rfl⟩) h1
  obtain ⟨⟨E, j1⟩, j2⟩ := joins_nil kindZ _ hu
  refine ⟨ce_bound j1 (fun x hx => ?_) (by omega), fun t => ?_, fun x hx => ?_⟩
  · rcases joins_mem kindZ _ [] x hx with h | ⟨y, hy, _, e, _⟩
    · cases h
    · obtain ⟨z, hz, rfl⟩ := List.mem_map.1 hy
      rw [e]
      exact (h2 z hz).le
  · show lk (joins kindZ [] ((strA l d).map (strR d))) t = _
    rw [j2 t]
    by_cases ht : 0 ≤ t
    · by_cases hc : ∃ x ∈ strA l d, x.1.1 ≤ t ∧ t < x.1.2.1
      · obtain ⟨x, hx, c1, c2⟩ := hc
        rw [lk_mem hu (List.mem_map.2 ⟨x, hx, rfl⟩) c1 c2]
        have hp := (h2 x hx).pc t c1 c2
        have hr := (h2 x hx).row t c1 c2
        show nzv (strV d x) = _
        unfold overV strV
        rw [hp]
        cases hx2 : x.2 with
        | none =>
          show nzv x.1.2.2 = lk l t
          rw [hr]
          exact nzv_gv hl t
        | some i => rfl
      · have hn : ∀ x ∈ strA l d, ¬ (x.1.1 ≤ t ∧ t < x.1.2.1) := fun x hx hh => hc ⟨x, hx, hh⟩
        obtain ⟨n1, n2⟩ := h3 t ht hn
        rw [lk_no (fun y hy => by obtain ⟨z, hz, rfl⟩ := List.mem_map.1 hy; exact hn z hz)]
        unfold overV
        rw [n1, n2]; rfl
    · rw [lk_before hu (by omega)]
      unfold overV
      rw [lk_before hdu (by omega), lk_before hce.up (by omega)]; rfl
  · rcases joins_mem kindZ _ [] x hx with h | ⟨y, hy, hn, _, e⟩
    · cases h
    · obtain ⟨z, hz, rfl⟩ := List.mem_map.1 hy
      have hs := h2 z hz
      have hr := hs.row z.1.1 (Int.le_refl _) hs.lt
      have hp := hs.pc z.1.1 (Int.le_refl _) hs.lt
      have e : x.2.2 = strV d z := e
      have hn : kindZ (strV d z) = false := hn
      unfold strV at e hn
      cases hz2 : z.2 with
      | none =>
        rw [hz2] at e hn
        simp only at e hn
        left
        rw [hr] at e hn
        unfold gv at e hn
        cases hk : lk l z.1.1 with
        | none => rw [hk] at hn; cases hn
        | some v =>
          obtain ⟨r, hr', _, _, hrv⟩ := lk_bound hk
          exact ⟨r, hr', by rw [e, hk, hrv]; rfl⟩
      | some i =>
        rw [hz2] at e hn
        simp only at e hn
        right
        exact ⟨d[i], List.getElem_mem _, e.symm, hn⟩

theorem repl_ok {l : List Row} {d : List Pc} (hl : rowsOK l = true) (hd : Left 0 1099511627776 d) (hdu : Up 0 d) (hv : ∀ p ∈ d, kindZ p.2.2.2 = false → valOK p.2.2.2 = true) (hlen : (replL d (strA l d)).length ≤ 64) : rowsOK (replL d (strA l d)) = true := by
  obtain ⟨h1, _, h3⟩ := repl_sem hl hd hdu
  refine (rowsOK_iff _).2 ⟨hlen, h1, fun x hx => ?_⟩
  rcases h3 x hx with ⟨r, hr, e⟩ | ⟨p, hp, e, hn⟩
  · rw [← e]; exact ((rowsOK_iff l).1 hl).2.2 r hr
  · rw [← e]; exact hv p hp hn

theorem one_left {p : Pc} (h : isSpanB p.1 p.2.1 = true) : Left 0 1099511627776 [p] ∧ Up 0 [p] := by
  obtain ⟨h0, h1, h2⟩ := isSpanB_iff.1 h
  exact ⟨⟨by omega, h1, trivial, fun x hx => (by rw [show x = p by simpa using hx]; exact h2)⟩, h0, h1, trivial⟩

/-- What set does: where it answers OK, the rows are right, and have just within the span what was set. -/
theorem set_sem {l L : List Row} {p : Pc} (h : setR l p = (L, 0)) (hv : kindZ p.2.2.2 = false → valOK p.2.2.2 = true) :
    rowsOK l = true ∧ rowsOK L = true ∧ ∀ t, lk L t = if p.1 ≤ t ∧ t < p.2.1 then nzv p.2.2.2 else lk l t := by
  unfold setR at h
  split at h
  · rename_i hl
    split at h
    · rename_i hs
      unfold replR at h
      split at h
      · rename_i hlen
        have hL : L = replL [p] (strA l [p]) := by injection h with h1 h2; exact h1.symm
        obtain ⟨ho, hu⟩ := one_left hs
        subst hL
        refine ⟨hl, repl_ok hl ho hu (fun q hq => (by rw [show q = p by simpa using hq]; exact hv)) hlen, fun t => ?_⟩
        rw [(repl_sem hl ho hu).2.1 t]
        unfold overV
        rw [lk, lk]
        split
        · rename_i hh
          split at hh
          · rename_i hc
            injection hh with hh
            rw [if_pos hc, ← hh]
          · cases hh
        · rename_i hh
          split at hh
          · cases hh
          · rename_i hc
            rw [if_neg hc]
      · injection h with h1 h2
        omega
    · injection h with h1 h2
      omega
  · injection h with h1 h2
    omega
end Go.Proofs.Ytecefhoinggmgaa
