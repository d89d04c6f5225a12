/-
  Counting cells; what lies at a place is one thing; a list read through a place that was turned to an equal list. No condition.
-/
import Derived.Test.YtdmalkkpcggifaaPC
namespace Go.Proofs.Ytdmalkkpcggifaa
open Go.RowKit

mutual
def cntC : C → Nat
  | .mk _ _ _ l => 1 + cntL l
def cntL : List C → Nat
  | [] => 0
  | x :: l => cntC x + cntL l
end
theorem cntC_mk (k n : Int) (s : ByteArray) (l : List C) : cntC (.mk k n s l) = 1 + cntL l := by rw [cntC]
theorem cntC_l (c : C) : cntC c = 1 + cntL c.l := by cases c; rw [cntC_mk]; rfl
theorem cntL_cons (x : C) (l : List C) : cntL (x :: l) = cntC x + cntL l := by rw [cntL]
theorem cntL_nil : cntL [] = 0 := by rw [cntL]
theorem cntL_append (a b : List C) : cntL (a ++ b) = cntL a + cntL b := by
  induction a with
  | nil => rw [List.nil_append, cntL_nil]; omega
  | cons x a ih => rw [List.cons_append, cntL_cons, cntL_cons, ih]; omega
theorem cntL_mem {x : C} {l : List C} (h : x ∈ l) : cntC x ≤ cntL l := by
  induction l with
  | nil => cases h
  | cons y l ih =>
    rw [cntL_cons]
    rcases List.mem_cons.1 h with rfl | h
    · omega
    · have := ih h; omega
theorem cntL_take (l : List C) (k : Nat) (h : k < l.length) : cntL (l.take (k + 1)) = cntL (l.take k) + cntC l[k] := by
  rw [List.take_succ_eq_append_getElem h, cntL_append, cntL_cons, cntL_nil]; omega
theorem cntL_take_le (l : List C) (k : Nat) : cntL (l.take k) ≤ cntL l := by
  have := cntL_append (l.take k) (l.drop k)
  rw [List.take_append_drop] at this
  omega

/-- Few parts are few cells. -/
theorem few_cnt (d : Nat) : ∀ (c : C) (left : Int), 0 < fewM d c left → (cntC c : Int) ≤ left - fewM d c left := by
  induction d with
  | zero => intro c left h; unfold fewM at h; omega
  | succ d ih =>
    intro c left h
    obtain ⟨k, n, s, l⟩ := c
    rw [fewM_succ] at h ⊢
    split at h
    · omega
    rename_i h1
    rw [if_neg h1, cntC_mk]
    have key : ∀ (l : List C) (r : Int), 0 < l.foldl (fewF (fewM d)) r → ((cntL l : Nat) : Int) ≤ r - l.foldl (fewF (fewM d)) r := by
      intro l
      induction l with
      | nil => intro r _; rw [cntL_nil]; simp
      | cons x l ihl =>
        intro r h3
        rw [List.foldl_cons] at h3 ⊢
        rw [cntL_cons]
        have a := ihl _ h3
        by_cases hr : 0 < r
        · have e : fewF (fewM d) r x = fewM d x r := by unfold fewF; rw [if_pos hr]
          rw [e] at a h3 ⊢
          by_cases hp : 0 < fewM d x r
          · have := ih x r hp
            omega
          · rw [few_stop _ _ _ hp] at h3; omega
        · have e : fewF (fewM d) r x = r := by unfold fewF; rw [if_neg hr]
          rw [e, few_stop _ _ _ hr] at h3
          omega
    have := key l _ h
    omega

/-- What a slice reads as is one list. -/
theorem LAt.one {w : World} {B B' : Nat} : ∀ {d d' : Nat} {v : Value} {l l' : List C}, LAt w B d v l → LAt w B' d' v l' → l = l'
  | 0, _, _, _, _, h, _ => h.elim
  | _ + 1, 0, _, _, _, _, h' => h'.elim
  | d + 1, d' + 1, v, l, l', h, h' => by
    obtain ⟨A, cap, rfl, h1, h2, h3⟩ := h
    obtain ⟨A', cap', e, h1', h2', h3'⟩ := h'
    injection e with e1 e2 e3
    subst e1 e3
    apply List.ext_getElem e2
    intro i hi hi'
    obtain ⟨b, o, rfl, hb, hr⟩ := h3 (by omega)
    obtain ⟨b', o', e', hb', hr'⟩ := h3' (by omega)
    injection e' with e'
    injection e' with e4 e5
    subst e4 e5
    obtain ⟨u, r, f, s⟩ := hr i hi
    obtain ⟨u', r', f', s'⟩ := hr' i hi'
    have q0 := r.c0.symm.trans r'.c0
    have q1 := r.c1.symm.trans r'.c1
    have q2 := r.c2.symm.trans r'.c2
    have q3 := r.c3.symm.trans r'.c3
    injection q0 with q0
    injection q0 with _ q0
    injection q1 with q1
    injection q1 with _ q1
    injection q2 with q2
    injection q2 with q2
    injection q3 with q3
    subst q3
    have := LAt.one s s'
    cases hx : l[i] with
    | mk k n s l =>
      cases hy : l'[i] with
      | mk k' n' s' l' =>
        rw [hx] at q0 q1 q2 this
        rw [hy] at q0 q1 q2 this
        simp only [k_mk, n_mk, s_mk, l_mk] at q0 q1 q2 this
        subst q0 q1 q2 this
        rfl

/-- A place that held a slice holds another that reads as the same list: all that reads through it reads as before. -/
theorem LAt.turn {w w' : World} {B B' : Nat} {qb qo : Nat} {A : Option Addr} {n cap : Nat} {v' : Value} {l : List C} {d d' : Nat} (hq : w.cell? ⟨qb, qo, none⟩ = some (.slice A n cap)) (hl : LAt w B d (.slice A n cap) l) (hq' : w'.cell? ⟨qb, qo, none⟩ = some v') (hl' : LAt w' B' d' v' l)
    (hBB : B ≤ B') (hk : ∀ b o, b < B → ¬ (b = qb ∧ o = qo) → w'.cell? ⟨b, o, none⟩ = w.cell? ⟨b, o, none⟩) : ∀ {D : Nat} {u : Value} {ll : List C}, LAt w B D u ll → LAt w' B' (D + d') u ll
  | 0, _, _, h => h.elim
  | D + 1, u, ll, h => by
    obtain ⟨Au, cu, rfl, h1, h2, h3⟩ := h
    rw [show D + 1 + d' = (D + d') + 1 by omega]
    refine ⟨Au, cu, rfl, h1, h2, fun h0 => ?_⟩
    obtain ⟨b, o, rfl, hb, hr⟩ := h3 h0
    refine ⟨b, o, rfl, by omega, fun i hi => ?_⟩
    obtain ⟨ui, r, f, s⟩ := hr i hi
    have ne : ∀ (o' : Nat) (x : Value), w.cell? ⟨b, o', none⟩ = some x → (∀ A n cap, x ≠ .slice A n cap) → w'.cell? ⟨b, o', none⟩ = some x := by
      intro o' x hx hn
      rw [hk b o' hb (fun e => by
        obtain ⟨e1, e2⟩ := e
        subst e1 e2
        rw [hq] at hx
        injection hx with hx
        exact hn _ _ _ hx.symm)]
      exact hx
    have r0 := ne _ _ r.c0 (fun _ _ _ e => by cases e)
    have r1 := ne _ _ r.c1 (fun _ _ _ e => by cases e)
    have r2 := ne _ _ r.c2 (fun _ _ _ e => by cases e)
    by_cases e : b = qb ∧ o + i * 4 + 3 = qo
    · obtain ⟨e1, e2⟩ := e
      subst e1 e2
      have h3 := r.c3
      rw [hq] at h3
      injection h3 with h3
      subst h3
      have := LAt.one s hl
      exact ⟨v', ⟨r0, r1, r2, hq'⟩, f, by rw [this]; exact hl'.up (by omega)⟩
    · exact ⟨ui, ⟨r0, r1, r2, (hk b _ hb e).trans r.c3⟩, f, LAt.turn hq hl hq' hl' hBB hk s⟩

/-- The cell that lies at a place. -/
structure CAt (w : World) (B : Nat) (b o : Nat) (c : C) : Prop where
  row : ∃ u d, RowAt w b o c u ∧ LAt w B d u c.l
theorem CAt.one {w : World} {B b o : Nat} {c c' : C} (h : CAt w B b o c) (h' : CAt w B b o c') : c = c' := by
  obtain ⟨u, d, r, s⟩ := h.row
  obtain ⟨u', d', r', s'⟩ := h'.row
  have q0 := r.c0.symm.trans r'.c0
  have q1 := r.c1.symm.trans r'.c1
  have q2 := r.c2.symm.trans r'.c2
  have q3 := r.c3.symm.trans r'.c3
  injection q0 with q0
  injection q0 with _ q0
  injection q1 with q1
  injection q1 with _ q1
  injection q2 with q2
  injection q2 with q2
  injection q3 with q3
  subst q3
  have := LAt.one s s'
  obtain ⟨k, n, s, l⟩ := c
  obtain ⟨k', n', s', l'⟩ := c'
  simp only [k_mk, n_mk, s_mk, l_mk] at q0 q1 q2 this
  subst q0 q1 q2 this
  rfl
end Go.Proofs.Ytdmalkkpcggifaa
