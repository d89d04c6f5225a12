/-
  Lists that are copied step by step: what is read through the copy at each step. No condition.
-/
import Derived.Test.YtdmalkkpcggifaaYB
namespace Go.Proofs.Ytdmalkkpcggifaa
open Go.RowKit

/-- The slice v reads as the cells l, below block B, and no cell there is frozen. -/
def LNF (w : World) (B : Nat) : Nat → Value → List C → Prop
  | 0, _, _ => False
  | d + 1, v, l => ∃ A cap, v = .slice A l.length cap ∧ l.length ≤ cap ∧ cap ≤ maxLen ∧ (0 < l.length → ∃ b o, A = some ⟨b, o, none⟩ ∧ b < B ∧ ∀ i (h : i < l.length), ∃ u, RowAt w b (o + i * 4) l[i] u ∧ Wf l[i] ∧ w.frozen? ⟨b, o + i * 4, none⟩ = false ∧ LNF w B d u l[i].l)
theorem LNF.lat {w : World} {B : Nat} : ∀ {d : Nat} {v : Value} {l : List C}, LNF w B d v l → LAt w B d v l
  | 0, _, _, h => h
  | d + 1, v, l, h => by
    obtain ⟨A, cap, rfl, h1, h2, h3⟩ := h
    refine ⟨A, cap, rfl, h1, h2, fun hl => ?_⟩
    obtain ⟨b, o, rfl, hb, hr⟩ := h3 hl
    refine ⟨b, o, rfl, hb, fun i hi => ?_⟩
    obtain ⟨u, r, f, _, s⟩ := hr i hi
    exact ⟨u, r, f, LNF.lat s⟩
theorem LNF.keep {w w' : World} {B B' : Nat} (hB : B ≤ B') (hb : ∀ k, k < B → w'.heap[k]? = w.heap[k]?) : ∀ {d : Nat} {v : Value} {l : List C}, LNF w B d v l → LNF w' B' d v l
  | 0, _, _, h => h
  | d + 1, v, l, h => by
    obtain ⟨A, cap, rfl, h1, h2, h3⟩ := h
    refine ⟨A, cap, rfl, h1, h2, fun hl => ?_⟩
    obtain ⟨b, o, rfl, hb', hr⟩ := h3 hl
    refine ⟨b, o, rfl, by omega, fun i hi => ?_⟩
    obtain ⟨u, r, f, z, s⟩ := hr i hi
    exact ⟨u, r.keep fun o => cell_same (hb b hb') o, f, (World.frozen?_of_block (a := ⟨b, o + i * 4, none⟩) (hb b hb')).trans z, LNF.keep hB hb s⟩
theorem LNF.slice {w : World} {B d : Nat} {u : Value} {l : List C} (h : LNF w B d u l) : ∃ A cap, u = .slice A l.length cap := h.lat.slice

/-- Blocks of the old, and rows of cells. -/
def SS (B : Nat) (w0 w : World) (b : Nat) : Prop := b < B ∨ (w0.heap.size ≤ b ∧ ∃ cs, w.heap[b]? = some (.cells cs 25 (0, 0)))
theorem SS.lt {B : Nat} {w0 w : World} {b : Nat} (h : SS B w0 w b) (hB : B ≤ w0.heap.size) (hz : w0.heap.size ≤ w.heap.size) : b < w.heap.size := by
  rcases h with h | ⟨_, cs, h⟩
  · omega
  · exact (Array.getElem?_eq_some_iff.1 h).1
theorem LNF.lin {B : Nat} {w0 w : World} (hB : B ≤ w0.heap.size) (hb : Below w0.heap.size w0 w) : ∀ {d : Nat} {v : Value} {l : List C}, LNF w0 B d v l → LIn w (SS B w0 w) d v l
  | 0, _, _, h => h
  | d + 1, v, l, h => by
    obtain ⟨A, cap, rfl, h1, h2, h3⟩ := h
    refine ⟨A, cap, rfl, h1, h2, fun hl => ?_⟩
    obtain ⟨b, o, rfl, hb', hr⟩ := h3 hl
    refine ⟨b, o, rfl, .inl hb', fun i hi => ?_⟩
    obtain ⟨u, r, f, z, s⟩ := hr i hi
    exact ⟨u, r.keep fun o => cell_same (hb.block b (by omega)) o, f, LNF.lin hB hb s⟩

theorem LIn.up {w : World} {S : Nat → Prop} : ∀ {d d' : Nat} {v : Value} {l : List C}, LIn w S d v l → d ≤ d' → LIn w S d' v l
  | 0, _, _, _, h, _ => h.elim
  | d + 1, 0, _, _, _, hd => by omega
  | d + 1, d' + 1, v, l, h, hd => by
    obtain ⟨A, cap, rfl, h1, h2, h3⟩ := h
    refine ⟨A, cap, rfl, h1, h2, fun hl => ?_⟩
    obtain ⟨b, o, rfl, hb, hr⟩ := h3 hl
    refine ⟨b, o, rfl, hb, fun i hi => ?_⟩
    obtain ⟨u, r, f, s⟩ := hr i hi
    exact ⟨u, r, f, LIn.up s (by omega)⟩

/-- A place that held a slice holds another that reads as the same list: all that reads through it reads as before. -/
theorem LIn.turn {w w' : World} {S S' : Nat → Prop} {B B' : Nat} {qb qo : Nat} {A : Option Addr} {n cap : Nat} {v' : Value} {l : List C} {d d' : Nat} (hS : ∀ b, S b → S' b) (hSB : ∀ b, S b → b < B') (hq : w.cell? ⟨qb, qo, none⟩ = some (.slice A n cap)) (hl : LAt w B d (.slice A n cap) l) (hq' : w'.cell? ⟨qb, qo, none⟩ = some v') (hl' : LIn w' S' d' v' l)
    (hk : ∀ b o, S b → ¬ (b = qb ∧ o = qo) → w'.cell? ⟨b, o, none⟩ = w.cell? ⟨b, o, none⟩) : ∀ {D : Nat} {u : Value} {ll : List C}, LIn w S D u ll → LIn w' S' (D + d') u ll
  | 0, _, _, h => h.elim
  | D + 1, u, ll, h => by
    obtain ⟨Au, cu, rfl, h1, h2, h3⟩ := h
    rw [show D + 1 + d' = (D + d') + 1 by omega]
    refine ⟨Au, cu, rfl, h1, h2, fun h0 => ?_⟩
    obtain ⟨b, o, rfl, hb, hr⟩ := h3 h0
    refine ⟨b, o, rfl, hS b hb, fun i hi => ?_⟩
    obtain ⟨ui, r, f, s⟩ := hr i hi
    have ne : ∀ (o' : Nat) (x : Value), w.cell? ⟨b, o', none⟩ = some x → (∀ A n cap, x ≠ .slice A n cap) → w'.cell? ⟨b, o', none⟩ = some x := by
      intro o' x hx hn
      rw [hk b o' hb (fun e => by
        obtain ⟨e1, e2⟩ := e
        subst e1 e2
        rw [hq] at hx
        injection hx with hx
        exact hn _ _ _ hx.symm)]
      exact hx
    have r0 := ne _ _ r.c0 (fun _ _ _ e => by cases e)
    have r1 := ne _ _ r.c1 (fun _ _ _ e => by cases e)
    have r2 := ne _ _ r.c2 (fun _ _ _ e => by cases e)
    by_cases e : b = qb ∧ o + i * 4 + 3 = qo
    · obtain ⟨e1, e2⟩ := e
      subst e1 e2
      have h3 := r.c3
      rw [hq] at h3
      injection h3 with h3
      subst h3
      have := LAt.one (s.lat hSB) hl
      exact ⟨v', ⟨r0, r1, r2, hq'⟩, f, by rw [this]; exact hl'.up (by omega)⟩
    · exact ⟨ui, ⟨r0, r1, r2, (hk b _ hb e).trans r.c3⟩, f, LIn.turn hS hSB hq hl hq' hl' hk s⟩

theorem choose_rows {α : Type} (n : Nat) (p : Nat → α → Prop) (h : ∀ i, i < n → ∃ x, p i x) : ∃ l : List α, l.length = n ∧ ∀ i (hi : i < l.length), p i l[i] := by
  induction n with
  | zero => exact ⟨[], rfl, fun i hi => by cases hi⟩
  | succ n ih =>
    obtain ⟨l, hl, hp⟩ := ih fun i hi => h i (by omega)
    obtain ⟨x, hx⟩ := h n (by omega)
    refine ⟨l ++ [x], by simp [hl], fun i hi => ?_⟩
    by_cases hi' : i < l.length
    · rw [List.getElem_append_left hi']; exact hp i hi'
    · have : i = l.length := by simp at hi; omega
      subst this
      simpa [hl] using hx

/-- The rows of a list that is not empty. -/
theorem LNF.rows {w0 : World} {B d : Nat} {v : Value} {l : List C} (h : LNF w0 B (d + 1) v l) (hl : 0 < l.length) : ∃ (D : List (C × Value)) (b o cap : Nat), D.map (·.1) = l ∧ v = .slice (some ⟨b, o, none⟩) D.length cap ∧ b < B ∧ D.length ≤ cap ∧
    ∀ i (h : i < D.length), RowAt w0 b (o + i * 4) D[i].1 D[i].2 ∧ Wf D[i].1 ∧ w0.frozen? ⟨b, o + i * 4, none⟩ = false ∧ LNF w0 B d D[i].2 D[i].1.l := by
  obtain ⟨A, cap, rfl, h1, h2, h3⟩ := h
  obtain ⟨b, o, rfl, hb, hr⟩ := h3 hl
  obtain ⟨D, hDl, hD⟩ := choose_rows l.length (fun i (x : C × Value) => ∃ h : i < l.length, x.1 = l[i] ∧ RowAt w0 b (o + i * 4) x.1 x.2 ∧ Wf x.1 ∧ w0.frozen? ⟨b, o + i * 4, none⟩ = false ∧ LNF w0 B d x.2 x.1.l) (fun i hi => by
    obtain ⟨u, r, f, z, s⟩ := hr i hi
    exact ⟨(l[i], u), hi, rfl, r, f, z, s⟩)
  refine ⟨D, b, o, cap, ?_, by rw [hDl], hb, by omega, fun i hi => ?_⟩
  · apply List.ext_getElem (by simpa using hDl)
    intro i h4 h5
    rw [List.getElem_map]
    obtain ⟨_, e, _⟩ := hD i (by simpa using h4)
    exact e
  · obtain ⟨_, _, h⟩ := hD i hi
    exact h

/-- Behind separate: what is read at the place that it turned. -/
theorem sep_list {B : Nat} {w0 wc w' : World} {Qb Qo dep : Nat} {T : TypeId} {row : Array Value} {ab : Option Addr} {D : List (C × Value)} {b o c k : Nat} {ins : Value} {d : Nat} (hS : SepK wc Qb Qo T row dep ab D b o c k ins w') (hB : B ≤ w0.heap.size) (hwc : w0.heap.size ≤ wc.heap.size) (hb : Below w0.heap.size w0 w') (hc : D.length ≤ c) (hc2 : c ≤ maxLen)
    (hD : ∀ i (h : i < D.length), Wf D[i].1 ∧ LNF w0 B (d + 1) D[i].2 D[i].1.l) : LIn w' (SS B w0 w') (d + 2) (.slice (some ⟨wc.heap.size + 1, 0, none⟩) D.length c) (D.map (·.1)) := by
  obtain ⟨cur, hcur, hok⟩ := hS.own
  refine ⟨some ⟨wc.heap.size + 1, 0, none⟩, c, by rw [List.length_map], by rw [List.length_map]; exact hc, hc2, fun _ => ⟨wc.heap.size + 1, 0, rfl, .inr ⟨by omega, cur, hcur⟩, fun i hi => ?_⟩⟩
  rw [List.length_map] at hi
  obtain ⟨c0, c1, c2, c3⟩ := hok.cells i hi
  obtain ⟨hwf, hl⟩ := hD i hi
  have hc : ∀ j, w'.cell? ⟨wc.heap.size + 1, 0 + i * 4 + j, none⟩ = cur[i * 4 + j]? := fun j => by rw [Nat.zero_add, cell_of_row w' _ _ cur 25 (0, 0) hcur]
  refine ⟨if i < k then fixU D[i].1.l.length D[i].2 else D[i].2, ?_, by simpa using hwf, ?_⟩
  · simp only [List.getElem_map]
    exact ⟨(hc 0).trans c0, (hc 1).trans c1, (hc 2).trans c2, (hc 3).trans c3⟩
  · simp only [List.getElem_map]
    have hl' : LIn w' (SS B w0 w') (d + 1) D[i].2 D[i].1.l := hl.lin hB hb
    split
    · unfold fixU
      split
      · rename_i h0
        rw [List.length_eq_zero_iff.1 h0]
        exact LIn.nil _ _ _
      · exact hl'
    · exact hl'

theorem sep_below {w0 wc w' : World} {Qb Qo dep : Nat} {T : TypeId} {row : Array Value} {ab : Option Addr} {D : List (C × Value)} {b o c k : Nat} {ins : Value} (hS : SepK wc Qb Qo T row dep ab D b o c k ins w') (hb : Below w0.heap.size w0 wc) (hQ : w0.heap.size ≤ Qb) : Below w0.heap.size w0 w' := by
  have hg := hS.grown
  have := hb.size
  exact hb.trans ⟨hg.os, hg.tape, hg.output, hg.size, fun i hi => hg.block i (by omega) (fun e => by injection e; omega)⟩
theorem sep_SS {B : Nat} {w0 wc w' : World} {Qb Qo dep : Nat} {T : TypeId} {row : Array Value} {ab : Option Addr} {D : List (C × Value)} {b o c k : Nat} {ins : Value} (hS : SepK wc Qb Qo T row dep ab D b o c k ins w') (hQ : wc.heap[Qb]? = some (.cells row T (0, 0))) : ∀ x, SS B w0 wc x → SS B w0 w' x := by
  intro x hx
  rcases hx with hx | ⟨h0, cs, hx⟩
  · exact .inl hx
  · right
    refine ⟨h0, ?_⟩
    by_cases e : x = Qb
    · subst e
      rw [hQ] at hx
      injection hx with hx
      injection hx with e1 e2
      subst e2
      exact ⟨_, hS.q⟩
    · exact ⟨cs, (hS.grown.block x (Array.getElem?_eq_some_iff.1 hx).1 (fun h => e (by injection h))).trans hx⟩
theorem sep_cell {wc w' : World} {Qb Qo dep : Nat} {T : TypeId} {row : Array Value} {ab : Option Addr} {D : List (C × Value)} {b o c k : Nat} {ins : Value} (hS : SepK wc Qb Qo T row dep ab D b o c k ins w') (hQ : wc.heap[Qb]? = some (.cells row T (0, 0))) : ∀ x y, x < wc.heap.size → ¬ (x = Qb ∧ y = Qo) → w'.cell? ⟨x, y, none⟩ = wc.cell? ⟨x, y, none⟩ := by
  intro x y hx hn
  by_cases e : x = Qb
  · subst e
    rw [cell_of_row w' x y _ T (0, 0) hS.q, cell_of_row wc x y _ T (0, 0) hQ, Array.getElem?_setIfInBounds_ne (fun e => hn ⟨rfl, e.symm⟩)]
  · exact cell_same (hS.grown.block x hx (fun h => e (by injection h))) y

/-- Behind separate: what the copy reads as. -/
theorem sep_out {B : Nat} {w0 wc w' : World} {Qb Qo dep : Nat} {T : TypeId} {row : Array Value} {ab : Option Addr} {D : List (C × Value)} {b o cap c k : Nat} {ins : Value} {d d0 D0 : Nat} {v0 : Value} {l0 : List C} (hB : B ≤ w0.heap.size) (hS : SepK wc Qb Qo T row dep ab D b o c k ins w') (hb : Below w0.heap.size w0 wc) (hQge : w0.heap.size ≤ Qb) (hQ : wc.heap[Qb]? = some (.cells row T (0, 0)))
    (hv : row[Qo]? = some (.slice (some ⟨b, o, none⟩) D.length cap)) (hl : LNF w0 B d0 (.slice (some ⟨b, o, none⟩) D.length cap) (D.map (·.1))) (hc : D.length ≤ c) (hc2 : c ≤ maxLen) (hD : ∀ i (h : i < D.length), Wf D[i].1 ∧ LNF w0 B (d + 1) D[i].2 D[i].1.l)
    (ho : wc.heap[w0.heap.size]? = some (.cells #[v0] 23 (0, 0))) (hr : LIn wc (SS B w0 wc) D0 v0 l0) : ∃ v1 D1, w'.heap[w0.heap.size]? = some (.cells #[v1] 23 (0, 0)) ∧ LIn w' (SS B w0 w') D1 v1 l0 := by
  have hb' := sep_below hS hb hQge
  have hnew := sep_list hS hB hb.size hb' hc hc2 hD
  have hq : wc.cell? ⟨Qb, Qo, none⟩ = some (.slice (some ⟨b, o, none⟩) D.length cap) := by rw [cell_of_row wc Qb Qo row T (0, 0) hQ]; exact hv
  have hlw : LAt wc wc.heap.size d0 (.slice (some ⟨b, o, none⟩) D.length cap) (D.map (·.1)) := (hl.lat.below (hb.mono hB)).more (by have := hb.size; omega)
  have hlt : Qo < row.size := (Array.getElem?_eq_some_iff.1 hv).1
  have hq' : w'.cell? ⟨Qb, Qo, none⟩ = some (.slice (some ⟨wc.heap.size + 1, 0, none⟩) D.length c) := by
    rw [cell_of_row w' Qb Qo _ T (0, 0) hS.q, Array.getElem?_setIfInBounds_self_of_lt hlt]
  have hSB : ∀ x, SS B w0 wc x → x < wc.heap.size := fun x hx => hx.lt hB hb.size
  by_cases e : Qb = w0.heap.size
  · have hqq := hS.q
    rw [e] at hQ hqq
    rw [ho] at hQ
    injection hQ with hQ
    injection hQ with e1 e2
    subst e1 e2
    have hQo : Qo = 0 := by simp at hlt; exact hlt
    subst hQo
    have hv0 : v0 = .slice (some ⟨b, o, none⟩) D.length cap := by simpa using hv
    subst hv0
    have h1 : l0 = D.map (·.1) := LAt.one (hr.lat hSB) hlw
    subst h1
    exact ⟨_, _, hqq, hnew⟩
  · refine ⟨v0, D0 + (d + 2), ?_, LIn.turn (sep_SS hS hQ) hSB hq hlw hq' hnew (fun x y hx hn => sep_cell hS hQ x y (hSB x hx) hn) hr⟩
    rw [hS.grown.block w0.heap.size (Array.getElem?_eq_some_iff.1 ho).1 (fun h => e (by injection h with h; exact h.symm))]
    exact ho
end Go.Proofs.Ytdmalkkpcggifaa
