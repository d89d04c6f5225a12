/-
  A shelf in memory; what its calls leave as it was. No condition.
-/
import Derived.Test.YtjanddnlhaionaaGreatDoorSA
import Derived.Test.YtjanddnlhaionaaGreatDoorL6x6
import Derived.Test.YtjanddnlhaionaaGreatDoorL3x1
namespace Go.Proofs.YtjanddnlhaionaaGreatDoor
open Go.RowKit

/-- What is no part of a tape or of a drum. -/
def Alien (o : Obj) : Prop := ∀ cs ty, o = .cells cs ty (0, 0) → ty ≠ 120 ∧ ty ≠ 144 ∧ ty ≠ 146 ∧ ty ≠ 201 ∧ ty ≠ 203
theorem alien_map (es : Array MapEntry) (c : Nat) : Alien (.map es c) := fun _ _ h => by cases h
theorem alien_cells (cs : Array Value) (ty : TypeId) (h : ty ≠ 120 ∧ ty ≠ 144 ∧ ty ≠ 146 ∧ ty ≠ 201 ∧ ty ≠ 203) : Alien (.cells cs ty (0, 0)) := fun _ _ e => by cases e; exact h
theorem alien9 (cs : Array Value) : Alien (.cells cs 9 (0, 0)) := alien_cells cs 9 (by decide)
theorem alien87 (cs : Array Value) : Alien (.cells cs 87 (0, 0)) := alien_cells cs 87 (by decide)

/-- Of w, what is no part of a tape stands in w', but for G; and all below w0's end. -/
structure Stand (w0 w w' : World) (G : Nat → Prop) : Prop where
  below : Below w0.heap.size w w'
  keep : ∀ k o, w.heap[k]? = some o → Alien o → ¬ G k → w'.heap[k]? = some o
theorem Stand.trans {w0 w w1 w2 : World} {G G' : Nat → Prop} (h : Stand w0 w w1 G) (h' : Stand w0 w1 w2 G') (hG : ∀ k, G' k → G k ∨ w.heap.size ≤ k) : Stand w0 w w2 G :=
  ⟨h.below.trans h'.below, fun k o hk ha hn => h'.keep k o (h.keep k o hk ha hn) ha (fun hk' => by
    rcases hG k hk' with h | h
    · exact hn h
    · have := (Array.getElem?_eq_some_iff.1 hk).1; omega)⟩
theorem Stand.refl (w0 w : World) (G : Nat → Prop) : Stand w0 w w G := ⟨Below.refl _ _, fun _ _ h _ _ => h⟩
theorem Stand.of_turn {w0 w w' : World} {G : Nat → Prop} (ht : L6.Turn G w w') (h0 : w0.heap.size ≤ w.heap.size) (hG : ∀ k, G k → w0.heap.size ≤ k) : Stand w0 w w' G :=
  ⟨ht.below _ h0 hG, fun k o hk _ hn => by rw [ht.block k (Array.getElem?_eq_some_iff.1 hk).1 hn]; exact hk⟩
theorem Stand.of_below {w0 w w' : World} (hb : Below w.heap.size w w') (h0 : w0.heap.size ≤ w.heap.size) (G : Nat → Prop) : Stand w0 w w' G :=
  ⟨hb.mono h0, fun k o hk _ _ => by rw [hb.block k (Array.getElem?_eq_some_iff.1 hk).1]; exact hk⟩
theorem Stand.row {w0 w w' : World} {G : Nat → Prop} (h : Stand w0 w w' G) {B : Nat} {v : Value} {n : Nat} {xs : List Value} (ho : w.ownsRow B 9 1 v n xs) (hn : ∀ k, v.ownBlock = some k → ¬ G k) : w'.ownsRow B 9 1 v n xs := L6.row_keep ho fun k hk => by
  obtain ⟨cs, hc⟩ := L6.row_ty ho hk
  rw [h.keep k _ hc (alien9 cs) (hn k hk)]
  exact hc.symm

/-! ### The tape's calls -/
theorem tape_ty {ty : TypeId} (h : ty = 120 ∨ ty = 144 ∨ ty = 146 ∨ ty = 201 ∨ ty = 203) (h' : ty ≠ 120 ∧ ty ≠ 144 ∧ ty ≠ 146 ∧ ty ≠ 201 ∧ ty ≠ 203) : False := by
  obtain ⟨a, b, c, d, e⟩ := h'
  rcases h with h | h | h | h | h <;> contradiction
theorem tape_five {ty : TypeId} (h : ty = 120 ∨ ty = 144 ∨ ty = 146) : ty = 120 ∨ ty = 144 ∨ ty = 146 ∨ ty = 201 ∨ ty = 203 := by
  rcases h with h | h | h
  · exact .inl h
  · exact .inr (.inl h)
  · exact .inr (.inr (.inl h))
theorem TN.turn {w0 w w' : World} {bt bl b : Nat} {d : L6.D} {t : L6.T} {G : Nat → Prop} (h : L6.TN w0 w bt bl b d t) (hT : L6.Turn G w w') (hG : ∀ k, G k → w0.heap.size ≤ k ∧ ∃ o, w.heap[k]? = some o ∧ Alien o) : L6.TN w0 w' bt bl b d t := by
  obtain ⟨F, h1, h2, h3, h4, h5, h6⟩ := h.core
  have hne : ∀ (k : Nat) (cs : Array Value) (ty : TypeId), w.heap[k]? = some (Obj.cells cs ty (0, 0)) → (ty = 120 ∨ ty = 144 ∨ ty = 146 ∨ ty = 201 ∨ ty = 203) → ¬ G k := fun k cs ty hc hty hk => by
    obtain ⟨-, o, ho, ha⟩ := hG k hk
    rw [hc] at ho
    cases ho
    exact tape_ty hty (ha cs ty rfl)
  have hk2 : ∀ (k : Nat) (cs : Array Value) (ty : TypeId), w.heap[k]? = some (Obj.cells cs ty (0, 0)) → (ty = 120 ∨ ty = 144 ∨ ty = 146 ∨ ty = 201 ∨ ty = 203) → w'.heap[k]? = w.heap[k]? := fun k cs ty hc hty => hT.block k (Array.getElem?_eq_some_iff.1 hc).1 (hne k cs ty hc hty)
  refine ⟨F, ⟨h1.l.keep (hk2 _ _ _ h1.l.rt (by decide)) (hk2 _ _ _ h1.l.rl (by decide)), h1.p.keep hT (fun k hk e => ?_), h1.ok, h1.n1, h1.n2⟩, h2, h3, h4, h5.trans (hT.below _ h5.size (fun k hk => (hG k hk).1))⟩
  obtain ⟨cs, ty, hc, ht⟩ := h6 k hk
  exact hne k cs ty hc (tape_five ht) e
theorem Stand.of_tape {w0 w w' : World} {F : Nat → Prop} (ht : L6.Turn F w w') (h0 : w0.heap.size ≤ w.heap.size) (hF : ∀ k, F k → w0.heap.size ≤ k ∧ ∃ cs ty, w.heap[k]? = some (Obj.cells cs ty (0, 0)) ∧ (ty = 120 ∨ ty = 144 ∨ ty = 146 ∨ ty = 201 ∨ ty = 203)) (G : Nat → Prop) : Stand w0 w w' G :=
  ⟨ht.below _ h0 (fun k hk => (hF k hk).1), fun k o hk ha _ => by
    rw [ht.block k (Array.getElem?_eq_some_iff.1 hk).1 (fun hf => ?_)]
    · exact hk
    · obtain ⟨-, cs, ty, hc, hty⟩ := hF k hf
      rw [hk] at hc
      cases hc
      exact tape_ty hty (ha cs ty rfl)⟩
theorem flT {w0 w : World} {F : Nat → Prop} {bt bl b : Nat} {t : L6.T} (hl : L6.LogAt w bt bl b t) (h2 : ∀ k, F k → w0.heap.size ≤ k) (h4 : w0.heap.size ≤ bl) (hF : ∀ k, F k → ∃ cs ty, w.heap[k]? = some (Obj.cells cs ty (0, 0)) ∧ (ty = 120 ∨ ty = 144 ∨ ty = 146)) :
    ∀ k, L6.FL F bl k → w0.heap.size ≤ k ∧ ∃ cs ty, w.heap[k]? = some (Obj.cells cs ty (0, 0)) ∧ (ty = 120 ∨ ty = 144 ∨ ty = 146 ∨ ty = 201 ∨ ty = 203) := fun k hk => by
  rcases hk with hk | rfl
  · obtain ⟨cs, ty, hc, ht⟩ := hF k hk
    exact ⟨h2 k hk, cs, ty, hc, tape_five ht⟩
  · exact ⟨h4, _, _, hl.rl, by decide⟩
theorem appendA {w0 w : World} {bt bl b : Nat} {d : L6.D} {t : L6.T} (h : L6.TN w0 w bt bl b d t) (hw : d.W.length + 4096 ≤ 1000000) (hc : t.count < 1000000) (s : ByteArray) (hs : s.size ≤ 1000000000) :
    Calls Tryz.prog 132 #[.pointer (some ⟨bt, 0, none⟩), .string s] w fun e w' => e = .returned (.int .i64 (L6.appE t d s)) ∧ L6.TN w0 w' bt bl b (L6.appD t d s) (L6.appT t d s) ∧ ∀ G, Stand w0 w w' G := by
  obtain ⟨F, h1, h2, h3, h4, h5, h6⟩ := h.core
  refine (L6.append26 h1 hw hc s hs).mono ?_
  rintro e w' ⟨he, G, g1, g2, g3⟩
  have hst := fun G => Stand.of_tape (w0 := w0) g3 h5.size (flT h1.l h2 h4 h6) G
  exact ⟨he, ⟨G, g1, fun k hk => by rcases g2 k hk with h | h; exact h2 k h; exact Nat.le_trans h5.size h, h3, h4, h5.trans (hst (fun _ => True)).below⟩, hst⟩
theorem settleA {w0 w : World} {bt bl b : Nat} {d : L6.D} {t : L6.T} (h : L6.TN w0 w bt bl b d t) (hw : d.W.length ≤ 1000000) :
    Calls Tryz.prog 133 #[.pointer (some ⟨bt, 0, none⟩)] w fun e w' => e = .returned (.int .i64 (L6.flushE t d)) ∧ L6.TN w0 w' bt bl b (L6.flushD t d) (L6.flushT t d) ∧ ∀ G, Stand w0 w w' G := by
  obtain ⟨F, h1, h2, h3, h4, h5, h6⟩ := h.core
  refine (L6.settle20 h1 hw).mono ?_
  rintro e w' ⟨he, g1, g3⟩
  have hst := fun G => Stand.of_tape (w0 := w0) g3 h5.size (flT h1.l h2 h4 h6) G
  exact ⟨he, ⟨F, g1, h2, h3, h4, h5.trans (hst (fun _ => True)).below⟩, hst⟩

/-! ### The shelf -/
structure Sf where
  t : L6.T
  m : MP
  c : Nat
  fresh : List ByteArray
/-- What is the shelf's own, beside its tape. -/
def Mine (sb mb : Nat) (fv : Value) (k : Nat) : Prop := k = sb ∨ k = mb ∨ fv.ownBlock = some k
structure SfAt (w0 w : World) (sb mb : Nat) (fv : Value) (bt bl b : Nat) (d : L6.D) (s : Sf) : Prop where
  tn : L6.TN w0 w bt bl b d s.t
  row : w.heap[sb]? = some (.cells #[.pointer (some ⟨bt, 0, none⟩), .map (some mb), fv] 87 (0, 0))
  map : MAt Tryz.prog 9 w mb s.m s.c
  fr : w.ownsRow w0.heap.size 9 1 fv s.fresh.length (L6.strs s.fresh)
  sb0 : w0.heap.size ≤ sb
  mb0 : w0.heap.size ≤ mb
section
variable {w0 w w' : World} {sb mb bt bl b : Nat} {fv : Value} {d d' : L6.D} {s : Sf}
theorem SfAt.old (h : SfAt w0 w sb mb fv bt bl b d s) : Below w0.heap.size w0 w := h.tn.pn.old
theorem SfAt.mine (h : SfAt w0 w sb mb fv bt bl b d s) : ∀ k, Mine sb mb fv k → w0.heap.size ≤ k ∧ ∃ o, w.heap[k]? = some o ∧ Alien o := by
  intro k hk
  rcases hk with rfl | rfl | hk
  · exact ⟨h.sb0, _, h.row, alien87 _⟩
  · obtain ⟨es, cl, hm⟩ := h.map.isMap
    exact ⟨h.mb0, _, hm, alien_map _ _⟩
  · obtain ⟨cs, hc⟩ := L6.row_ty h.fr hk
    exact ⟨L6.row_ge h.fr hk, _, hc, alien9 _⟩
/-- The tape has been used. -/
theorem SfAt.tape {t' : L6.T} (h : SfAt w0 w sb mb fv bt bl b d s) (ht : L6.TN w0 w' bt bl b d' t') (hs : ∀ G, Stand w0 w w' G) : SfAt w0 w' sb mb fv bt bl b d' { s with t := t' } := by
  have h1 := hs (fun _ => False)
  obtain ⟨es, cl, hm⟩ := h.map.isMap
  refine ⟨ht, h1.keep _ _ h.row (alien87 _) (fun e => e), h.map.keep ?_, h1.row h.fr (fun _ _ e => e), h.sb0, h.mb0⟩
  rw [h1.keep _ _ hm (alien_map _ _) (fun e => e), hm]
theorem SfAt.below (h : SfAt w0 w sb mb fv bt bl b d s) (hb : Below w.heap.size w w') : SfAt w0 w' sb mb fv bt bl b d s :=
  ⟨h.tn.below hb, by rw [hb.block _ (Array.getElem?_eq_some_iff.1 h.row).1]; exact h.row, h.map.keep (hb.block _ h.map.lt), L6.row_keep h.fr (fun k hk => by
    obtain ⟨cs, hc⟩ := L6.row_ty h.fr hk
    exact hb.block k (Array.getElem?_eq_some_iff.1 hc).1), h.sb0, h.mb0⟩
theorem SfAt.cells (h : SfAt w0 w sb mb fv bt bl b d s) : w.cell? ⟨sb, 0, none⟩ = some (.pointer (some ⟨bt, 0, none⟩)) ∧ w.cell? ⟨sb, 1, none⟩ = some (.map (some mb)) ∧ w.cell? ⟨sb, 2, none⟩ = some fv ∧ ∀ j, w.frozen? ⟨sb, j, none⟩ = false :=
  ⟨L6.cell_row h.row rfl, L6.cell_row h.row rfl, L6.cell_row h.row rfl, fun j => frozen_of_row w sb j _ _ h.row⟩
theorem SfAt.sb_mb (h : SfAt w0 w sb mb fv bt bl b d s) : sb ≠ mb := by
  obtain ⟨es, cl, hm⟩ := h.map.isMap
  intro e
  have := h.row
  rw [e, hm] at this
  cases this
theorem SfAt.fv_ne (h : SfAt w0 w sb mb fv bt bl b d s) {k : Nat} (hk : fv.ownBlock = some k) : k ≠ sb ∧ k ≠ mb := by
  obtain ⟨cs, hc⟩ := L6.row_ty h.fr hk
  obtain ⟨es, cl, hm⟩ := h.map.isMap
  constructor
  · rintro rfl
    have := h.row
    rw [hc] at this
    cases this
  · rintro rfl
    rw [hc] at hm
    cases hm
/-- The map has turned. -/
theorem SfAt.mapped {m' : MP} {c' : Nat} (h : SfAt w0 w sb mb fv bt bl b d s) (hm : MAt Tryz.prog 9 w' mb m' c') (ht : w.mapTurned w' mb) : SfAt w0 w' sb mb fv bt bl b d { s with m := m', c := c' } ∧ L6.Turn (fun k => k = mb) w w' := by
  have hT : L6.Turn (fun k => some mb = some k) w w' := L6.Turn.of_grown ht.grown (fun k e => by rw [e])
  have hT' : L6.Turn (fun k => k = mb) w w' := hT.mono (fun k e => by injection e with e; exact e.symm)
  refine ⟨⟨TN.turn h.tn hT' (fun k hk => by subst hk; exact h.mine _ (.inr (.inl rfl))), ?_, hm, L6.row_keep h.fr (fun k hk => ?_), h.sb0, h.mb0⟩, hT'⟩
  · rw [hT'.block _ (Array.getElem?_eq_some_iff.1 h.row).1 h.sb_mb]; exact h.row
  · obtain ⟨cs, hc⟩ := L6.row_ty h.fr hk
    exact hT'.block k (Array.getElem?_eq_some_iff.1 hc).1 (h.fv_ne hk).2
end
end Go.Proofs.YtjanddnlhaionaaGreatDoor
