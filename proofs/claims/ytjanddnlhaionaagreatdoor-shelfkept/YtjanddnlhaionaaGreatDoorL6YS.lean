/-
  A tape and rows of strings beside it; the walk of TapeWhole. No condition.
-/
import Derived.Test.YtjanddnlhaionaaGreatDoorL6YR
namespace Go.Proofs.YtjanddnlhaionaaGreatDoor.L6
open Go.RowKit

/-- What lies in rows of strings has not turned. -/
def Keep9 (w w' : World) : Prop := ∀ (k : Nat) (cs : Array Value), w.heap[k]? = some (Obj.cells cs 9 (0, 0)) → w'.heap[k]? = w.heap[k]?
set_option maxRecDepth 100000 in
theorem Keep9.row {w w' : World} (h : Keep9 w w') {B : Nat} {v : Value} {n : Nat} {xs : List Value} (ho : w.ownsRow B 9 1 v n xs) : w'.ownsRow B 9 1 v n xs := row_keep ho fun k hk => by
  obtain ⟨cs, hc⟩ := row_ty ho hk
  exact h k cs hc
set_option maxRecDepth 100000 in
theorem Keep9.of {F : Nat → Prop} {w w' : World} (ht : Turn F w w') (hF : ∀ k, F k → ∃ cs t, w.heap[k]? = some (Obj.cells cs t (0, 0)) ∧ t ≠ 9) : Keep9 w w' := fun k cs hc => ht.block k (Array.getElem?_eq_some_iff.1 hc).1 (fun hk => by
  obtain ⟨cs', t, hc', ht9⟩ := hF k hk
  exact ty_ne hc' hc ht9 rfl)
set_option maxRecDepth 100000 in
theorem TN.core {w0 w : World} {bt bl b : Nat} {d : D} {t : T} (h : TN w0 w bt bl b d t) : ∃ F, TAt w F bt bl b d t ∧ (∀ k, F k → w0.heap.size ≤ k) ∧ w0.heap.size ≤ bt ∧ w0.heap.size ≤ bl ∧ Below w0.heap.size w0 w ∧ ∀ k, F k → ∃ cs ty, w.heap[k]? = some (Obj.cells cs ty (0, 0)) ∧ (ty = 120 ∨ ty = 144 ∨ ty = 146) := by
  obtain ⟨F, h1, h2, h3, h4, h5⟩ := h
  obtain ⟨G, g1, g2, g3⟩ := h1.p.core
  exact ⟨G, ⟨h1.l, g1, h1.ok, fun hk => h1.n1 (g2 _ hk), fun hk => h1.n2 (g2 _ hk)⟩, fun k hk => h2 k (g2 k hk), h3, h4, h5, g3⟩
set_option maxRecDepth 100000 in
theorem fl9 {w : World} {F : Nat → Prop} {bt bl b : Nat} {t : T} (hl : LogAt w bt bl b t) (hF : ∀ k, F k → ∃ cs ty, w.heap[k]? = some (Obj.cells cs ty (0, 0)) ∧ (ty = 120 ∨ ty = 144 ∨ ty = 146)) : ∀ k, FL F bl k → ∃ cs t, w.heap[k]? = some (Obj.cells cs t (0, 0)) ∧ t ≠ 9 := fun k hk => by
  rcases hk with hk | rfl
  · obtain ⟨cs, ty, hc, ht⟩ := hF k hk
    exact ⟨cs, ty, hc, by rcases ht with rfl | rfl | rfl <;> decide⟩
  · exact ⟨_, _, hl.rl, by decide⟩
set_option maxRecDepth 100000 in
theorem appendK {w0 w : World} {bt bl b : Nat} {d : D} {t : T} (h : TN w0 w bt bl b d t) (hw : d.W.length + 4096 ≤ 1000000) (hc : t.count < 1000000) (s : ByteArray) (hs : s.size ≤ 1000000000) :
    Calls Tryz.prog 132 #[.pointer (some ⟨bt, 0, none⟩), .string s] w fun e w' => e = .returned (.int .i64 (appE t d s)) ∧ TN w0 w' bt bl b (appD t d s) (appT t d s) ∧ Keep9 w w' ∧ Below w0.heap.size w w' := by
  obtain ⟨F, h1, h2, h3, h4, h5, h6⟩ := h.core
  refine (append26 h1 hw hc s hs).mono ?_
  rintro e w' ⟨he, G, g1, g2, g3⟩
  have hb := g3.below _ h5.size (fun k hk => by rcases hk with hk | rfl; exact h2 k hk; exact h4)
  exact ⟨he, ⟨G, g1, fun k hk => by rcases g2 k hk with h | h; exact h2 k h; exact Nat.le_trans h5.size h, h3, h4, h5.trans hb⟩, Keep9.of g3 (fl9 h1.l h6), hb⟩
set_option maxRecDepth 100000 in
theorem settleK {w0 w : World} {bt bl b : Nat} {d : D} {t : T} (h : TN w0 w bt bl b d t) (hw : d.W.length ≤ 1000000) :
    Calls Tryz.prog 133 #[.pointer (some ⟨bt, 0, none⟩)] w fun e w' => e = .returned (.int .i64 (flushE t d)) ∧ TN w0 w' bt bl b (flushD t d) (flushT t d) ∧ Keep9 w w' ∧ Below w0.heap.size w w' := by
  obtain ⟨F, h1, h2, h3, h4, h5, h6⟩ := h.core
  refine (settle20 h1 hw).mono ?_
  rintro e w' ⟨he, g1, g3⟩
  have hb := g3.below _ h5.size (fun k hk => by rcases hk with hk | rfl; exact h2 k hk; exact h4)
  exact ⟨he, ⟨F, g1, h2, h3, h4, h5.trans hb⟩, Keep9.of g3 (fl9 h1.l h6), hb⟩
set_option maxRecDepth 100000 in
theorem crashK {w0 w : World} {b : Nat} {d : D} (h : PN w0 w b d) (hw : d.W.length ≤ 1000000) (l : List Int) (lv : Value) (hl : IntsAt w w.heap.size lv l) (hll : l.length ≤ 1000000) :
    Calls Tryz.prog 36 #[.pointer (some ⟨b, 0, none⟩), lv] w fun e w' => e = .returned (.int .i64 0) ∧ PN w0 w' b (crashD d l) ∧ Keep9 w w' ∧ Below w0.heap.size w w' := by
  obtain ⟨F, hP, hF, hB⟩ := h
  obtain ⟨G, g1, g2, g3⟩ := hP.core
  refine (crash16 g1 hw l lv hl hll).mono ?_
  rintro e w' ⟨he, hP', hT⟩
  exact ⟨he, PN.turn (fun k hk => hF k (g2 k hk)) hB hP' hT, Keep9.of hT (fun k hk => by obtain ⟨cs, ty, hc, ht⟩ := g3 k hk; exact ⟨cs, ty, hc, by rcases ht with rfl | rfl | rfl <;> decide⟩), hT.below _ hB.size (fun k hk => hF k (g2 k hk))⟩
set_option maxRecDepth 100000 in
theorem TN.grown {w0 w w' : World} {bt bl b : Nat} {d : D} {t : T} {row : Option Nat} (h : TN w0 w bt bl b d t) (hg : w.grownBy w' row) (hr : ∀ k, row = some k → w0.heap.size ≤ k ∧ ∃ cs, w.heap[k]? = some (Obj.cells cs 9 (0, 0))) : TN w0 w' bt bl b d t := by
  obtain ⟨F, h1, h2, h3, h4, h5, h6⟩ := h.core
  have hne : ∀ (k : Nat) (cs : Array Value) (ty : TypeId), w.heap[k]? = some (Obj.cells cs ty (0, 0)) → ty ≠ 9 → w'.heap[k]? = w.heap[k]? := fun k cs ty hc hty => hg.block k (Array.getElem?_eq_some_iff.1 hc).1 (fun e => by
    obtain ⟨-, cs', hc'⟩ := hr k e.symm
    exact ty_ne hc hc' hty rfl)
  have hT : Turn (fun k => row = some k) w w' := Turn.of_grown hg (fun k e => e)
  refine ⟨F, ⟨h1.l.keep (hne _ _ _ h1.l.rt (by decide)) (hne _ _ _ h1.l.rl (by decide)), h1.p.keep hT (fun k hk e => ?_), h1.ok, h1.n1, h1.n2⟩, h2, h3, h4, h5.grown hg h5.size (fun k e => (hr k e).1)⟩
  obtain ⟨cs, ty, hc, ht⟩ := h6 k hk
  obtain ⟨-, cs', hc'⟩ := hr k e
  exact ty_ne hc hc' (by rcases ht with rfl | rfl | rfl <;> decide) rfl

end Go.Proofs.YtjanddnlhaionaaGreatDoor.L6
