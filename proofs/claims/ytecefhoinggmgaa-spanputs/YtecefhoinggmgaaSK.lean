/-
  Rows that a call owns; the contract of span.addRow. No condition.
-/
import Derived.Test.YtecefhoinggmgaaSC
import Derived.Deep.AppendLies
import Derived.OwnWalk
namespace Go.Proofs.Ytecefhoinggmgaa
open Go.RowKit

def rowC (r : Row) : List Value := [.int .i64 r.1, .int .i64 r.2.1, .int .i64 r.2.2.1, .int .i64 r.2.2.2.1, .string r.2.2.2.2]
def rcells (l : List Row) : List Value := l.flatMap rowC
theorem rcells_cons (r : Row) (l : List Row) : rcells (r :: l) = rowC r ++ rcells l := rfl
theorem rcells_append (a b : List Row) : rcells (a ++ b) = rcells a ++ rcells b := by simp [rcells]
theorem rcells_length : ∀ l : List Row, (rcells l).length = l.length * 5
  | [] => rfl
  | r :: l => by rw [rcells_cons, List.length_append, rcells_length l, List.length_cons]; show 5 + _ = _; omega
theorem rcells_get : ∀ (l : List Row) (i j : Nat) (h : i < l.length), j < 5 → (rcells l)[i * 5 + j]? = (rowC l[i])[j]?
  | r :: l, 0, j, _, hj => by
    rw [rcells_cons, List.getElem?_append_left (by show _ < 5; omega), Nat.zero_mul, Nat.zero_add]; rfl
  | r :: l, i + 1, j, h, hj => by
    rw [rcells_cons, List.getElem?_append_right (by show 5 ≤ _; omega)]
    have := rcells_get l i j (by simpa using h) hj
    rw [show (i + 1) * 5 + j - (rowC r).length = i * 5 + j by show (i + 1) * 5 + j - 5 = _; omega, this]; rfl
theorem rcells_one (l : List Row) : ∀ u ∈ rcells l, u.oneCell' = true := by
  intro u hu
  obtain ⟨r, _, hr⟩ := List.mem_flatMap.1 hu
  simp only [rowC, List.mem_cons, List.not_mem_nil, or_false] at hr
  rcases hr with rfl | rfl | rfl | rfl | rfl <;> rfl

/-- The slice v is the call's own, and reads as l. -/
def OwnR (w : World) (n₀ : Nat) (v : Value) (l : List Row) : Prop := w.ownsRow n₀ 52 5 v l.length (rcells l)

theorem OwnR.rows {w : World} {n₀ : Nat} {v : Value} {l : List Row} (h : OwnR w n₀ v l) : RowsAt w w.heap.size v l := by
  rcases h.2 with ⟨rfl, h0⟩ | ⟨g, cap, cur, rfl, hb, hg, hnc, hcm, _, htake⟩
  · exact ⟨none, 0, by rw [h0], by omega, Nat.zero_le _, fun hl => by omega⟩
  · refine ⟨some ⟨g, 0, none⟩, cap, rfl, hnc, hcm, fun _ => ⟨g, 0, rfl, (Array.getElem?_eq_some_iff.1 hg).1, fun i hi => ?_⟩⟩
    have hc : ∀ j, j < 5 → w.cell? ⟨g, 0 + i * 5 + j, none⟩ = (rowC l[i])[j]? := fun j hj => by
      rw [Nat.zero_add, cell_of_row w g (i * 5 + j) cur 52 (0, 0) hg, ← rcells_get l i j hi hj, ← htake, List.getElem?_take, if_pos (by omega), Array.getElem?_toList]
    exact ⟨hc 0 (by omega), hc 1 (by omega), hc 2 (by omega), hc 3 (by omega), hc 4 (by omega)⟩

theorem OwnR.nil (w : World) (n₀ : Nat) : OwnR w n₀ (.slice none 0 0) [] := World.ownsRow_nil w n₀ 52 5

theorem grown_of_below {a w : World} (h : Below a.heap.size a w) (row : Option Nat) : a.grownBy w row := ⟨h.os, h.tape, h.output, h.size, fun i hi _ => h.block i hi⟩
theorem OwnR.below {w w' : World} {n₀ : Nat} {v : Value} {l : List Row} (h : OwnR w n₀ v l) (hb : Below w.heap.size w w') : OwnR w' n₀ v l :=
  World.ownsRow.kept h (grown_of_below hb none) (by cases v.ownBlock <;> simp)
theorem OwnR.slice {w : World} {n₀ : Nat} {v : Value} {l : List Row} (h : OwnR w n₀ v l) : ∃ A cap, v = .slice A l.length cap := by
  rcases h.2 with ⟨rfl, h0⟩ | ⟨g, cap, _, rfl, _⟩
  · exact ⟨none, 0, by rw [h0]⟩
  · exact ⟨_, cap, rfl⟩

theorem addL_snoc : ∀ (l : List Row) (p r : Row), addL (l ++ [p]) r = if contB p r then l ++ [(p.1, r.2.1, p.2.2)] else l ++ [p, r]
  | [], p, r => by
    show addL [p] r = _
    unfold addL
    by_cases h : p.2.1 = r.1 ∧ p.2.2 = r.2.2
    · rw [if_pos h, if_pos (by simp [contB, h])]; rfl
    · rw [if_neg h, if_neg (by simpa [contB] using h)]; rfl
  | x :: l, p, r => by
    have ih := addL_snoc l p r
    have : addL (x :: (l ++ [p])) r = x :: addL (l ++ [p]) r := by
      cases h : l ++ [p] with
      | nil => simp at h
      | cons y ys => rfl
    rw [List.cons_append, this, ih]
    split <;> rfl

theorem Try.info52 : (Try.prog.info? 52).map (fun i => (i.zero, i.size, i.bytes)) = some (some (.agg #[.int .i64 0, .int .i64 0, .int .i64 0, .int .i64 0, .string ⟨#[]⟩]), 5, 48) := by kernel_rfl

/-- What addRow leaves. -/
structure Added (n₀ : Nat) (w : World) (v : Value) (l : List Row) (v' : Value) (w' : World) : Prop where
  own : OwnR w' n₀ v' l
  grown : w.grownBy w' v.ownBlock
  row : v'.ownBlock = v.ownBlock ∨ ∃ k, v'.ownBlock = some k ∧ w.heap.size ≤ k

theorem grown_trans_none {a b c : World} {row : Option Nat} (h : a.grownBy b none) (k : b.grownBy c row) : a.grownBy c row :=
  ⟨k.os.trans h.os, k.tape.trans h.tape, k.output.trans h.output, Nat.le_trans h.size k.size, fun i hi hn => (k.block i (Nat.lt_of_lt_of_le hi h.size) hn).trans (h.block i hi (by simp))⟩

set_option maxHeartbeats 1000000 in
theorem addRow54 (n₀ : Nat) (l : List Row) (r : Row) (v : Value) (w : World) (h : OwnR w n₀ v l) (hn : n₀ ≤ w.heap.size) (hl : l.length ≤ 1000000) :
    Calls Try.prog 54 #[v, rowV r] w fun e w' => ∃ v', e = .returned v' ∧ Added n₀ w v (addL l r) v' w' := by
  obtain ⟨i0, hi, hz0, hz1, hz2⟩ := info_parts Try.info52
  obtain ⟨f, e, k, n, s⟩ := r
  unfold rowV
  simp only
  have hgw : w.grownBy (w.alloc (.cells #[.int .i64 f, .int .i64 e, .int .i64 k, .int .i64 n, .string s] 52)) none := World.grownBy_alloc w _ none
  rcases List.eq_nil_or_concat l with rfl | ⟨l0, p, rfl⟩
  · have hv : v = .slice none 0 0 ∨ ∃ g cap, v = .slice (some ⟨g, 0, none⟩) 0 cap := by
      rcases h.2 with ⟨rfl, _⟩ | ⟨g, cap, _, rfl, _⟩
      · exact .inl rfl
      · exact .inr ⟨g, cap, rfl⟩
    have HO := Lib.hid h
    obtain ⟨A, cap, rfl⟩ := h.slice
    clear hv h
    go_enter Try.func54, Try.ntmps54
    go_wp2_with fail
    go_quiet (fail)
    go_wp2_with (at_builtin; go_must (refine wpList_append_lies _ rfl _ _ 22 rfl n₀ 52 i0 _ 5 48 Try.underlying22 hi hz0 hz1 hz2 rfl (by omega) _ 0 (rcells []) rfl ?own ⟨w.heap.size + 1, 0, none⟩ 1 1 (rowC (f, e, k, n, s)) rfl rfl ?news ?one (by omega) ?c3 ?c4 ?c5 _ rfl ?_))
    case own =>
      have h1 : OwnR ((w.alloc (.cells #[.int .i64 f, .int .i64 e, .int .i64 k, .int .i64 n, .string s] 52)).drewN nq) n₀ (.slice A 0 cap) [] := OwnR.below HO.out (below_drewN ((Below.refl _ _).alloc (Nat.le_refl _) _) nq)
      exact World.ownsRow.alloc h1 _
    case news =>
      refine World.news_of_block (cs := #[.int .i64 f, .int .i64 e, .int .i64 k, .int .i64 n, .string s]) (t := 52) (fr := (0, 0)) ?_
      have h := heap_alloc_new ((w.alloc (.cells #[.int .i64 f, .int .i64 e, .int .i64 k, .int .i64 n, .string s] 52)).drewN nq) (.cells #[.int .i64 f, .int .i64 e, .int .i64 k, .int .i64 n, .string s] 52)
      simpa using h
    case one => simp [rowC, Value.oneCell']
    case c3 => unfold maxLen; omega
    case c4 => omega
    case c5 => simp; omega
    rintro g c w' ho hg hgl hlt
    have hfin : Added n₀ w (.slice A 0 cap) [(f, e, k, n, s)] (.slice (some ⟨g, 0, none⟩) (0 + 1) c) w' := by
      refine ⟨ho, ?_, ?_⟩
      · refine grown_trans_none (b := ((w.alloc (.cells #[.int .i64 f, .int .i64 e, .int .i64 k, .int .i64 n, .string s] 52)).drewN nq).alloc (.cells #[.int .i64 f, .int .i64 e, .int .i64 k, .int .i64 n, .string s] 52)) ?_ hg
        exact grown_of_below ((below_drewN ((Below.refl _ _).alloc (Nat.le_refl _) _) nq).alloc (by simp) _) none
      · rcases hgl with hgl | hgl
        · exact .inl hgl.symm
        · exact .inr ⟨g, rfl, by omega⟩
    have HF := Lib.hid hfin
    clear ho hg hgl hfin HO
    go_wp2
    go_ret
    exact ⟨_, rfl, HF.out⟩
  · have hlen : (l0.concat p).length = l0.length + 1 := by simp
    have hcc : l0.concat p = l0 ++ [p] := by simp
    rw [hcc] at h ⊢
    rw [hlen] at hl
    obtain ⟨pf, pe, pk, pn, ps⟩ := p
    have HADD := Lib.hid (addL_snoc l0 (pf, pe, pk, pn, ps) (f, e, k, n, s))
    have hl2 : (l0 ++ [(pf, pe, pk, pn, ps)] : List Row).length = l0.length + 1 := by simp
    obtain ⟨g, cap, rfl, hbg, hgl⟩ := World.ownsRow.form h (by omega)
    have hrow := h.rows
    obtain ⟨A', c', e', -, -, hr⟩ := hrow
    obtain ⟨b, o, rfl, -, hr⟩ := hr (by omega)
    have hp := hr l0.length (by omega)
    injection e' with e1 e2 e3
    injection e1 with e1
    injection e1 with e4 e5
    subst e4 e5
    rw [show (l0 ++ [(pf, pe, pk, pn, ps)] : List Row)[l0.length] = (pf, pe, pk, pn, ps) by simp] at hp
    rw [hl2] at h ⊢
    simp only [Nat.zero_add] at hp
    have HO := Lib.hid h
    have HC := Lib.hid (continues39 (pf, pe, pk, pn, ps) (f, e, k, n, s))
    unfold rowV at HC
    simp only at HC
    clear hr e3 h hlen hcc hl2
    have hD : Duo w g (l0.length * 5) (pf, pe, pk, pn, ps) w.heap.size (f, e, k, n, s) (w.alloc (.cells #[.int .i64 f, .int .i64 e, .int .i64 k, .int .i64 n, .string s] 52)) :=
      ⟨hp.below ((Below.refl _ _).alloc (Nat.le_refl _) _) hgl, ⟨by simp [go_sem], by simp [go_sem], by simp [go_sem], by simp [go_sem], by simp [go_sem]⟩, by simp; omega, by simp, (Below.refl _ _).alloc (Nat.le_refl _) _⟩
    obtain ⟨p0, p1, p2, p3, p4⟩ := hp
    simp only at p0 p1 p2 p3 p4
    have hi0 : (0 : Int) ≤ (l0.length : Int) := by omega
    have hi2 : (l0.length : Int) + 1 - 1 = (l0.length : Int) := by omega
    have hi3 : IntKind.i64.wrap (l0.length : Int) = (l0.length : Int) := IntWalk.i64_in _ (by omega)
    have hi4 : (l0.length : Int) < (l0.length : Int) + 1 := by omega
    go_enter Try.func54, Try.ntmps54
    go_wp2_with fail
    go_region_held3 (fun w'' => w''.cell? ⟨g, l0.length * 5, none⟩ = some (.int .i64 pf) ∧ w''.cell? ⟨g, l0.length * 5 + 1, none⟩ = some (.int .i64 pe) ∧ w''.cell? ⟨g, l0.length * 5 + 2, none⟩ = some (.int .i64 pk) ∧ w''.cell? ⟨g, l0.length * 5 + 3, none⟩ = some (.int .i64 pn) ∧ w''.cell? ⟨g, l0.length * 5 + 4, none⟩ = some (.string ps) ∧
        w''.cell? ⟨w.heap.size, 0, none⟩ = some (.int .i64 f) ∧ w''.cell? ⟨w.heap.size, 1, none⟩ = some (.int .i64 e) ∧ w''.cell? ⟨w.heap.size, 2, none⟩ = some (.int .i64 k) ∧ w''.cell? ⟨w.heap.size, 3, none⟩ = some (.int .i64 n) ∧ w''.cell? ⟨w.heap.size, 4, none⟩ = some (.string s) ∧ Duo w g (l0.length * 5) (pf, pe, pk, pn, ps) w.heap.size (f, e, k, n, s) w'')
      ((apply SD; repeat (first | exact hD.drew | refine Duo.step ?_ (by assumption))))
      (first | (go_at_call 39; refine (HC.out _).mono ?_; rintro e' w3 ⟨rfl, hbb⟩))
    rename_i hHeld
    obtain ⟨q0, q1, q2, q3, q4, r0, r1, r2, r3, r4, hD'⟩ := hHeld
    have hO2 : OwnR _ n₀ (.slice (some ⟨g, 0, none⟩) (l0.length + 1) cap) (l0 ++ [(pf, pe, pk, pn, ps)]) := OwnR.below HO.out hD'.below
    have hO3 : World.ownsRow w3 n₀ 52 5 (.slice (some ⟨g, 0, none⟩) (l0.length + 1) cap) (l0.length + 1) (rcells (l0 ++ [(pf, pe, pk, pn, ps)])) := by
      unfold OwnR at hO2
      rw [show (l0 ++ [(pf, pe, pk, pn, ps)] : List Row).length = l0.length + 1 by simp] at hO2
      exact hO2
    have HG := Lib.hid (grown_of_below hD'.below none)
    clear hO2
    clear hD p0 p1 p2 p3 p4 HC
    cases hcb : contB (pf, pe, pk, pn, ps) (f, e, k, n, s) with
    | true =>
      have HA : Hid (addL (l0 ++ [(pf, pe, pk, pn, ps)]) (f, e, k, n, s) = l0 ++ [(pf, e, pk, pn, ps)]) := by
        unfold Hid
        rw [HADD.out, hcb]; rfl
      have hfz := World.ownsRow.frozenAt hO3 (l0.length * 5 + 1)
      obtain ⟨hst, hsg⟩ := World.ownsRow.stored hO3 (l0.length * 5 + 1) (.int .i64 e)
      have hset : (rcells (l0 ++ [(pf, pe, pk, pn, ps)])).set (l0.length * 5 + 1) (.int .i64 e) = rcells (l0 ++ [(pf, e, pk, pn, ps)]) := by
        rw [rcells_append, rcells_append, List.set_append_right _ _ (by rw [rcells_length]; omega), rcells_length, show l0.length * 5 + 1 - l0.length * 5 = 1 by omega]; rfl
      rw [hset] at hst
      have hfin : Added n₀ w (.slice (some ⟨g, 0, none⟩) (l0.length + 1) cap) (l0 ++ [(pf, e, pk, pn, ps)]) (.slice (some ⟨g, 0, none⟩) (l0.length + 1) cap) _ :=
        ⟨by unfold OwnR; rw [show (l0 ++ [(pf, e, pk, pn, ps)] : List Row).length = l0.length + 1 by simp]; exact hst, grown_trans_none HG.out hsg, .inl rfl⟩
      have HF := Lib.hid hfin
      clear hfin hst hsg hset hO3 HO HG hD' HADD
      go_wp2
      go_ret
      exact ⟨_, rfl, by rw [HA.out]; exact HF.out⟩
    | false =>
      have HA : Hid (addL (l0 ++ [(pf, pe, pk, pn, ps)]) (f, e, k, n, s) = l0 ++ [(pf, pe, pk, pn, ps), (f, e, k, n, s)]) := by
        unfold Hid
        rw [HADD.out, hcb]; rfl
      have HO3 := Lib.hid hO3
      have HBW := Lib.hid hD'.below
      have hws := hD'.below.size
      clear hO3 HO HADD hD' q0 q1 q2 q3 q4
      go_wp2_with (at_builtin; go_must (refine wpList_append_lies _ rfl _ _ 22 rfl n₀ 52 i0 _ 5 48 Try.underlying22 hi hz0 hz1 hz2 rfl (by omega) _ (l0.length + 1) (rcells (l0 ++ [(pf, pe, pk, pn, ps)])) rfl ?own ⟨w3.heap.size, 0, none⟩ 1 1 (rowC (f, e, k, n, s)) rfl rfl ?news ?one (by omega) ?c3 ?c4 ?c5 _ rfl ?_))
      case own => exact World.ownsRow.alloc HO3.out _
      case news =>
        refine World.news_of_block (cs := #[.int .i64 f, .int .i64 e, .int .i64 k, .int .i64 n, .string s]) (t := 52) (fr := (0, 0)) ?_
        exact heap_alloc_new w3 _
      case one => simp [rowC, Value.oneCell']
      case c3 => unfold maxLen; omega
      case c4 => omega
      case c5 => simp; omega
      rintro g2 c2 w2 ho hg hgl2 hlt
      have hfin : Added n₀ w (.slice (some ⟨g, 0, none⟩) (l0.length + 1) cap) (l0 ++ [(pf, pe, pk, pn, ps), (f, e, k, n, s)]) (.slice (some ⟨g2, 0, none⟩) (l0.length + 1 + 1) c2) w2 := by
        refine ⟨?_, ?_, ?_⟩
        · unfold OwnR
          rw [show (l0 ++ [(pf, pe, pk, pn, ps), (f, e, k, n, s)] : List Row).length = l0.length + 1 + 1 by simp, show rcells (l0 ++ [(pf, pe, pk, pn, ps), (f, e, k, n, s)]) = rcells (l0 ++ [(pf, pe, pk, pn, ps)]) ++ rowC (f, e, k, n, s) by rw [rcells_append, rcells_append, List.append_assoc]; rfl]
          exact ho
        · exact grown_trans_none (grown_of_below (HBW.out.alloc hws _) none) hg
        · rcases hgl2 with hgl2 | hgl2
          · exact .inl hgl2.symm
          · exact .inr ⟨g2, rfl, by omega⟩
      have HF := Lib.hid hfin
      clear ho hg hgl2 hfin HO3 HBW HG
      go_wp2
      go_ret
      exact ⟨_, rfl, by rw [HA.out]; exact HF.out⟩
end Go.Proofs.Ytecefhoinggmgaa
