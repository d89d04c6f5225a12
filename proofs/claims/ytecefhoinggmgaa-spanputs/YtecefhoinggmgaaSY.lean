/-
  Contract of the document's add. No condition.
-/
import Derived.Test.YtecefhoinggmgaaSX
import Derived.Deep.RegionHeld3
namespace Go.Proofs.Ytecefhoinggmgaa
open Go.RowKit

theorem step_append_rows {w : World} {ops : Array Oper} {o : Oper} {a : Act} {K : Act → World → Prop} {Q : Exit → Act → World → Prop} {E : Prop} (hgd : o.guard = none) (s x : Operand)
    (ho : o.op = .call { callee := .builtin .append, args := #[s, x], argTypes := #[22, 22] })
    (n₀ : Nat) (v xv : Value) (l l2 : List Row) (hs : a.eval s = v) (hx : a.eval x = xv) (h : OwnR w n₀ v l) (hn : n₀ ≤ w.heap.size) (hr : RowsAt w w.heap.size xv l2) (hl : l.length + l2.length ≤ 1000000)
    (hk : ∀ v' w', OwnR w' n₀ v' (l ++ l2) → w.grownBy w' v.ownBlock → K (a.put o.dst v') w') :
    if Region.wanted o (yielded ops a.tmps) = true then Oper.wp Try.prog o a w K Q else E := by
  have hw : Region.wanted o (yielded ops a.tmps) = true := by simp [Region.wanted, hgd]
  rw [if_pos hw]
  obtain ⟨v', w', hr, h2, h3, _⟩ := run_append_rows w o.type n₀ v xv l l2 h hn hr hl
  unfold Oper.wp execOp
  simp only [ho, resolve, invoke, builtin, Sem.run_bind, Sem.run_pure, Result.andThen_ok, List.map_toArray, List.map_cons, List.map_nil, hs, hx, hr]
  exact hk v' w' h2 h3

theorem rows_far {W W' : World} {B bl b : Nat} {n c : Nat} {l : List Row} (h : RowsAt W B (.slice (some ⟨b, 0, none⟩) n c) l) (hg : W.grownBy W' (some bl)) (hne : b ≠ bl) (hB : B ≤ W.heap.size) : RowsAt W' W'.heap.size (.slice (some ⟨b, 0, none⟩) n c) l := by
  obtain ⟨A, cap, e, h1, h2, h3⟩ := h
  injection e with e1 e2 e3
  subst e1 e2 e3
  refine ⟨_, _, rfl, h1, h2, fun h0 => ?_⟩
  obtain ⟨b', o', e, hb, hr⟩ := h3 h0
  injection e with e
  injection e with e4 e5
  subst e4 e5
  have hlt : b < W.heap.size := by omega
  exact ⟨b, 0, rfl, Nat.lt_of_lt_of_le hlt hg.size, fun i hi => (hr i hi).keep fun o => World.cell?_of_block (hg.block b hlt (fun e => hne (by injection e)))⟩

def addK (l : List Row) (r : Row) : List Row := if kindZ r.2.2 then l else addL l r

set_option maxHeartbeats 1000000 in
theorem add50 (l : List Row) (f t : Int) (v : Vl) (lv : Value) (w : World) (hl : RowsAt w w.heap.size lv l) (hlen : l.length ≤ 100000) :
    Calls Try.prog 50 #[lv, .int .i64 f, .int .i64 t, valV v] w fun e w' => ∃ v', e = .returned v' ∧ RowsAt w' w'.heap.size v' (addK l (f, t, v)) ∧ Below w.heap.size w w' := by
  obtain ⟨k, n, s⟩ := v
  unfold valV
  simp only
  have hb0 := below_new w (.cells #[.int .i64 k, .int .i64 n, .string s] 25)
  have HB0 := Lib.hid hb0
  have HL := Lib.hid (hl.step hb0)
  have HV := Lib.hid (ValAt.new w k n s)
  obtain ⟨A, cap, rfl, h1, h2, h3⟩ := HL.out
  unfold maxLen at h2
  clear hb0 hl
  cases hk : (k == 0) with
  | true =>
    have HK : Hid (addK l (f, t, k, n, s) = l) := by unfold Hid addK kindZ; simp only; rw [hk]; rfl
    clear h3
    go_enter Try.func50, Try.ntmps50
    go_wp2
    go_ret
    exact ⟨_, rfl, by rw [HK.out]; exact HL.out, HB0.out⟩
  | false =>
    have HK : Hid (addK l (f, t, k, n, s) = addL l (f, t, k, n, s)) := by unfold Hid addK kindZ; simp only; rw [hk]; rfl
    obtain ⟨ans, hans⟩ : ∃ ans, addK l (f, t, k, n, s) = ans := ⟨_, rfl⟩
    rw [hans]
    have HA : Hid (addL l (f, t, k, n, s) = ans) := HK.out.symm.trans hans
    clear hans HK
    obtain ⟨v0, v1, v2⟩ := HV.out
    simp only at v0 v1 v2
    have hvl := HV.out.lt
    rcases List.eq_nil_or_concat l with rfl | ⟨l0, p, hlp⟩
    · clear h3
      go_enter Try.func50, Try.ntmps50
      go_wp2_with fail
      generalize w.alloc (.cells #[.int .i64 k, .int .i64 n, .string s] 25) = W0 at HB0 HL HV v0 v1 v2 hvl ⊢
      go_quiet (fail)
      obtain ⟨X, hX⟩ : ∃ X, W0.drewN nq = X := ⟨_, rfl⟩
      have x0 : (W0.drewN nq).cell? ⟨w.heap.size, 0, none⟩ = some (.int .i64 k) := HV.out.c0
      have x1 : (W0.drewN nq).cell? ⟨w.heap.size, 1, none⟩ = some (.int .i64 n) := HV.out.c1
      have x2 : (W0.drewN nq).cell? ⟨w.heap.size, 2, none⟩ = some (.string s) := HV.out.c2
      have hxw : w.heap.size < (W0.drewN nq).heap.size := HV.out.lt
      have HLX := Lib.hid (HL.out.step (below_drewN (Below.refl _ W0) nq))
      have HBX := Lib.hid (below_drewN HB0.out nq)
      rw [hX] at x0 x1 x2 hxw HLX HBX ⊢
      go_wp2_with fail
      have HSB : Hid (∀ W : World, Below X.heap.size X W → (fun w'' => w''.cell? ⟨w.heap.size, 0, none⟩ = some (.int .i64 k) ∧ w''.cell? ⟨w.heap.size, 1, none⟩ = some (.int .i64 n) ∧ w''.cell? ⟨w.heap.size, 2, none⟩ = some (.string s) ∧ Below X.heap.size X w'') W) := fun W h => ⟨(h.cell (p := ⟨w.heap.size, 0, none⟩) hxw).trans x0, (h.cell (p := ⟨w.heap.size, 1, none⟩) hxw).trans x1, (h.cell (p := ⟨w.heap.size, 2, none⟩) hxw).trans x2, h⟩
      have HD0 : Hid (Below X.heap.size X X.drew) := (Below.refl _ X).drew
      have HD1 : Hid (Below X.heap.size X (X.drew.alloc (.cells #[] 52))) := HD0.out.alloc HD0.out.size _
      have HDL : Hid (Below X.heap.size X (X.drew.alloc (.cells #[.int .i64 f, .int .i64 t, .int .i64 k, .int .i64 n, .string s] 52))) := HD0.out.alloc HD0.out.size _
      have HD2 : Hid (Below X.heap.size X ((X.drew.alloc (.cells #[] 52)).alloc (.cells #[.int .i64 f, .int .i64 t, .int .i64 k, .int .i64 n, .string s] 52))) := HD1.out.alloc HD1.out.size _
      have HD3 : Hid (Below X.heap.size X ((X.drew.alloc (.cells #[.int .i64 f, .int .i64 t, .int .i64 k, .int .i64 n, .string s] 52)).alloc (.cells #[] 52))) := HDL.out.alloc HDL.out.size _
      have F1 : Hid (OwnR (X.drew.alloc (.cells #[] 52)) X.heap.size (.slice (some ⟨X.heap.size, 0, none⟩) 0 0) []) := own_lit0 X.drew _ (Nat.le_refl _)
      have F2 : Hid (OwnR ((X.drew.alloc (.cells #[] 52)).alloc (.cells #[.int .i64 f, .int .i64 t, .int .i64 k, .int .i64 n, .string s] 52)) X.heap.size (.slice (some ⟨X.heap.size, 0, none⟩) 0 0) []) := OwnR.below F1.out (below_new _ _)
      have F3 : Hid (OwnR ((X.drew.alloc (.cells #[.int .i64 f, .int .i64 t, .int .i64 k, .int .i64 n, .string s] 52)).alloc (.cells #[] 52)) X.heap.size (.slice (some ⟨X.heap.size + 1, 0, none⟩) 0 0) []) := by
        have h := own_lit0 (X.drew.alloc (.cells #[.int .i64 f, .int .i64 t, .int .i64 k, .int .i64 n, .string s] 52)) X.heap.size HDL.out.size
        have e : (X.drew.alloc (.cells #[.int .i64 f, .int .i64 t, .int .i64 k, .int .i64 n, .string s] 52)).heap.size = X.heap.size + 1 := by simp
        rw [e] at h
        exact h
      have R1 := Lib.hid ((HLX.out.below HD1.out).more HD1.out.size)
      have R2 := Lib.hid ((HLX.out.below HD2.out).more HD2.out.size)
      have R3 := Lib.hid ((HLX.out.below HD3.out).more HD3.out.size)
      have HG1 : Hid (∀ w3, (X.drew.alloc (.cells #[] 52)).grownBy w3 (some X.heap.size) → Below X.heap.size X w3) := fun w3 h => HD1.out.trans (below_grown F1.out HD1.out.size h)
      have HG2 : Hid (∀ w3, ((X.drew.alloc (.cells #[] 52)).alloc (.cells #[.int .i64 f, .int .i64 t, .int .i64 k, .int .i64 n, .string s] 52)).grownBy w3 (some X.heap.size) → Below X.heap.size X w3) := fun w3 h => HD2.out.trans (below_grown F2.out HD2.out.size h)
      have HG3 : Hid (∀ w3, ((X.drew.alloc (.cells #[.int .i64 f, .int .i64 t, .int .i64 k, .int .i64 n, .string s] 52)).alloc (.cells #[] 52)).grownBy w3 (some (X.heap.size + 1)) → Below X.heap.size X w3) := fun w3 h => HD3.out.trans (below_grown F3.out HD3.out.size h)
      have G2 : Hid (∀ w3, ((X.drew.alloc (.cells #[] 52)).alloc (.cells #[.int .i64 f, .int .i64 t, .int .i64 k, .int .i64 n, .string s] 52)).grownBy w3 (some X.heap.size) → RowsAt w3 w3.heap.size (.slice (some ⟨X.heap.size + 1, 0, none⟩) 1 1) [(f, t, k, n, s)]) := fun w3 h => by
        have h1 := rows_lit1 (X.drew.alloc (.cells #[] 52)) f t k n s
        have e : (X.drew.alloc (.cells #[] 52)).heap.size = X.heap.size + 1 := by simp
        rw [e] at h1
        exact rows_far h1 h (by omega) (by simp)
      have G3 : Hid (∀ w3, ((X.drew.alloc (.cells #[.int .i64 f, .int .i64 t, .int .i64 k, .int .i64 n, .string s] 52)).alloc (.cells #[] 52)).grownBy w3 (some (X.heap.size + 1)) → RowsAt w3 w3.heap.size (.slice (some ⟨X.heap.size, 0, none⟩) 1 1) [(f, t, k, n, s)]) := fun w3 h =>
        rows_far (((rows_lit1 X.drew f t k n s).more (show X.drew.heap.size + 1 ≤ (X.drew.alloc (.cells #[.int .i64 f, .int .i64 t, .int .i64 k, .int .i64 n, .string s] 52)).heap.size by simp)).step (below_new _ _)) h (by omega) (Nat.le_refl _)
      have G1 : Hid (∀ w3 : World, RowsAt (w3.alloc (.cells #[.int .i64 f, .int .i64 t, .int .i64 k, .int .i64 n, .string s] 52)) (w3.alloc (.cells #[.int .i64 f, .int .i64 t, .int .i64 k, .int .i64 n, .string s] 52)).heap.size (.slice (some ⟨w3.heap.size, 0, none⟩) 1 1) [(f, t, k, n, s)]) := fun w3 =>
        (rows_lit1 w3 f t k n s).more (by simp)
      have HAL : Hid (∀ W : World, (fun w'' => w''.cell? ⟨w.heap.size, 0, none⟩ = some (.int .i64 k) ∧ w''.cell? ⟨w.heap.size, 1, none⟩ = some (.int .i64 n) ∧ w''.cell? ⟨w.heap.size, 2, none⟩ = some (.string s) ∧ Below X.heap.size X w'') W → Below X.heap.size X (W.alloc (.cells #[.int .i64 f, .int .i64 t, .int .i64 k, .int .i64 n, .string s] 52))) := fun W h => h.2.2.2.alloc h.2.2.2.size _
      have HSZ : Hid (∀ W : World, (fun w'' => w''.cell? ⟨w.heap.size, 0, none⟩ = some (.int .i64 k) ∧ w''.cell? ⟨w.heap.size, 1, none⟩ = some (.int .i64 n) ∧ w''.cell? ⟨w.heap.size, 2, none⟩ = some (.string s) ∧ Below X.heap.size X w'') W → X.heap.size ≤ W.heap.size) := fun W h => h.2.2.2.size
      have HGO : Hid (∀ (W w5 : World) (v : Value), W.grownBy w5 v.ownBlock → (∃ W', OwnR W' X.heap.size v []) → (fun w'' => w''.cell? ⟨w.heap.size, 0, none⟩ = some (.int .i64 k) ∧ w''.cell? ⟨w.heap.size, 1, none⟩ = some (.int .i64 n) ∧ w''.cell? ⟨w.heap.size, 2, none⟩ = some (.string s) ∧ Below X.heap.size X w'') W → Below X.heap.size X w5) := fun W w5 v hg ⟨W', ho⟩ h =>
        h.2.2.2.trans ⟨hg.os, hg.tape, hg.output, hg.size, fun i hi => hg.block i (Nat.lt_of_lt_of_le hi h.2.2.2.size) (fun e => by have := (World.ownsRow.lt ho i e.symm).1; omega)⟩
      go_region_held3 (fun w'' => w''.cell? ⟨w.heap.size, 0, none⟩ = some (.int .i64 k) ∧ w''.cell? ⟨w.heap.size, 1, none⟩ = some (.int .i64 n) ∧ w''.cell? ⟨w.heap.size, 2, none⟩ = some (.string s) ∧ Below X.heap.size X w'')
        ((apply HSB.out; first | exact HD0.out | exact HD1.out | exact HDL.out | exact HD2.out | exact HD3.out | exact HG1.out _ (by assumption) | exact HG2.out _ (by assumption) | exact HG3.out _ (by assumption) | exact HAL.out _ (by assumption) | exact HGO.out _ _ _ (by assumption) ⟨_, by assumption⟩ (by assumption)))
        (first
          | (refine step_append_rows rfl _ _ rfl X.heap.size _ _ [] [] rfl rfl (by first | exact F1.out | exact F2.out | exact F3.out) (HSZ.out _ (by assumption)) (by first | exact R1.out | exact R2.out | exact R3.out) (by simp <;> omega) ?_; intro v3 w3 ho3 hg3)
          | (refine step_append_rows rfl _ _ rfl X.heap.size _ _ [] [(f, t, k, n, s)] rfl rfl (by first | assumption | exact OwnR.below (by assumption) (below_new _ _)) (HSZ.out _ (by assumption)) (by first | exact G1.out _ | exact G2.out _ (by assumption) | exact G3.out _ (by assumption)) (by simp <;> omega) ?_; intro v5 w5 ho5 hg5))
      all_goals rename_i hHeld
      all_goals
        have HO5 := Lib.hid ho5
        have HB5 : Hid (Below w.heap.size w w5) := HBX.out.trans (hHeld.2.2.2.mono HBX.out.size)
        obtain ⟨A5, c5, rfl⟩ := HO5.out.slice
        clear ho5 hHeld
        go_wp2
        go_ret
        exact ⟨_, rfl, by rw [← HA.out]; exact HO5.out.rows, HB5.out⟩
    · obtain rfl : l = l0 ++ [p] := by rw [hlp]; simp
      clear hlp
      obtain ⟨pf, pe, pk, pn, ps⟩ := p
      have hl2 : (l0 ++ [(pf, pe, pk, pn, ps)] : List Row).length = l0.length + 1 := by simp
      obtain ⟨b, o, rfl, hb, hr⟩ := h3 (by rw [hl2]; omega)
      have hrk := hr l0.length (by rw [hl2]; omega)
      rw [hl2] at h1 hlen HL ⊢
      rw [show (l0 ++ [(pf, pe, pk, pn, ps)] : List Row)[l0.length] = (pf, pe, pk, pn, ps) by simp] at hrk
      obtain ⟨-, p1, p2, p3, p4⟩ := hrk
      simp only at p1 p2 p3 p4
      have HADD := Lib.hid (addL_snoc l0 (pf, pe, pk, pn, ps) (f, t, k, n, s))
      have hi0 : (0 : Int) ≤ (l0.length : Int) := by omega
      have hi2 : (l0.length : Int) + 1 - 1 = (l0.length : Int) := by omega
      have hi3 : IntKind.i64.wrap (l0.length : Int) = (l0.length : Int) := IntWalk.i64_in _ (by omega)
      have hi4 : (l0.length : Int) < (l0.length : Int) + 1 := by omega
      obtain ⟨q, hq⟩ : ∃ q, decide (((pk, pn, ps) : Vl) = (k, n, s)) = q := ⟨_, rfl⟩
      have heq := eqlVl (pk, pn, ps) (k, n, s) q hq
      unfold valV at heq
      simp only at heq
      have HCB : Hid (contB (pf, pe, pk, pn, ps) (f, t, k, n, s) = ((pe == f) && q)) := by
        unfold Hid contB
        rw [← hq]
        simp only
        by_cases e : pe = f <;> simp [e]
      clear h3 hr hq hl2
      cases hpe : (pe == f) with
      | false =>
        have HAN : Hid (addL (l0 ++ [(pf, pe, pk, pn, ps)]) (f, t, k, n, s) = l0 ++ [(pf, pe, pk, pn, ps), (f, t, k, n, s)]) := by
          unfold Hid
          rw [HADD.out, HCB.out, hpe]; rfl
        go_enter Try.func50, Try.ntmps50
        go_wp2_with fail
        generalize w.alloc (.cells #[.int .i64 k, .int .i64 n, .string s] 25) = W0 at HB0 HL HV v0 v1 v2 hvl hb p1 p2 p3 p4 ⊢
        go_quiet (fail)
        obtain ⟨X, hX⟩ : ∃ X, W0.drewN nq = X := ⟨_, rfl⟩
        have x0 : (W0.drewN nq).cell? ⟨w.heap.size, 0, none⟩ = some (.int .i64 k) := HV.out.c0
        have x1 : (W0.drewN nq).cell? ⟨w.heap.size, 1, none⟩ = some (.int .i64 n) := HV.out.c1
        have x2 : (W0.drewN nq).cell? ⟨w.heap.size, 2, none⟩ = some (.string s) := HV.out.c2
        have hxw : w.heap.size < (W0.drewN nq).heap.size := HV.out.lt
        have HLX := Lib.hid (HL.out.step (below_drewN (Below.refl _ W0) nq))
        have HBX := Lib.hid (below_drewN HB0.out nq)
        rw [hX] at x0 x1 x2 hxw HLX HBX ⊢
        go_wp2_with fail
        have HSB : Hid (∀ W : World, Below X.heap.size X W → (fun w'' => w''.cell? ⟨w.heap.size, 0, none⟩ = some (.int .i64 k) ∧ w''.cell? ⟨w.heap.size, 1, none⟩ = some (.int .i64 n) ∧ w''.cell? ⟨w.heap.size, 2, none⟩ = some (.string s) ∧ Below X.heap.size X w'') W) := fun W h => ⟨(h.cell (p := ⟨w.heap.size, 0, none⟩) hxw).trans x0, (h.cell (p := ⟨w.heap.size, 1, none⟩) hxw).trans x1, (h.cell (p := ⟨w.heap.size, 2, none⟩) hxw).trans x2, h⟩
        have HD0 : Hid (Below X.heap.size X X.drew) := (Below.refl _ X).drew
        have HD1 : Hid (Below X.heap.size X (X.drew.alloc (.cells #[] 52))) := HD0.out.alloc HD0.out.size _
        have HDL : Hid (Below X.heap.size X (X.drew.alloc (.cells #[.int .i64 f, .int .i64 t, .int .i64 k, .int .i64 n, .string s] 52))) := HD0.out.alloc HD0.out.size _
        have HD2 : Hid (Below X.heap.size X ((X.drew.alloc (.cells #[] 52)).alloc (.cells #[.int .i64 f, .int .i64 t, .int .i64 k, .int .i64 n, .string s] 52))) := HD1.out.alloc HD1.out.size _
        have HD3 : Hid (Below X.heap.size X ((X.drew.alloc (.cells #[.int .i64 f, .int .i64 t, .int .i64 k, .int .i64 n, .string s] 52)).alloc (.cells #[] 52))) := HDL.out.alloc HDL.out.size _
        have F1 : Hid (OwnR (X.drew.alloc (.cells #[] 52)) X.heap.size (.slice (some ⟨X.heap.size, 0, none⟩) 0 0) []) := own_lit0 X.drew _ (Nat.le_refl _)
        have F2 : Hid (OwnR ((X.drew.alloc (.cells #[] 52)).alloc (.cells #[.int .i64 f, .int .i64 t, .int .i64 k, .int .i64 n, .string s] 52)) X.heap.size (.slice (some ⟨X.heap.size, 0, none⟩) 0 0) []) := OwnR.below F1.out (below_new _ _)
        have F3 : Hid (OwnR ((X.drew.alloc (.cells #[.int .i64 f, .int .i64 t, .int .i64 k, .int .i64 n, .string s] 52)).alloc (.cells #[] 52)) X.heap.size (.slice (some ⟨X.heap.size + 1, 0, none⟩) 0 0) []) := by
          have h := own_lit0 (X.drew.alloc (.cells #[.int .i64 f, .int .i64 t, .int .i64 k, .int .i64 n, .string s] 52)) X.heap.size HDL.out.size
          have e : (X.drew.alloc (.cells #[.int .i64 f, .int .i64 t, .int .i64 k, .int .i64 n, .string s] 52)).heap.size = X.heap.size + 1 := by simp
          rw [e] at h
          exact h
        have R1 := Lib.hid ((HLX.out.below HD1.out).more HD1.out.size)
        have R2 := Lib.hid ((HLX.out.below HD2.out).more HD2.out.size)
        have R3 := Lib.hid ((HLX.out.below HD3.out).more HD3.out.size)
        have HG1 : Hid (∀ w3, (X.drew.alloc (.cells #[] 52)).grownBy w3 (some X.heap.size) → Below X.heap.size X w3) := fun w3 h => HD1.out.trans (below_grown F1.out HD1.out.size h)
        have HG2 : Hid (∀ w3, ((X.drew.alloc (.cells #[] 52)).alloc (.cells #[.int .i64 f, .int .i64 t, .int .i64 k, .int .i64 n, .string s] 52)).grownBy w3 (some X.heap.size) → Below X.heap.size X w3) := fun w3 h => HD2.out.trans (below_grown F2.out HD2.out.size h)
        have HG3 : Hid (∀ w3, ((X.drew.alloc (.cells #[.int .i64 f, .int .i64 t, .int .i64 k, .int .i64 n, .string s] 52)).alloc (.cells #[] 52)).grownBy w3 (some (X.heap.size + 1)) → Below X.heap.size X w3) := fun w3 h => HD3.out.trans (below_grown F3.out HD3.out.size h)
        have G2 : Hid (∀ w3, ((X.drew.alloc (.cells #[] 52)).alloc (.cells #[.int .i64 f, .int .i64 t, .int .i64 k, .int .i64 n, .string s] 52)).grownBy w3 (some X.heap.size) → RowsAt w3 w3.heap.size (.slice (some ⟨X.heap.size + 1, 0, none⟩) 1 1) [(f, t, k, n, s)]) := fun w3 h => by
          have h1 := rows_lit1 (X.drew.alloc (.cells #[] 52)) f t k n s
          have e : (X.drew.alloc (.cells #[] 52)).heap.size = X.heap.size + 1 := by simp
          rw [e] at h1
          exact rows_far h1 h (by omega) (by simp)
        have G3 : Hid (∀ w3, ((X.drew.alloc (.cells #[.int .i64 f, .int .i64 t, .int .i64 k, .int .i64 n, .string s] 52)).alloc (.cells #[] 52)).grownBy w3 (some (X.heap.size + 1)) → RowsAt w3 w3.heap.size (.slice (some ⟨X.heap.size, 0, none⟩) 1 1) [(f, t, k, n, s)]) := fun w3 h =>
          rows_far (((rows_lit1 X.drew f t k n s).more (show X.drew.heap.size + 1 ≤ (X.drew.alloc (.cells #[.int .i64 f, .int .i64 t, .int .i64 k, .int .i64 n, .string s] 52)).heap.size by simp)).step (below_new _ _)) h (by omega) (Nat.le_refl _)
        have G1 : Hid (∀ w3 : World, RowsAt (w3.alloc (.cells #[.int .i64 f, .int .i64 t, .int .i64 k, .int .i64 n, .string s] 52)) (w3.alloc (.cells #[.int .i64 f, .int .i64 t, .int .i64 k, .int .i64 n, .string s] 52)).heap.size (.slice (some ⟨w3.heap.size, 0, none⟩) 1 1) [(f, t, k, n, s)]) := fun w3 =>
          (rows_lit1 w3 f t k n s).more (by simp)
        have HAL : Hid (∀ W : World, (fun w'' => w''.cell? ⟨w.heap.size, 0, none⟩ = some (.int .i64 k) ∧ w''.cell? ⟨w.heap.size, 1, none⟩ = some (.int .i64 n) ∧ w''.cell? ⟨w.heap.size, 2, none⟩ = some (.string s) ∧ Below X.heap.size X w'') W → Below X.heap.size X (W.alloc (.cells #[.int .i64 f, .int .i64 t, .int .i64 k, .int .i64 n, .string s] 52))) := fun W h => h.2.2.2.alloc h.2.2.2.size _
        have HSZ : Hid (∀ W : World, (fun w'' => w''.cell? ⟨w.heap.size, 0, none⟩ = some (.int .i64 k) ∧ w''.cell? ⟨w.heap.size, 1, none⟩ = some (.int .i64 n) ∧ w''.cell? ⟨w.heap.size, 2, none⟩ = some (.string s) ∧ Below X.heap.size X w'') W → X.heap.size ≤ W.heap.size) := fun W h => h.2.2.2.size
        have HGO : Hid (∀ (W w5 : World) (v : Value), W.grownBy w5 v.ownBlock → (∃ W', OwnR W' X.heap.size v (l0 ++ [(pf, pe, pk, pn, ps)])) → (fun w'' => w''.cell? ⟨w.heap.size, 0, none⟩ = some (.int .i64 k) ∧ w''.cell? ⟨w.heap.size, 1, none⟩ = some (.int .i64 n) ∧ w''.cell? ⟨w.heap.size, 2, none⟩ = some (.string s) ∧ Below X.heap.size X w'') W → Below X.heap.size X w5) := fun W w5 v hg ⟨W', ho⟩ h =>
          h.2.2.2.trans ⟨hg.os, hg.tape, hg.output, hg.size, fun i hi => hg.block i (Nat.lt_of_lt_of_le hi h.2.2.2.size) (fun e => by have := (World.ownsRow.lt ho i e.symm).1; omega)⟩
        go_region_held3 (fun w'' => w''.cell? ⟨w.heap.size, 0, none⟩ = some (.int .i64 k) ∧ w''.cell? ⟨w.heap.size, 1, none⟩ = some (.int .i64 n) ∧ w''.cell? ⟨w.heap.size, 2, none⟩ = some (.string s) ∧ Below X.heap.size X w'')
          ((apply HSB.out; first | exact HD0.out | exact HD1.out | exact HDL.out | exact HD2.out | exact HD3.out | exact HG1.out _ (by assumption) | exact HG2.out _ (by assumption) | exact HG3.out _ (by assumption) | exact HAL.out _ (by assumption) | exact HGO.out _ _ _ (by assumption) ⟨_, by assumption⟩ (by assumption)))
          (first
            | (refine step_append_rows rfl _ _ rfl X.heap.size _ _ [] (l0 ++ [(pf, pe, pk, pn, ps)]) rfl rfl (by first | exact F1.out | exact F2.out | exact F3.out) (HSZ.out _ (by assumption)) (by first | exact R1.out | exact R2.out | exact R3.out) (by simp <;> omega) ?_; intro v3 w3 ho3 hg3)
            | (refine step_append_rows rfl _ _ rfl X.heap.size _ _ (l0 ++ [(pf, pe, pk, pn, ps)]) [(f, t, k, n, s)] rfl rfl (by first | assumption | exact OwnR.below (by assumption) (below_new _ _)) (HSZ.out _ (by assumption)) (by first | exact G1.out _ | exact G2.out _ (by assumption) | exact G3.out _ (by assumption)) (by simp <;> omega) ?_; intro v5 w5 ho5 hg5))
        all_goals rename_i hHeld
        all_goals
          have HO5 := Lib.hid ho5
          have HB5 : Hid (Below w.heap.size w w5) := HBX.out.trans (hHeld.2.2.2.mono HBX.out.size)
          obtain ⟨A5, c5, rfl⟩ := HO5.out.slice
          have HRF : Hid (RowsAt w5 w5.heap.size (.slice A5 (l0.length + 2) c5) (l0 ++ [(pf, pe, pk, pn, ps), (f, t, k, n, s)])) := by
            have h := HO5.out.rows
            simp only [List.append_assoc, List.cons_append, List.nil_append, List.length_append, List.length_cons, List.length_nil] at h
            exact h
          clear ho5 hHeld HO5
          go_wp2
          go_ret
          exact ⟨_, rfl, by rw [← HA.out, HAN.out]; exact HRF.out, HB5.out⟩
      | true =>
        cases q with
        | false =>
          have HAN : Hid (addL (l0 ++ [(pf, pe, pk, pn, ps)]) (f, t, k, n, s) = l0 ++ [(pf, pe, pk, pn, ps), (f, t, k, n, s)]) := by
            unfold Hid
            rw [HADD.out, HCB.out, hpe]; rfl
          go_enter Try.func50, Try.ntmps50
          go_wp2_with fail
          generalize w.alloc (.cells #[.int .i64 k, .int .i64 n, .string s] 25) = W0 at HB0 HL HV v0 v1 v2 hvl hb p1 p2 p3 p4 ⊢
          go_quiet (fail)
          obtain ⟨X, hX⟩ : ∃ X, W0.drewN nq = X := ⟨_, rfl⟩
          have x0 : (W0.drewN nq).cell? ⟨w.heap.size, 0, none⟩ = some (.int .i64 k) := HV.out.c0
          have x1 : (W0.drewN nq).cell? ⟨w.heap.size, 1, none⟩ = some (.int .i64 n) := HV.out.c1
          have x2 : (W0.drewN nq).cell? ⟨w.heap.size, 2, none⟩ = some (.string s) := HV.out.c2
          have hxw : w.heap.size < (W0.drewN nq).heap.size := HV.out.lt
          have HLX := Lib.hid (HL.out.step (below_drewN (Below.refl _ W0) nq))
          have HBX := Lib.hid (below_drewN HB0.out nq)
          rw [hX] at x0 x1 x2 hxw HLX HBX ⊢
          go_wp2_with fail
          have HSB : Hid (∀ W : World, Below X.heap.size X W → (fun w'' => w''.cell? ⟨w.heap.size, 0, none⟩ = some (.int .i64 k) ∧ w''.cell? ⟨w.heap.size, 1, none⟩ = some (.int .i64 n) ∧ w''.cell? ⟨w.heap.size, 2, none⟩ = some (.string s) ∧ Below X.heap.size X w'') W) := fun W h => ⟨(h.cell (p := ⟨w.heap.size, 0, none⟩) hxw).trans x0, (h.cell (p := ⟨w.heap.size, 1, none⟩) hxw).trans x1, (h.cell (p := ⟨w.heap.size, 2, none⟩) hxw).trans x2, h⟩
          have HD0 : Hid (Below X.heap.size X X.drew) := (Below.refl _ X).drew
          have HD1 : Hid (Below X.heap.size X (X.drew.alloc (.cells #[] 52))) := HD0.out.alloc HD0.out.size _
          have HDL : Hid (Below X.heap.size X (X.drew.alloc (.cells #[.int .i64 f, .int .i64 t, .int .i64 k, .int .i64 n, .string s] 52))) := HD0.out.alloc HD0.out.size _
          have HD2 : Hid (Below X.heap.size X ((X.drew.alloc (.cells #[] 52)).alloc (.cells #[.int .i64 f, .int .i64 t, .int .i64 k, .int .i64 n, .string s] 52))) := HD1.out.alloc HD1.out.size _
          have HD3 : Hid (Below X.heap.size X ((X.drew.alloc (.cells #[.int .i64 f, .int .i64 t, .int .i64 k, .int .i64 n, .string s] 52)).alloc (.cells #[] 52))) := HDL.out.alloc HDL.out.size _
          have F1 : Hid (OwnR (X.drew.alloc (.cells #[] 52)) X.heap.size (.slice (some ⟨X.heap.size, 0, none⟩) 0 0) []) := own_lit0 X.drew _ (Nat.le_refl _)
          have F2 : Hid (OwnR ((X.drew.alloc (.cells #[] 52)).alloc (.cells #[.int .i64 f, .int .i64 t, .int .i64 k, .int .i64 n, .string s] 52)) X.heap.size (.slice (some ⟨X.heap.size, 0, none⟩) 0 0) []) := OwnR.below F1.out (below_new _ _)
          have F3 : Hid (OwnR ((X.drew.alloc (.cells #[.int .i64 f, .int .i64 t, .int .i64 k, .int .i64 n, .string s] 52)).alloc (.cells #[] 52)) X.heap.size (.slice (some ⟨X.heap.size + 1, 0, none⟩) 0 0) []) := by
            have h := own_lit0 (X.drew.alloc (.cells #[.int .i64 f, .int .i64 t, .int .i64 k, .int .i64 n, .string s] 52)) X.heap.size HDL.out.size
            have e : (X.drew.alloc (.cells #[.int .i64 f, .int .i64 t, .int .i64 k, .int .i64 n, .string s] 52)).heap.size = X.heap.size + 1 := by simp
            rw [e] at h
            exact h
          have R1 := Lib.hid ((HLX.out.below HD1.out).more HD1.out.size)
          have R2 := Lib.hid ((HLX.out.below HD2.out).more HD2.out.size)
          have R3 := Lib.hid ((HLX.out.below HD3.out).more HD3.out.size)
          have HG1 : Hid (∀ w3, (X.drew.alloc (.cells #[] 52)).grownBy w3 (some X.heap.size) → Below X.heap.size X w3) := fun w3 h => HD1.out.trans (below_grown F1.out HD1.out.size h)
          have HG2 : Hid (∀ w3, ((X.drew.alloc (.cells #[] 52)).alloc (.cells #[.int .i64 f, .int .i64 t, .int .i64 k, .int .i64 n, .string s] 52)).grownBy w3 (some X.heap.size) → Below X.heap.size X w3) := fun w3 h => HD2.out.trans (below_grown F2.out HD2.out.size h)
          have HG3 : Hid (∀ w3, ((X.drew.alloc (.cells #[.int .i64 f, .int .i64 t, .int .i64 k, .int .i64 n, .string s] 52)).alloc (.cells #[] 52)).grownBy w3 (some (X.heap.size + 1)) → Below X.heap.size X w3) := fun w3 h => HD3.out.trans (below_grown F3.out HD3.out.size h)
          have G2 : Hid (∀ w3, ((X.drew.alloc (.cells #[] 52)).alloc (.cells #[.int .i64 f, .int .i64 t, .int .i64 k, .int .i64 n, .string s] 52)).grownBy w3 (some X.heap.size) → RowsAt w3 w3.heap.size (.slice (some ⟨X.heap.size + 1, 0, none⟩) 1 1) [(f, t, k, n, s)]) := fun w3 h => by
            have h1 := rows_lit1 (X.drew.alloc (.cells #[] 52)) f t k n s
            have e : (X.drew.alloc (.cells #[] 52)).heap.size = X.heap.size + 1 := by simp
            rw [e] at h1
            exact rows_far h1 h (by omega) (by simp)
          have G3 : Hid (∀ w3, ((X.drew.alloc (.cells #[.int .i64 f, .int .i64 t, .int .i64 k, .int .i64 n, .string s] 52)).alloc (.cells #[] 52)).grownBy w3 (some (X.heap.size + 1)) → RowsAt w3 w3.heap.size (.slice (some ⟨X.heap.size, 0, none⟩) 1 1) [(f, t, k, n, s)]) := fun w3 h =>
            rows_far (((rows_lit1 X.drew f t k n s).more (show X.drew.heap.size + 1 ≤ (X.drew.alloc (.cells #[.int .i64 f, .int .i64 t, .int .i64 k, .int .i64 n, .string s] 52)).heap.size by simp)).step (below_new _ _)) h (by omega) (Nat.le_refl _)
          have G1 : Hid (∀ w3 : World, RowsAt (w3.alloc (.cells #[.int .i64 f, .int .i64 t, .int .i64 k, .int .i64 n, .string s] 52)) (w3.alloc (.cells #[.int .i64 f, .int .i64 t, .int .i64 k, .int .i64 n, .string s] 52)).heap.size (.slice (some ⟨w3.heap.size, 0, none⟩) 1 1) [(f, t, k, n, s)]) := fun w3 =>
            (rows_lit1 w3 f t k n s).more (by simp)
          have HAL : Hid (∀ W : World, (fun w'' => w''.cell? ⟨w.heap.size, 0, none⟩ = some (.int .i64 k) ∧ w''.cell? ⟨w.heap.size, 1, none⟩ = some (.int .i64 n) ∧ w''.cell? ⟨w.heap.size, 2, none⟩ = some (.string s) ∧ Below X.heap.size X w'') W → Below X.heap.size X (W.alloc (.cells #[.int .i64 f, .int .i64 t, .int .i64 k, .int .i64 n, .string s] 52))) := fun W h => h.2.2.2.alloc h.2.2.2.size _
          have HSZ : Hid (∀ W : World, (fun w'' => w''.cell? ⟨w.heap.size, 0, none⟩ = some (.int .i64 k) ∧ w''.cell? ⟨w.heap.size, 1, none⟩ = some (.int .i64 n) ∧ w''.cell? ⟨w.heap.size, 2, none⟩ = some (.string s) ∧ Below X.heap.size X w'') W → X.heap.size ≤ W.heap.size) := fun W h => h.2.2.2.size
          have HGO : Hid (∀ (W w5 : World) (v : Value), W.grownBy w5 v.ownBlock → (∃ W', OwnR W' X.heap.size v (l0 ++ [(pf, pe, pk, pn, ps)])) → (fun w'' => w''.cell? ⟨w.heap.size, 0, none⟩ = some (.int .i64 k) ∧ w''.cell? ⟨w.heap.size, 1, none⟩ = some (.int .i64 n) ∧ w''.cell? ⟨w.heap.size, 2, none⟩ = some (.string s) ∧ Below X.heap.size X w'') W → Below X.heap.size X w5) := fun W w5 v hg ⟨W', ho⟩ h =>
            h.2.2.2.trans ⟨hg.os, hg.tape, hg.output, hg.size, fun i hi => hg.block i (Nat.lt_of_lt_of_le hi h.2.2.2.size) (fun e => by have := (World.ownsRow.lt ho i e.symm).1; omega)⟩
          go_region_held3 (fun w'' => w''.cell? ⟨w.heap.size, 0, none⟩ = some (.int .i64 k) ∧ w''.cell? ⟨w.heap.size, 1, none⟩ = some (.int .i64 n) ∧ w''.cell? ⟨w.heap.size, 2, none⟩ = some (.string s) ∧ Below X.heap.size X w'')
            ((apply HSB.out; first | exact HD0.out | exact HD1.out | exact HDL.out | exact HD2.out | exact HD3.out | exact HG1.out _ (by assumption) | exact HG2.out _ (by assumption) | exact HG3.out _ (by assumption) | exact HAL.out _ (by assumption) | exact HGO.out _ _ _ (by assumption) ⟨_, by assumption⟩ (by assumption)))
            (first
              | (refine step_append_rows rfl _ _ rfl X.heap.size _ _ [] (l0 ++ [(pf, pe, pk, pn, ps)]) rfl rfl (by first | exact F1.out | exact F2.out | exact F3.out) (HSZ.out _ (by assumption)) (by first | exact R1.out | exact R2.out | exact R3.out) (by simp <;> omega) ?_; intro v3 w3 ho3 hg3)
              | (refine step_append_rows rfl _ _ rfl X.heap.size _ _ (l0 ++ [(pf, pe, pk, pn, ps)]) [(f, t, k, n, s)] rfl rfl (by first | assumption | exact OwnR.below (by assumption) (below_new _ _)) (HSZ.out _ (by assumption)) (by first | exact G1.out _ | exact G2.out _ (by assumption) | exact G3.out _ (by assumption)) (by simp <;> omega) ?_; intro v5 w5 ho5 hg5))
          all_goals rename_i hHeld
          all_goals
            have HO5 := Lib.hid ho5
            have HB5 : Hid (Below w.heap.size w w5) := HBX.out.trans (hHeld.2.2.2.mono HBX.out.size)
            obtain ⟨A5, c5, rfl⟩ := HO5.out.slice
            have HRF : Hid (RowsAt w5 w5.heap.size (.slice A5 (l0.length + 2) c5) (l0 ++ [(pf, pe, pk, pn, ps), (f, t, k, n, s)])) := by
              have h := HO5.out.rows
              simp only [List.append_assoc, List.cons_append, List.nil_append, List.length_append, List.length_cons, List.length_nil] at h
              exact h
            clear ho5 hHeld HO5
            go_wp2
            go_ret
            exact ⟨_, rfl, by rw [← HA.out, HAN.out]; exact HRF.out, HB5.out⟩
        | true =>
          have HAN : Hid (addL (l0 ++ [(pf, pe, pk, pn, ps)]) (f, t, k, n, s) = l0 ++ [(pf, t, pk, pn, ps)]) := by
            unfold Hid
            rw [HADD.out, HCB.out, hpe]; rfl
          go_enter Try.func50, Try.ntmps50
          go_wp2_with fail
          generalize w.alloc (.cells #[.int .i64 k, .int .i64 n, .string s] 25) = W0 at HB0 HL HV v0 v1 v2 hvl hb p1 p2 p3 p4 ⊢
          go_quiet (fail)
          obtain ⟨X, hX⟩ : ∃ X, W0.drewN nq = X := ⟨_, rfl⟩
          have x0 : (W0.drewN nq).cell? ⟨w.heap.size, 0, none⟩ = some (.int .i64 k) := HV.out.c0
          have x1 : (W0.drewN nq).cell? ⟨w.heap.size, 1, none⟩ = some (.int .i64 n) := HV.out.c1
          have x2 : (W0.drewN nq).cell? ⟨w.heap.size, 2, none⟩ = some (.string s) := HV.out.c2
          have hxw : w.heap.size < (W0.drewN nq).heap.size := HV.out.lt
          have HLX := Lib.hid (HL.out.step (below_drewN (Below.refl _ W0) nq))
          have HBX := Lib.hid (below_drewN HB0.out nq)
          rw [hX] at x0 x1 x2 hxw HLX HBX ⊢
          have hbl := below_new X (.cells #[] 52)
          go_wp2_with (at_builtin; go_must (refine wpList_append_rows rfl _ _ rfl X.heap.size _ _ [] (l0 ++ [(pf, pe, pk, pn, ps)]) rfl rfl ?own1 ?n1 ?r1 ?l1 ?_))
          case own1 => exact own_lit0 X _ (Nat.le_refl _)
          case n1 => simp
          case r1 => exact HLX.out.step hbl
          case l1 => simp <;> omega
          rintro v3 w3 ho3 hg3 hat3
          have HB3 := Lib.hid (hbl.trans ((below_grown (own_lit0 X _ (Nat.le_refl _)) (by simp) hg3).mono (by simp)))
          have hO3 : World.ownsRow w3 X.heap.size 52 5 v3 (l0.length + 1) (rcells (l0 ++ [(pf, pe, pk, pn, ps)])) := by
            have h : OwnR w3 X.heap.size v3 (l0 ++ [(pf, pe, pk, pn, ps)]) := ho3
            unfold OwnR at h
            rw [show (l0 ++ [(pf, pe, pk, pn, ps)] : List Row).length = l0.length + 1 by simp] at h
            exact h
          obtain ⟨g, cap3, rfl, hbg, hgl⟩ := World.ownsRow.form hO3 (by omega)
          have hrow := OwnR.rows (show OwnR w3 X.heap.size _ (l0 ++ [(pf, pe, pk, pn, ps)]) from ho3)
          obtain ⟨A', c', e', -, -, hr⟩ := hrow
          obtain ⟨b', o', rfl, -, hr⟩ := hr (by simp)
          have hq3 := hr l0.length (by simp)
          injection e' with e1 e2 e3
          injection e1 with e1
          injection e1 with e4 e5
          subst e4 e5
          rw [show (l0 ++ [(pf, pe, pk, pn, ps)] : List Row)[l0.length] = (pf, pe, pk, pn, ps) by simp] at hq3
          have y1 := hq3.c1
          simp only [Nat.zero_add] at y1
          have hfz := World.ownsRow.frozenAt hO3 (l0.length * 5 + 1)
          obtain ⟨hst, hsg⟩ := World.ownsRow.stored hO3 (l0.length * 5 + 1) (.int .i64 t)
          have hset : (rcells (l0 ++ [(pf, pe, pk, pn, ps)])).set (l0.length * 5 + 1) (.int .i64 t) = rcells (l0 ++ [(pf, t, pk, pn, ps)]) := by
            rw [rcells_append, rcells_append, List.set_append_right _ _ (by rw [rcells_length]; omega), rcells_length, show l0.length * 5 + 1 - l0.length * 5 = 1 by omega]; rfl
          rw [hset] at hst
          have hO5 : OwnR (w3.setCell ⟨g, l0.length * 5 + 1, none⟩ (.int .i64 t)) X.heap.size (.slice (some ⟨g, 0, none⟩) (l0.length + 1) cap3) (l0 ++ [(pf, t, pk, pn, ps)]) := by
            unfold OwnR
            rw [show (l0 ++ [(pf, t, pk, pn, ps)] : List Row).length = l0.length + 1 by simp]
            exact hst
          have HR5 := Lib.hid hO5.rows
          have HB5 := Lib.hid (HBX.out.trans ((HB3.out.setCell (p := ⟨g, l0.length * 5 + 1, none⟩) hbg (.int .i64 t)).mono HBX.out.size))
          clear hr hq3 ho3 hg3 hat3 hst hsg hset hO3 hO5 hbl e2 e3
          go_wp2
          go_ret
          exact ⟨_, rfl, by rw [← HA.out, HAN.out]; exact HR5.out, HB5.out⟩
end Go.Proofs.Ytecefhoinggmgaa
