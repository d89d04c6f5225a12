/-
  few; append of one row of strings to another. No condition.
-/
import Derived.Test.YtelfomdlbldnpaaDoorZB
import Derived.Deep.AppendLies
namespace Go.Proofs.YtelfomdlbldnpaaDoor
open Go.RowKit

/-! ### few -/
def fewB (L : List Ac) : Bool := decide (L.length ≤ 100) && L.all fun a => decide (a.s.size ≤ 600) && decide (a.keep.length ≤ 100)
theorem fewB_iff {L : List Ac} : fewB L = true ↔ L.length ≤ 100 ∧ ∀ a ∈ L, a.s.size ≤ 600 ∧ a.keep.length ≤ 100 := by
  unfold fewB
  rw [Bool.and_eq_true, decide_eq_true_eq, List.all_eq_true]
  simp

set_option maxRecDepth 100000 in
set_option maxHeartbeats 1000000 in
theorem few7 (L : List Ac) (v : Value) (w : World) (B : Nat) (hL : AcsAt w B v L) :
    Calls Tryd.prog 7 #[v] w fun e w' => e = .returned (.bool (fewB L)) ∧ w = w' := by
  obtain ⟨ans, hans⟩ : ∃ ans, fewB L = ans := ⟨_, rfl⟩
  rw [hans]
  have HANS := Lib.hid hans
  have HL := Lib.hid hL
  obtain ⟨a, c, rfl, -⟩ := hL
  clear hans
  obtain ⟨n, hn⟩ : ∃ n, L.length = n := ⟨_, rfl⟩
  have HN := Lib.hid hn
  rw [hn]
  by_cases h100 : 100 < n
  · have t : decide ((100 : Int) < (n : Int)) = true := by simp; omega
    have e : ans = false := by
      rw [← HANS.out]
      cases hh : fewB L with
      | false => rfl
      | true => have := (fewB_iff.1 hh).1; omega
    subst e
    clear hn
    go_enter Tryd.func7, Tryd.ntmps7
    go_wp2
    go_ret
    exact ⟨rfl, rfl⟩
  · have t : decide ((100 : Int) < (n : Int)) = false := by simp; omega
    clear hn
    go_enter Tryd.func7, Tryd.ntmps7
    go_wp2
    go_loop [3] (fun s3 => ∃ k : Nat, k ≤ n ∧ s3 = .int .i64 k ∧ Hid (∀ j (h : j < L.length), j < k → L[j].s.size ≤ 600 ∧ L[j].keep.length ≤ 100)) (fun s3 => n - (intOf s3).toNat)
    case atStart => exact ⟨0, by omega, rfl, fun j _ h => by omega⟩
    case round =>
      obtain ⟨k, hk, rfl, HK⟩ := hrel
      by_cases hlt : k < n
      · have hk' : k < L.length := by rw [HN.out]; exact hlt
        obtain ⟨a', c', hv, hcells⟩ := HL.out
        injection hv with e1 e2 e3
        subst e1
        obtain ⟨bb, oo, rfl, -, hc⟩ := hcells (by omega)
        have hat := hc k hk'
        have c2 := hat.c2
        have c3 := hat.c3
        obtain ⟨ka, kc, hkv, -⟩ := hat.ints
        rw [hkv] at c3
        have HBAD : Hid (¬ (L[k].s.size ≤ 600 ∧ L[k].keep.length ≤ 100) → ans = false) := by
          intro hh
          rw [← HANS.out]
          cases hf : fewB L with
          | false => rfl
          | true => exact absurd ((fewB_iff.1 hf).2 _ (List.getElem_mem hk')) hh
        have HNX : Hid (L[k].s.size ≤ 600 ∧ L[k].keep.length ≤ 100 → ∀ j (h : j < L.length), j < k + 1 → L[j].s.size ≤ 600 ∧ L[j].keep.length ≤ 100) := by
          intro hh j hj hjk
          by_cases e : j = k
          · subst e; exact hh
          · exact HK.out j hj (by omega)
        generalize L[k].s = s at c2 HBAD HNX
        generalize L[k].keep.length = kl at c3 HBAD HNX
        clear hat hc hcells e2 e3 hk' hkv HK
        by_cases hs : s.size ≤ 600
        · have t1 : decide ((600 : Int) < (s.size : Int)) = false := by simp; omega
          by_cases hkl : kl ≤ 100
          · have t2 : decide ((100 : Int) < (kl : Int)) = false := by simp; omega
            have HN2 := Lib.hid (HNX.out ⟨hs, hkl⟩)
            clear HNX HBAD
            go_wp2
            go_round
            case rel => exact ⟨k + 1, by omega, by go_num, HN2⟩
            case measure => simp [intOf]; omega
          · have t2 : decide ((100 : Int) < (kl : Int)) = true := by simp; omega
            have e : ans = false := HBAD.out (by omega)
            subst e
            clear HNX HBAD
            go_wp2
            go_ret
            exact ⟨rfl, rfl⟩
        · have t1 : decide ((600 : Int) < (s.size : Int)) = true := by simp; omega
          have e : ans = false := HBAD.out (by omega)
          subst e
          clear HNX HBAD
          go_wp2
          go_ret
          exact ⟨rfl, rfl⟩
      · have e : ans = true := by
          rw [← HANS.out, fewB_iff]
          refine ⟨by rw [HN.out]; omega, fun a ha => ?_⟩
          obtain ⟨j, hj, rfl⟩ := List.getElem_of_mem ha
          exact HK.out j hj (by rw [HN.out] at hj; omega)
        subst e
        go_wp2
        go_ret
        exact ⟨rfl, rfl⟩

/-! ### append, of strings -/
theorem run_append_rows (w : World) (base base' : Nat) (ty : TypeId) (v : Value) (n : Nat) (xs : List Value) (hown : w.ownsRow base 9 1 v n xs) (u : Value) (m : Nat) (ys : List Value) (hx : w.ownsRow base' 9 1 u m ys) (h1 : ∀ y ∈ ys, y.oneCell' = true) (h63 : n + m ≤ 1000000) (hbase : base ≤ w.heap.size) :
    ∃ v' w', (Builtin.append_ #[41, 41] ty #[v, u]).run Tryd.prog w = .ok v' w' ∧ w'.ownsRow base 9 1 v' (n + m) (xs ++ ys) ∧ w.grownBy w' v.ownBlock ∧ (v'.ownBlock = v.ownBlock ∨ v'.ownBlock = some w.heap.size) := by
  obtain ⟨i9, hi9, hz90, hz91, hz92⟩ := info9
  rcases hx.2 with ⟨rfl, rfl⟩ | ⟨g, cap, cur, rfl, -, -, -, -, -, -⟩
  · have hy : ys = [] := List.eq_nil_of_length_eq_zero (by simpa using hx.1)
    subst hy
    rw [List.append_nil, Nat.add_zero]
    rcases id hown.2 with ⟨rfl, rfl⟩ | ⟨g, cap, cur, rfl, hbg, hg, hnc, hcm, hcs, htake⟩
    · refine ⟨.slice none 0 0, w, ?_, hown, ⟨rfl, rfl, rfl, Nat.le_refl _, fun _ _ _ => rfl⟩, Or.inl rfl⟩
      simp [Builtin.append_, run_underlying Tryd.underlying41, sizeOf, typeInfo, hi9, Builtin.lenOf, Builtin.firstCells]
    · refine ⟨.slice (some ⟨g, 0, none⟩) n cap, w, ?_, hown, ⟨rfl, rfl, rfl, Nat.le_refl _, fun _ _ _ => rfl⟩, Or.inl rfl⟩
      simp [Builtin.append_, run_underlying Tryd.underlying41, sizeOf, typeInfo, hi9, Builtin.lenOf, Builtin.firstCells, loadCells, hnc, storeCells]
  · obtain ⟨v', w', hr, h2, h3, -, h5⟩ := run_append_own_at (P := Tryd.prog) w base 41 ty 9 i9 _ 1 16 Tryd.underlying41 hi9 hz90 hz91 hz92 rfl (by omega) v n xs hown ⟨g, 0, none⟩ m cap ys (by simpa using hx.1) (hx.cells rfl) h1 (by unfold maxLen; omega) (by omega) hbase
    exact ⟨v', w', hr, h2, h3, h5⟩
theorem step_append_rows {w : World} {ops : Array Oper} {o : Oper} {a : Act} {K : Act → World → Prop} {Q : Exit → Act → World → Prop} {E : Prop} (hgd : o.guard = none) (s x : Operand)
    (ho : o.op = .call { callee := .builtin .append, args := #[s, x], argTypes := #[41, 41] })
    (base base' : Nat) (v : Value) (n : Nat) (xs : List Value) (hs : a.eval s = v) (hown : w.ownsRow base 9 1 v n xs) (u : Value) (m : Nat) (ys : List Value) (hx : a.eval x = u) (hox : w.ownsRow base' 9 1 u m ys) (h1 : ∀ y ∈ ys, y.oneCell' = true) (h63 : n + m ≤ 1000000) (hbase : base ≤ w.heap.size)
    (h : ∀ v' w', w'.ownsRow base 9 1 v' (n + m) (xs ++ ys) → w.grownBy w' v.ownBlock → (v'.ownBlock = v.ownBlock ∨ v'.ownBlock = some w.heap.size) → K (a.put o.dst v') w') :
    if Region.wanted o (yielded ops a.tmps) = true then Oper.wp Tryd.prog o a w K Q else E := by
  have hw : Region.wanted o (yielded ops a.tmps) = true := by simp [Region.wanted, hgd]
  rw [if_pos hw]
  obtain ⟨v', w', hr, h2, h3, h4⟩ := run_append_rows w base base' o.type v n xs hown u m ys hox h1 h63 hbase
  unfold Oper.wp execOp
  simp only [ho, resolve, invoke, builtin, Sem.run_bind, Sem.run_pure, Result.andThen_ok, List.map_toArray, List.map_cons, List.map_nil, hs, hx, hr]
  exact h v' w' h2 h3 h4
theorem strs_one (l : List ByteArray) : ∀ y ∈ strs l, y.oneCell' = true := by
  intro y hy
  unfold strs at hy
  obtain ⟨s, -, rfl⟩ := List.mem_map.1 hy
  rfl
end Go.Proofs.YtelfomdlbldnpaaDoor
