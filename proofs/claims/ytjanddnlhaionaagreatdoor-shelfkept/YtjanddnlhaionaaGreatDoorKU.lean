/-
  Rows of cells that a call made: kept, appended, read; a crash and an arm beside a shelf. No condition.
-/
import Derived.Test.YtjanddnlhaionaaGreatDoorKT
import Derived.Test.YtjanddnlhaionaaGreatDoorKF
import Derived.Test.YtjanddnlhaionaaGreatDoorS4
set_option maxRecDepth 100000
namespace Go.Proofs.YtjanddnlhaionaaGreatDoor
open Go.RowKit
open L3 (Tabs St)
open L4 (C LAt LIn LNF Wf okC encC putS putE Fit rcells rowC T38)

/-! ### Rows of cells -/
def Subs (w0 w : World) (D : List (C × Value)) : Prop := ∀ x ∈ D, ∃ d, LIn w (fun b => b < w0.heap.size ∨ T38 w b) d x.2 x.1.l
/-- A row of cells made since w0, the lists in blocks below w0's end or of cells. -/
structure HR (w0 w : World) (v : Value) (D : List (C × Value)) : Prop where
  row : w.ownsRow w0.heap.size 38 4 v D.length (rcells D)
  subs : Subs w0 w D
theorem Subs.keep {w0 w w' : World} {D : List (C × Value)} (h : Subs w0 w D) (hb : ∀ k, k < w0.heap.size → w'.heap[k]? = w.heap[k]?) (ht : ∀ k, T38 w k → w'.heap[k]? = w.heap[k]?) : Subs w0 w' D := fun x hx => by
  obtain ⟨d, hd⟩ := h x hx
  exact ⟨d, hd.keep (fun b hb' => hb'.imp id (fun t => t.keep (ht b t))) fun b o hb' => L4.cell_same (hb'.elim (hb b) (ht b)) o⟩
theorem Subs.below {w0 w w' : World} {D : List (C × Value)} (h : Subs w0 w D) (h0 : w0.heap.size ≤ w.heap.size) (hb : Below w.heap.size w w') : Subs w0 w' D :=
  h.keep (fun k hk => hb.block k (Nat.lt_of_lt_of_le hk h0)) (fun k ht => hb.block k ht.lt)
theorem lat_lin {w : World} {B : Nat} : ∀ {d : Nat} {v : Value} {l : List C}, LAt w B d v l → LIn w (fun b => b < B) d v l
  | 0, _, _, h => h
  | d + 1, v, l, h => by
    obtain ⟨A, cap, rfl, h1, h2, h3⟩ := h
    refine ⟨A, cap, rfl, h1, h2, fun hl => ?_⟩
    obtain ⟨b, o, rfl, hb, hr⟩ := h3 hl
    refine ⟨b, o, rfl, hb, fun i hi => ?_⟩
    obtain ⟨u, r, f, s⟩ := hr i hi
    exact ⟨u, r, f, lat_lin s⟩
theorem Subs.one {w0 w : World} {d : Nat} {c : C} {u : Value} (h : LNF 0 w0 w0.heap.size d u c.l) (hb : Below w0.heap.size w0 w) : Subs w0 w [(c, u)] := fun x hx => by
  rw [List.mem_singleton.1 hx]
  exact ⟨d, (lat_lin h.lat).keep (fun b hb' => .inl hb') fun b o hb' => L4.cell_same (hb.block b hb') o⟩
theorem Subs.append {w0 w : World} {D1 D2 : List (C × Value)} (h1 : Subs w0 w D1) (h2 : Subs w0 w D2) : Subs w0 w (D1 ++ D2) := fun x hx => by
  rcases List.mem_append.1 hx with h | h
  · exact h1 x h
  · exact h2 x h
theorem Subs.cells {w0 w : World} {D : List (C × Value)} (h : Subs w0 w D) : ∀ y ∈ rcells D, y.oneCell' = true := by
  intro y hy
  unfold rcells at hy
  obtain ⟨x, hx, hy⟩ := List.mem_flatMap.1 hy
  obtain ⟨d, hd⟩ := h x hx
  obtain ⟨A, c, e⟩ := hd.slice
  unfold rowC at hy
  rw [e] at hy
  simp only [List.mem_cons, List.not_mem_nil, or_false] at hy
  rcases hy with rfl | rfl | rfl | rfl <;> rfl
theorem HR.keep {w0 w w' : World} {v : Value} {D : List (C × Value)} (h : HR w0 w v D) (hb : ∀ k, k < w0.heap.size → w'.heap[k]? = w.heap[k]?) (ht : ∀ k, T38 w k → w'.heap[k]? = w.heap[k]?) : HR w0 w' v D :=
  ⟨L6.row_keep h.row (fun k hk => ht k (L6.row_ty h.row hk)), h.subs.keep hb ht⟩
theorem HR.below {w0 w w' : World} {v : Value} {D : List (C × Value)} (h : HR w0 w v D) (h0 : w0.heap.size ≤ w.heap.size) (hb : Below w.heap.size w w') : HR w0 w' v D :=
  h.keep (fun k hk => hb.block k (Nat.lt_of_lt_of_le hk h0)) (fun k ht => hb.block k ht.lt)
theorem HR.stand {w0 w w' : World} {v : Value} {D : List (C × Value)} {G : Nat → Prop} (h : HR w0 w v D) (hs : Stand w0 w w' G) (hG : ∀ k, G k → ¬ T38 w k) : HR w0 w' v D :=
  h.keep (fun k hk => hs.below.block k hk) (fun k ht => by
    obtain ⟨cs, hc⟩ := ht
    rw [hs.keep k _ hc (alien_cells cs 38 (by decide)) (fun hg => hG k hg ⟨cs, hc⟩), hc])
theorem HR.turn {w0 w w' : World} {v : Value} {D : List (C × Value)} {G : Nat → Prop} (h : HR w0 w v D) (h0 : w0.heap.size ≤ w.heap.size) (ht : L6.Turn G w w') (hG : ∀ k, G k → w0.heap.size ≤ k ∧ ¬ T38 w k) : HR w0 w' v D :=
  h.keep (fun k hk => ht.block k (by omega) (fun hg => by have := (hG k hg).1; omega)) (fun k h38 => ht.block k h38.lt (fun hg => (hG k hg).2 h38))
theorem HR.nil (w0 w : World) : HR w0 w (.slice none 0 0) [] := ⟨World.ownsRow_nil _ _ _ _, fun x hx => by cases hx⟩
theorem HR.slice {w0 w : World} {v : Value} {D : List (C × Value)} (h : HR w0 w v D) : ∃ A c, v = .slice A D.length c := L6.row_slice h.row
theorem RC.hr {w0 w : World} {base : Nat} {v : Value} {D : List (C × Value)} (h : RC w base v D) (hb : w0.heap.size ≤ base) : HR w0 w v D :=
  ⟨L6.row_base h.row hb, fun x hx => by obtain ⟨d, hd⟩ := h.subs x hx; exact ⟨d, hd.keep (fun b hb' => .inr hb'.2.1) fun _ _ _ => rfl⟩⟩
/-- One row behind another, in a row of its own. -/
theorem HR.made {w0 w5 W : World} {v' : Value} {D : List (C × Value)} {n : Nat} {xs : List Value} (h0 : w0.heap.size ≤ w5.heap.size) (hs : Subs w0 w5 D) (ho : W.ownsRow w5.heap.size 38 4 v' n xs) (hn : n = D.length) (hx : xs = rcells D) (hb : Below w5.heap.size w5 W) : HR w0 W v' D := by
  subst hn hx
  exact ⟨L6.row_base ho h0, hs.below h0 hb⟩
theorem HR.elem {w0 w : World} {g c : Nat} {D : List (C × Value)} (h : HR w0 w (.slice (some ⟨g, 0, none⟩) D.length c) D) (h0 : w0.heap.size ≤ w.heap.size) {i : Nat} (hi : i < D.length) :
    w.cell? ⟨g, i * 4, none⟩ = some (.int .i64 D[i].1.k) ∧ w.cell? ⟨g, i * 4 + 1, none⟩ = some (.int .i64 D[i].1.n) ∧ w.cell? ⟨g, i * 4 + 2, none⟩ = some (.string D[i].1.s) ∧ w.cell? ⟨g, i * 4 + 3, none⟩ = some D[i].2 ∧ ∃ d, LAt w w.heap.size d D[i].2 D[i].1.l := by
  have hr : w.rangeAt g (i * 4) (rowC D[i]) := L6.row_range (l := D) (f := rowC) h.row (fun x _ => rfl) rfl i D[i] (List.getElem?_eq_getElem hi)
  obtain ⟨d, hd⟩ := h.subs D[i] (List.getElem_mem hi)
  exact ⟨hr 0 _ rfl, hr 1 _ rfl, hr 2 _ rfl, hr 3 _ rfl, d, hd.lat fun b hb => by
    rcases hb with hb | hb
    · omega
    · exact hb.lt⟩

/-! ### append, of cells -/
theorem run_append_cells (w : World) (base base' : Nat) (ty : TypeId) (v : Value) (n : Nat) (xs : List Value) (hown : w.ownsRow base 38 4 v n xs) (u : Value) (m : Nat) (ys : List Value) (hx : w.ownsRow base' 38 4 u m ys) (h1 : ∀ y ∈ ys, y.oneCell' = true) (h63 : n + m ≤ 1000000) (hbase : base ≤ w.heap.size) :
    ∃ v' w', (Builtin.append_ #[36, 36] ty #[v, u]).run Tryz.prog w = .ok v' w' ∧ w'.ownsRow base 38 4 v' (n + m) (xs ++ ys) ∧ w.grownBy w' v.ownBlock ∧ (v'.ownBlock = v.ownBlock ∨ v'.ownBlock = some w.heap.size) := by
  obtain ⟨i9, hi9, hz90, hz91, hz92⟩ := L4.info25
  rcases hx.2 with ⟨rfl, rfl⟩ | ⟨g, cap, cur, rfl, -, -, -, -, -, -⟩
  · have hy : ys = [] := List.eq_nil_of_length_eq_zero (by simpa using hx.1)
    subst hy
    rw [List.append_nil, Nat.add_zero]
    rcases id hown.2 with ⟨rfl, rfl⟩ | ⟨g, cap, cur, rfl, hbg, hg, hnc, hcm, hcs, htake⟩
    · refine ⟨.slice none 0 0, w, ?_, hown, ⟨rfl, rfl, rfl, Nat.le_refl _, fun _ _ _ => rfl⟩, Or.inl rfl⟩
      simp [Builtin.append_, run_underlying Tryz.underlying36, sizeOf, typeInfo, hi9, Builtin.lenOf, Builtin.firstCells]
    · refine ⟨.slice (some ⟨g, 0, none⟩) n cap, w, ?_, hown, ⟨rfl, rfl, rfl, Nat.le_refl _, fun _ _ _ => rfl⟩, Or.inl rfl⟩
      simp [Builtin.append_, run_underlying Tryz.underlying36, sizeOf, typeInfo, hi9, Builtin.lenOf, Builtin.firstCells, loadCells, hnc, storeCells]
  · obtain ⟨v', w', hr, h2, h3, -, h5⟩ := run_append_own_at (P := Tryz.prog) w base 36 ty 38 i9 _ 4 56 Tryz.underlying36 hi9 hz90 hz91 hz92 rfl (by omega) v n xs hown ⟨g, 0, none⟩ m cap ys (by simpa using hx.1) (hx.cells rfl) h1 (by unfold maxLen; omega) (by omega) hbase
    exact ⟨v', w', hr, h2, h3, h5⟩
theorem step_append_cells {w : World} {ops : Array Oper} {o : Oper} {a : Act} {K : Act → World → Prop} {Q : Exit → Act → World → Prop} {E : Prop} (hgd : o.guard = none) (s x : Operand)
    (ho : o.op = .call { callee := .builtin .append, args := #[s, x], argTypes := #[36, 36] })
    (base base' : Nat) (v : Value) (n : Nat) (xs : List Value) (hs : a.eval s = v) (hown : w.ownsRow base 38 4 v n xs) (u : Value) (m : Nat) (ys : List Value) (hx : a.eval x = u) (hox : w.ownsRow base' 38 4 u m ys) (h1 : ∀ y ∈ ys, y.oneCell' = true) (h63 : n + m ≤ 1000000) (hbase : base ≤ w.heap.size)
    (h : ∀ v' w', w'.ownsRow base 38 4 v' (n + m) (xs ++ ys) → w.grownBy w' v.ownBlock → (v'.ownBlock = v.ownBlock ∨ v'.ownBlock = some w.heap.size) → K (a.put o.dst v') w') :
    if Region.wanted o (yielded ops a.tmps) = true then Oper.wp Tryz.prog o a w K Q else E := by
  have hw : Region.wanted o (yielded ops a.tmps) = true := by simp [Region.wanted, hgd]
  rw [if_pos hw]
  obtain ⟨v', w', hr, h2, h3, h4⟩ := run_append_cells w base base' o.type v n xs hown u m ys hox h1 h63 hbase
  unfold Oper.wp execOp
  simp only [ho, resolve, invoke, builtin, Sem.run_bind, Sem.run_pure, Result.andThen_ok, List.map_toArray, List.map_cons, List.map_nil, hs, hx, hr]
  exact h v' w' h2 h3 h4
theorem empty_row38 {w : World} {B g : Nat} (hg : w.heap[g]? = some (.cells #[] 38 (0, 0))) (hB : B ≤ g) : w.ownsRow B 38 4 (.slice (some ⟨g, 0, none⟩) 0 0) 0 [] :=
  ⟨rfl, .inr ⟨g, 0, #[], rfl, hB, hg, Nat.le_refl _, Nat.zero_le _, rfl, rfl⟩⟩
theorem one_row38 {w : World} {B g : Nat} {c : C} {u : Value} (hg : w.heap[g]? = some (.cells #[.int .i64 c.k, .int .i64 c.n, .string c.s, u] 38 (0, 0))) (hB : B ≤ g) : w.ownsRow B 38 4 (.slice (some ⟨g, 0, none⟩) 1 1) 1 (rcells [(c, u)]) :=
  ⟨rfl, .inr ⟨g, 1, #[.int .i64 c.k, .int .i64 c.n, .string c.s, u], rfl, hB, hg, Nat.le_refl _, by unfold maxLen; omega, rfl, rfl⟩⟩

/-! ### Beside a shelf -/
section
variable {w0 w w' : World} {sb mb bt bl b : Nat} {fv : Value} {d : L6.D} {st : Sf}
theorem SfAt.mine38 (h : SfAt w0 w sb mb fv bt bl b d st) : ∀ k, Mine sb mb fv k → w0.heap.size ≤ k ∧ ¬ T38 w k := by
  intro k hk
  refine ⟨(h.mine k hk).1, fun ⟨cs, hc⟩ => ?_⟩
  rcases hk with rfl | rfl | hk
  · have := h.row
    rw [hc] at this
    cases this
  · obtain ⟨es, cl, hm⟩ := h.map.isMap
    rw [hc] at hm
    cases hm
  · obtain ⟨cs', hc'⟩ := L6.row_ty h.fr hk
    rw [hc] at hc'
    cases hc'
theorem crashK (h : SfAt w0 w sb mb fv bt bl b d st) (hw : d.W.length ≤ 1000000) (l : List Int) (lv : Value) (hl : L6.IntsAt w w.heap.size lv l) (hll : l.length ≤ 1000000) :
    Calls Tryz.prog 36 #[.pointer (some ⟨b, 0, none⟩), lv] w fun e w' => e = .returned (.int .i64 0) ∧ L6.PN w0 w' b (L6.crashD d l) ∧ ∀ G, Stand w0 w w' G := by
  obtain ⟨F, h1, h2, h3, h4, h5, h6⟩ := h.tn.core
  refine (L6.crash16 h1.p hw l lv hl hll).mono ?_
  rintro e w' ⟨he, hP', hT⟩
  exact ⟨he, L6.PN.turn h2 h5 hP' hT, fun G => Stand.of_tape (w0 := w0) hT h5.size (fun k hk => by obtain ⟨cs, ty, hc, ht⟩ := h6 k hk; exact ⟨h2 k hk, cs, ty, hc, tape_five ht⟩) G⟩
theorem armS (h : SfAt w0 w sb mb fv bt bl b d st) (n : Int) (hn : n ≤ 9223372036854775807) :
    Calls Tryz.prog 37 #[.pointer (some ⟨b, 0, none⟩), .int .i64 n] w fun e w' => e = .returned (.int .i64 (L6.armE d n)) ∧ SfAt w0 w' sb mb fv bt bl b (L6.armD d n) st ∧ ∀ G, Stand w0 w w' G := by
  obtain ⟨F, h1, h2, h3, h4, h5, h6⟩ := h.tn.core
  refine (L6.arm23 h1.p n hn).mono ?_
  rintro e w' ⟨he, hP', hT, -⟩
  have hst := fun G => Stand.of_tape (w0 := w0) hT h5.size (fun k hk => by obtain ⟨cs, ty, hc, ht⟩ := h6 k hk; exact ⟨h2 k hk, cs, ty, hc, tape_five ht⟩) G
  have hok := h1.ok
  have htn : L6.TN w0 w' bt bl b (L6.armD d n) st.t := ⟨F, ⟨h1.l.keep (hT.block _ (Array.getElem?_eq_some_iff.1 h1.l.rt).1 h1.n1) (hT.block _ (Array.getElem?_eq_some_iff.1 h1.l.rl).1 h1.n2), hP', (by
    have e := L6.arm_len d n
    obtain ⟨a, b, c, dd⟩ := hok
    exact ⟨a, b, c, by rw [e]; exact dd⟩), h1.n1, h1.n2⟩, h2, h3, h4, h5.trans (hst (fun _ => True)).below⟩
  exact ⟨he, h.tape htn hst, hst⟩
theorem fit_all {w : World} {B d : Nat} {u : Value} {c : C} (h : LNF 0 w B d u c.l) (hw : Wf c) : ∀ D, Fit D c := by
  intro D
  obtain ⟨k, n, s, l⟩ := c
  cases D with
  | zero => trivial
  | succ D => exact ⟨hw.n0, hw.n1, L4.fit_of_lat d D u l h.lat⟩
theorem sto_count (st : Sf) (d : L6.D) (c : C) : (stoT st d c).count ≤ st.t.count + 1 := by
  unfold stoT
  have h := (L6.appT_count st.t d (recS st c)).1
  split
  · split
    · exact h
    · exact h
  · exact Nat.le_succ _
theorem com_count (st : Sf) (d : L6.D) (c : C) : (comSt st d c).t.count ≤ st.t.count + 1 := by
  unfold comSt
  have h := sto_count st d c
  split
  · split
    · exact h
    · exact h
  · exact Nat.le_succ _
end
/-- What is said of a batch's length, and of what is fresh. -/
theorem Ks.ids {K : List Int} {I : St} {n i : Nat} {B : List Bt} {sure : Nat} {d : L6.D} {st : Sf} {m0 : MP} {c0 : Nat} (h : Ks K I n i B sure d st m0 c0) : ∀ id ∈ st.fresh, id.size ≤ maxLen := fun id hid => by
  obtain ⟨v, -, rfl⟩ := h.fr.inn id hid
  exact idB_size K I v
/-- The cells of the batches that are sure, and of one that may be there. -/
structure Hw (B : List Bt) (sure : Nat) (Dh Dw : List (C × Value)) : Prop where
  had : Dh.map (·.1) = (B.take sure).map (·.1)
  way : Dw.map (·.1) = (B.drop sure).map (·.1)
theorem Hw.lens {B : List Bt} {sure : Nat} {Dh Dw : List (C × Value)} (h : Hw B sure Dh Dw) (hs : sure ≤ B.length) : Dh.length = sure ∧ Dw.length = B.length - sure := by
  have h1 := congrArg List.length h.had
  have h2 := congrArg List.length h.way
  rw [List.length_map, List.length_map, List.length_take] at h1
  rw [List.length_map, List.length_map, List.length_drop] at h2
  omega
theorem Hw.want {B : List Bt} {sure : Nat} {Dh Dw : List (C × Value)} (h : Hw B sure Dh Dw) : (Dh ++ Dw).map (·.1) = B.map (·.1) := by
  rw [List.map_append, h.had, h.way, ← List.map_append, List.take_append_drop]
theorem Hw.took {B : List Bt} {m : Nat} {D : List (C × Value)} (hD : D.map (·.1) = (B.take m).map (·.1)) : Hw (B.take m) m D [] :=
  ⟨by rw [hD, List.take_take, Nat.min_self], by rw [List.drop_take, Nat.sub_self, List.take_zero]; rfl⟩
theorem Hw.done {B : List Bt} {sure : Nat} {Dh Dw : List (C × Value)} (h : Hw B sure Dh Dw) (hb : B.length = sure) (r : Bt) (u : Value) : Hw (B ++ [r]) (sure + 1) (Dh ++ [(r.1, u)]) [] := by
  have e : (B ++ [r]).length = sure + 1 := by rw [List.length_append, hb]; rfl
  refine ⟨?_, ?_⟩
  · rw [List.take_of_length_le (by omega), List.map_append, List.map_append, h.had, List.take_of_length_le (by omega)]; rfl
  · rw [List.drop_of_length_le (by omega)]; rfl
theorem Hw.onWay {B : List Bt} {sure : Nat} {Dh Dw : List (C × Value)} (h : Hw B sure Dh Dw) (hb : B.length = sure) (r : Bt) (u : Value) : Hw (B ++ [r]) sure Dh [(r.1, u)] := by
  refine ⟨?_, ?_⟩
  · rw [List.take_append_of_le_length (by omega), h.had]
  · rw [List.drop_append_of_le_length (by omega), List.drop_of_length_le (by omega)]; rfl
theorem same_at {D D' : List (C × Value)} {i : Nat} (h : i < D.length) (h' : i < D'.length) (e : (D.map (·.1))[i]? = (D'.map (·.1))[i]?) : D[i].1 = D'[i].1 := by
  rw [List.getElem?_map, List.getElem?_map, List.getElem?_eq_getElem h, List.getElem?_eq_getElem h'] at e
  simpa using e
theorem wpList_append_cells {ops : Array Oper} {o : Oper} {rest : List Oper} {a : Act} {w : World} {Q : Exit → Act → World → Prop} (hgd : o.guard = none) (s x : Operand)
    (ho : o.op = .call { callee := .builtin .append, args := #[s, x], argTypes := #[36, 36] })
    (base base' : Nat) (v : Value) (n : Nat) (xs : List Value) (hs : a.eval s = v) (hown : w.ownsRow base 38 4 v n xs) (u : Value) (m : Nat) (ys : List Value) (hx : a.eval x = u) (hox : w.ownsRow base' 38 4 u m ys) (h1 : ∀ y ∈ ys, y.oneCell' = true) (h63 : n + m ≤ 1000000) (hbase : base ≤ w.heap.size)
    (h : ∀ v' w', w'.ownsRow base 38 4 v' (n + m) (xs ++ ys) → w.grownBy w' v.ownBlock → (v'.ownBlock = v.ownBlock ∨ v'.ownBlock = some w.heap.size) → wpList Tryz.prog ops Q rest (a.put o.dst v') w') : wpList Tryz.prog ops Q (o :: rest) a w := by
  refine wpList_plain hgd fun K hK => ?_
  obtain ⟨v', w', hr, h2, h3, h4⟩ := run_append_cells w base base' o.type v n xs hown u m ys hox h1 h63 hbase
  unfold Oper.wp execOp
  simp only [ho, resolve, invoke, builtin, Sem.run_bind, Sem.run_pure, Result.andThen_ok, List.map_toArray, List.map_cons, List.map_nil, hs, hx, hr]
  exact hK _ _ (h v' w' h2 h3 h4)

/-! ### Three elements of three rows -/
structure E3 (W : World) (g o : Nat) (c : C) (u : Value) : Prop where
  lt : g < W.heap.size
  c0 : W.cell? ⟨g, o, none⟩ = some (.int .i64 c.k)
  c1 : W.cell? ⟨g, o + 1, none⟩ = some (.int .i64 c.n)
  c2 : W.cell? ⟨g, o + 2, none⟩ = some (.string c.s)
  c3 : W.cell? ⟨g, o + 3, none⟩ = some u
  la : ∃ d, LAt W W.heap.size d u c.l
theorem E3.step {W W' : World} {g o : Nat} {c : C} {u : Value} (h : E3 W g o c u) (hb : Below W.heap.size W W') : E3 W' g o c u := by
  obtain ⟨d, hd⟩ := h.la
  exact ⟨Nat.lt_of_lt_of_le h.lt hb.size, (hb.cell (p := ⟨g, o, none⟩) h.lt).trans h.c0, (hb.cell (p := ⟨g, o + 1, none⟩) h.lt).trans h.c1, (hb.cell (p := ⟨g, o + 2, none⟩) h.lt).trans h.c2, (hb.cell (p := ⟨g, o + 3, none⟩) h.lt).trans h.c3, d, hd.step hb⟩
theorem HR.e3 {w0 w : World} {g c : Nat} {D : List (C × Value)} (h : HR w0 w (.slice (some ⟨g, 0, none⟩) D.length c) D) (h0 : w0.heap.size ≤ w.heap.size) {i : Nat} (hi : i < D.length) : E3 w g (i * 4) D[i].1 D[i].2 := by
  obtain ⟨a, b, c', d, e⟩ := h.elem h0 hi
  exact ⟨L6.row_lt h.row rfl, a, b, c', d, e⟩
structure T3 (w0 : World) (g1 g2 g3 o : Nat) (c : C) (u1 u2 u3 : Value) (W : World) : Prop where
  e1 : E3 W g1 o c u1
  e2 : E3 W g2 o c u2
  e3 : E3 W g3 o c u3
  below : Below w0.heap.size w0 W
theorem T3.step {w0 W W' : World} {g1 g2 g3 o : Nat} {c : C} {u1 u2 u3 : Value} (h : T3 w0 g1 g2 g3 o c u1 u2 u3 W) (hb : Below W.heap.size W W') : T3 w0 g1 g2 g3 o c u1 u2 u3 W' :=
  ⟨h.e1.step hb, h.e2.step hb, h.e3.step hb, h.below.trans (hb.mono h.below.size)⟩
theorem T3.drew {w0 W : World} {g1 g2 g3 o : Nat} {c : C} {u1 u2 u3 : Value} (h : T3 w0 g1 g2 g3 o c u1 u2 u3 W) : T3 w0 g1 g2 g3 o c u1 u2 u3 W.drew := h.step (Below.refl _ _).drew
theorem T3.facts {w0 W : World} {g1 g2 g3 o : Nat} {c : C} {u1 u2 u3 : Value} (h : T3 w0 g1 g2 g3 o c u1 u2 u3 W) :
    W.cell? ⟨g1, o, none⟩ = some (.int .i64 c.k) ∧ W.cell? ⟨g1, o + 1, none⟩ = some (.int .i64 c.n) ∧ W.cell? ⟨g1, o + 2, none⟩ = some (.string c.s) ∧ W.cell? ⟨g1, o + 3, none⟩ = some u1 ∧
    W.cell? ⟨g2, o, none⟩ = some (.int .i64 c.k) ∧ W.cell? ⟨g2, o + 1, none⟩ = some (.int .i64 c.n) ∧ W.cell? ⟨g2, o + 2, none⟩ = some (.string c.s) ∧ W.cell? ⟨g2, o + 3, none⟩ = some u2 ∧
    W.cell? ⟨g3, o, none⟩ = some (.int .i64 c.k) ∧ W.cell? ⟨g3, o + 1, none⟩ = some (.int .i64 c.n) ∧ W.cell? ⟨g3, o + 2, none⟩ = some (.string c.s) ∧ W.cell? ⟨g3, o + 3, none⟩ = some u3 ∧ T3 w0 g1 g2 g3 o c u1 u2 u3 W :=
  ⟨h.e1.c0, h.e1.c1, h.e1.c2, h.e1.c3, h.e2.c0, h.e2.c1, h.e2.c2, h.e2.c3, h.e3.c0, h.e3.c1, h.e3.c2, h.e3.c3, h⟩
theorem same17e {W : World} {g g' o o' : Nat} {c : C} {u u' : Value} (h : E3 W g o c u) (h' : E3 W g' o' c u') :
    Calls Tryz.prog 17 #[.agg #[.int .i64 c.k, .int .i64 c.n, .string c.s, u], .agg #[.int .i64 c.k, .int .i64 c.n, .string c.s, u']] W fun e w' => e = .returned (.bool true) ∧ Below W.heap.size W w' := by
  obtain ⟨d, hd⟩ := h.la
  obtain ⟨d', hd'⟩ := h'.la
  refine (L4.same15 d d' c.k c.n c.s c.l u c.k c.n c.s c.l u' W hd hd').mono fun e w' ⟨he, hb⟩ => ⟨?_, hb⟩
  rw [he, L4.sameB_self]
end Go.Proofs.YtjanddnlhaionaaGreatDoor
