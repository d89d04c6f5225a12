/-
  The parts of ShelfIds. No condition.
-/
import Derived.Test.YtjanddnlhaionaaGreatDoorST
import Derived.Test.YtjanddnlhaionaaGreatDoorSO
namespace Go.Proofs.YtjanddnlhaionaaGreatDoor
open Go.RowKit
open L3 (Tabs St)
open L4 (C LAt LIn LNF Wf okC encC putS putE Box)
open L2 (Row)

/-! ### Objects in a row -/
structure OAt (w : World) (b o : Nat) (x : Ob) (r k p : Value) : Prop where
  ob : ObAt w r k p x
  c0 : w.cell? ⟨b, o, none⟩ = some (.int .i64 x.k)
  c1 : w.cell? ⟨b, o + 1, none⟩ = some (.string x.label)
  c2 : w.cell? ⟨b, o + 2, none⟩ = some r
  c3 : w.cell? ⟨b, o + 3, none⟩ = some k
  c4 : w.cell? ⟨b, o + 4, none⟩ = some p
  c5 : w.cell? ⟨b, o + 5, none⟩ = some (.int .i64 x.stamp)
  c6 : w.cell? ⟨b, o + 6, none⟩ = some (.string x.note)
  c7 : w.cell? ⟨b, o + 7, none⟩ = some (.string x.root)
theorem OAt.step {w w' : World} {b o : Nat} {x : Ob} {r k p : Value} (h : OAt w b o x r k p) (hb : b < w.heap.size) (hB : Below w.heap.size w w') : OAt w' b o x r k p :=
  ⟨h.ob.step hB, (hB.cell (p := ⟨b, o, none⟩) hb).trans h.c0, (hB.cell (p := ⟨b, o + 1, none⟩) hb).trans h.c1, (hB.cell (p := ⟨b, o + 2, none⟩) hb).trans h.c2, (hB.cell (p := ⟨b, o + 3, none⟩) hb).trans h.c3, (hB.cell (p := ⟨b, o + 4, none⟩) hb).trans h.c4, (hB.cell (p := ⟨b, o + 5, none⟩) hb).trans h.c5, (hB.cell (p := ⟨b, o + 6, none⟩) hb).trans h.c6, (hB.cell (p := ⟨b, o + 7, none⟩) hb).trans h.c7⟩
def ObsAt (w : World) (v : Value) (l : List Ob) : Prop :=
  ∃ A cap, v = .slice A l.length cap ∧ l.length ≤ cap ∧ cap ≤ maxLen ∧ (0 < l.length → ∃ b o, A = some ⟨b, o, none⟩ ∧ b < w.heap.size ∧ ∀ i (h : i < l.length), ∃ r k p, OAt w b (o + i * 8) l[i] r k p)
theorem ObsAt.ok {w : World} {v : Value} {l : List Ob} (h : ObsAt w v l) {i : Nat} (hi : i < l.length) (hk : l[i].kids.length ≤ 60) : ObOk l[i] := by
  obtain ⟨A, cap, -, -, -, h3⟩ := h
  obtain ⟨b, o, -, -, hr⟩ := h3 (by omega)
  obtain ⟨r, k, p, ho⟩ := hr i hi
  exact ⟨hk, ho.ob.kids.bounds, ho.ob.num⟩

/-! ### The calls, of an object as one -/
section
variable {w0 w : World} {sb mb bt bl b : Nat} {fv : Value} {d : L6.D} {st : Sf}
theorem put38o (K : List Int) (I : St) (h : SfAt w0 w sb mb fv bt bl b d st) (hT : Tabs K I w0) (o : Ob) (r k p : Value) (ho : ObAt w r k p o) (hc : st.c < 1000000) (hfr : st.fresh.length < 1000000) :
    Calls Tryz.prog 38 #[.pointer (some ⟨sb, 0, none⟩), .agg #[.int .i64 o.k, .string o.label, r, k, p, .int .i64 o.stamp, .string o.note, .string o.root]] w fun e w' =>
      ∃ fv', e = .returned (.tuple #[.string (putId K I st o), .int .i64 (putEr K I st o)]) ∧ SfAt w0 w' sb mb fv' bt bl b d (putSt K I st o) ∧ L6.Turn (Mine sb mb fv) w w' ∧ (∀ j, fv'.ownBlock = some j → fv.ownBlock = some j ∨ w.heap.size ≤ j) := by
  cases o
  exact put38 K I h hT _ _ _ _ _ _ _ _ r k p ho hc hfr
theorem id13o (K : List Int) (I : St) (o : Ob) (r k p : Value) (ho : ObAt w r k p o) (hT : Tabs K I w) :
    Calls Tryz.prog 13 #[.agg #[.int .i64 o.k, .string o.label, r, k, p, .int .i64 o.stamp, .string o.note, .string o.root]] w fun e w' => e = .returned (.tuple #[.string (objI K I o), .int .i64 (objE o)]) ∧ Below w.heap.size w w' := by
  cases o
  exact id9 K I _ _ _ _ _ _ _ _ r k p w ho hT
theorem same22o (o : Ob) (r k p r' k' p' : Value) (ho : ObAt w r k p o) (ho' : ObAt w r' k' p' o) :
    Calls Tryz.prog 22 #[.agg #[.int .i64 o.k, .string o.label, r, k, p, .int .i64 o.stamp, .string o.note, .string o.root], .agg #[.int .i64 o.k, .string o.label, r', k', p', .int .i64 o.stamp, .string o.note, .string o.root]] w fun e w' => e = .returned (.bool true) ∧ Below w.heap.size w w' := by
  cases o
  exact same10 _ _ _ _ _ _ _ _ _ _ _ _ _ _ w ho ho'
theorem SfAt.appended {w6 : World} {o : Obj} {v : Value} {n : Nat} {xs : List Value} (h : SfAt w0 w sb mb fv bt bl b d st) (hv : w.ownsRow w0.heap.size 9 1 v n xs) (hap : ∀ k, v.ownBlock = some k → ¬ Mine sb mb fv k) (hg : (w.alloc o).grownBy w6 v.ownBlock) : SfAt w0 w6 sb mb fv bt bl b d st := by
  have h1 : L6.Turn (fun k => v.ownBlock = some k) w (w.alloc o) := (L6.Turn.refl _ _).alloc o
  have hT : L6.Turn (fun k => v.ownBlock = some k) w w6 := h1.trans (L6.Turn.of_grown hg (fun k hk => hk)) (fun i hi => .inl hi)
  refine h.other hT fun k hk => ⟨?_, hap k hk⟩
  obtain ⟨cs, hc⟩ := L6.row_ty hv hk
  exact ⟨L6.row_ge hv hk, _, hc, alien9 _⟩
theorem SfAt.mine_lt (h : SfAt w0 w sb mb fv bt bl b d st) : ∀ k, Mine sb mb fv k → k < w.heap.size := fun k hk => by
  obtain ⟨-, o, ho, -⟩ := h.mine k hk
  exact (Array.getElem?_eq_some_iff.1 ho).1
theorem crashS (h : SfAt w0 w sb mb fv bt bl b d st) (hw : d.W.length ≤ 1000000) (hd : L6.crashD d [] = d) :
    Calls Tryz.prog 36 #[.pointer (some ⟨b, 0, none⟩), .slice none 0 0] w fun e w' => e = .returned (.int .i64 0) ∧ SfAt w0 w' sb mb fv bt bl b d st ∧ ∀ G, Stand w0 w w' G := by
  obtain ⟨F, h1, h2, h3, h4, h5, h6⟩ := h.tn.core
  refine (L6.crash16 h1.p hw [] _ (L6.IntsAt.nil _ _) (by simp)).mono ?_
  rintro e w' ⟨he, hP', hT⟩
  rw [hd] at hP'
  have hst := fun G => Stand.of_tape (w0 := w0) hT h5.size (fun k hk => by obtain ⟨cs, ty, hc, ht⟩ := h6 k hk; exact ⟨h2 k hk, cs, ty, hc, tape_five ht⟩) G
  have htn : L6.TN w0 w' bt bl b d st.t := ⟨F, ⟨h1.l.keep (hT.block _ (Array.getElem?_eq_some_iff.1 h1.l.rt).1 h1.n1) (hT.block _ (Array.getElem?_eq_some_iff.1 h1.l.rl).1 h1.n2), hP', h1.ok, h1.n1, h1.n2⟩, h2, h3, h4, h5.trans (hst (fun _ => True)).below⟩
  exact ⟨he, h.tape htn hst, hst⟩
theorem PN_lower {w0 w1 w2 : World} (h : L6.PN w1 w2 b d) (hb : Below w0.heap.size w0 w1) : L6.PN w0 w2 b d := by
  obtain ⟨F, hP, hF, hB⟩ := h
  exact ⟨F, hP, fun k hk => Nat.le_trans hb.size (hF k hk), hb.trans (hB.mono hb.size)⟩
end

/-! ### After the commit -/
theorem Grow.encs_ok {K : List Int} {I : St} {l : List Ob} {i : Nat} {ids : List ByteArray} {st : Sf} (h : Grow K I l i ids st) (hl : ∀ j (hj : j < l.length), ObOk l[j]) : ∀ s ∈ encs st, s.size ≤ 8500 ∧ EncOk s := by
  intro s hs
  unfold encs at hs
  obtain ⟨id, hid, rfl⟩ := List.mem_map.1 hs
  obtain ⟨v, hv, -⟩ := h.frm id hid
  rw [hv]
  obtain ⟨j, hj, -, hok, rfl, -⟩ := h.all id v hv
  have ho := hl j hj
  have h1 := obj_small hok ho.kids
  refine ⟨h1, by show (objS l[j]).size ≤ _; omega, ?_⟩
  show (takeOM (objS l[j])).2 = 0
  rw [obj_take hok ho.nr ho.fb]
structure Done (K : List Int) (I : St) (st : Sf) : Prop where
  ids : ∀ id ∈ st.fresh, id.size ≤ maxLen
  fl : st.fresh.length ≤ 20
  sz : ∀ s ∈ encs st, s.size ≤ 8500
  len : okC 16 (batC c7 (encs st)) = true → (encC 16 (batC c7 (encs st))).length ≤ 1000000
  ct : st.t.count = 0
  e : comE st (L6.newD 4000) c7 = 0
  cr : L6.crashD (comD st (L6.newD 4000) c7) [] = comD st (L6.newD 4000) c7
  wl : (comD st (L6.newD 4000) c7).W.length = 0
  m : (comSt st (L6.newD 4000) c7).m = st.m
  c : (comSt st (L6.newD 4000) c7).c = st.c
  oe : L6.openE (comD st (L6.newD 4000) c7) = 0
  recs : (L6.scanD (comD st (L6.newD 4000) c7)).recs = ([(c7, encs st)] : List Bt).map btS
  bt : ∀ r ∈ ([(c7, encs st)] : List Bt), BtOk r
  ld : loadS K I (fun _ => none) 0 (allE [(c7, encs st)]) = some (st.m, st.c)
  al : (allE [(c7, encs st)]).length ≤ 1000000
theorem Grow.done {K : List Int} {I : St} {l : List Ob} {ids : List ByteArray} {st : Sf} (h : Grow K I l l.length ids st) (hl : ∀ j (hj : j < l.length), ObOk l[j]) (hn : l.length ≤ 20) : Done K I st := by
  have he := h.encs_ok hl
  have hel : (encs st).length ≤ 20 := by rw [encs_len, h.fr]; have := h.c; omega
  have hs : ∀ s ∈ encs st, s.size ≤ 8500 := fun s hs => (he s hs).1
  have hg := bat_good c7_good (l := encs st) (by omega) hs (by omega)
  have hgs := good_size hg
  have hW : L6.Wh 4000 [] (L6.newD 4000) st.t := by rw [h.t]; exact (L6.Wh.new 4000).1
  have hsm := bat_small hel hs
  have hrs : recS st c7 = putS (batC c7 (encs st)) := rfl
  obtain ⟨s1, s2, s3, s4⟩ := sto_whole (c := c7) hW hgs.2 (by
    show L6.needN (recS st c7).size + 0 ≤ 4000
    rw [hrs]
    unfold L6.needN
    split <;> omega)
  have eD : comD st (L6.newD 4000) c7 = stoD st (L6.newD 4000) c7 := by unfold comD; rw [c7_com, if_pos rfl]
  have eS : comSt st (L6.newD 4000) c7 = { st with t := stoT st (L6.newD 4000) c7, fresh := [] } := by unfold comSt; rw [c7_com, if_pos rfl, if_pos s1]
  have eE : comE st (L6.newD 4000) c7 = 0 := by unfold comE; rw [c7_com, if_pos rfl]; exact s1
  obtain ⟨a1, a2, -, -⟩ := L6.Wh.again (n := 4000) (l := [] ++ [recS st c7]) (by simp) s4 (by omega)
  refine ⟨fun id hid => ?_, by have := h.fr; have := h.c; omega, hs, fun _ => ?_, ?_, eE, ?_, ?_, by rw [eS], by rw [eS], ?_, ?_, ?_, ?_, ?_⟩
  · obtain ⟨v, -, rfl⟩ := h.frm id hid
    exact idB_size K I _
  · refine Nat.le_trans hg.enc ?_
    have : (encs st).length * (9 + 8500) ≤ 20 * (9 + 8500) := Nat.mul_le_mul_right _ hel
    omega
  · rw [h.t, ← h.t, hW.t]; rfl
  · rw [eD, s2]; exact L6.crash_rest _
  · rw [eD, s2, rest_S]; rfl
  · rw [eD, s2]; exact a1
  · rw [eD, s2, a2]; rfl
  · intro r hr
    rw [List.mem_singleton.1 hr]
    exact ⟨bat_ok (by show (encs st).length ≤ _; omega) hs (by omega), Nat.le_trans hgs.1 (by
      have : (encs st).length * (9 + 8500) ≤ 20 * (9 + 8500) := Nat.mul_le_mul_right _ hel
      omega), fun s hs' => (he s hs').2⟩
  · have e : allE [(c7, encs st)] = encs st := by simp [allE]
    rw [e]
    exact h.load
  · have e : allE [(c7, encs st)] = encs st := by simp [allE]
    rw [e]
    omega

theorem few26o {w : World} (o : Ob) (r k p : Value) (ho : ObAt w r k p o) : ∃ ans : Bool, (ans = true → o.kids.length ≤ 60) ∧
    Calls Tryz.prog 26 #[.slice (some ⟨w.heap.size, 0, none⟩) 1 1] (w.alloc (.cells (actCells o.k o.label r k p o.stamp o.note o.root) 73)) fun e w' => e = .returned (.bool ans) ∧ Below w.heap.size w w' := by
  obtain ⟨Ar, cr, rfl, -⟩ := ho.rows
  obtain ⟨Ak, ck, rfl, -⟩ := ho.kids
  obtain ⟨Ap, cp, rfl, -⟩ := ho.parents
  refine ⟨_, fun h => ?_, (few26_one_in o.k o.label o.rows.length o.kids.length o.parents.length Ar Ak Ap cr ck cp o.stamp o.note o.root w.heap.size _ (heap_alloc_new _ _) _ rfl).mono fun e w' ⟨h1, h2⟩ => ⟨h1, ?_⟩⟩
  · simp only [Bool.and_eq_true, Bool.not_eq_true', decide_eq_false_iff_not] at h
    have := h.2.2.1
    omega
  · have hb : Below w.heap.size w (w.alloc (.cells (actCells o.k o.label (.slice Ar o.rows.length cr) (.slice Ak o.kids.length ck) (.slice Ap o.parents.length cp) o.stamp o.note o.root) 73)) := (Below.refl _ _).alloc (Nat.le_refl _) _
    exact hb.trans (h2.mono hb.size)
theorem putSt_c (K : List Int) (I : St) (st : Sf) (o : Ob) : (putSt K I st o).c ≤ st.c + 1 ∧ (putSt K I st o).fresh.length ≤ st.fresh.length + 1 := by
  unfold putSt
  split
  · split
    · exact ⟨by omega, by omega⟩
    · refine ⟨?_, ?_⟩
      · show addCnt _ _ _ ≤ _
        unfold addCnt
        split <;> omega
      · show (if _ then _ else _ : List ByteArray).length ≤ _
        split
        · omega
        · rw [List.length_append]; exact Nat.le_refl _
  · exact ⟨by omega, by omega⟩
theorem put_round {K : List Int} {I : St} {l : List Ob} {i : Nat} {ids : List ByteArray} {st : Sf} (hG : Grow K I l i ids st) (hi : i < l.length) :
    ∃ X1 E1 st1 X2 E2 X3 E3 st3, putId K I st l[i] = X1 ∧ putEr K I st l[i] = E1 ∧ putSt K I st l[i] = st1 ∧ objI K I l[i] = X2 ∧ objE l[i] = E2 ∧ putId K I st1 l[i] = X3 ∧ putEr K I st1 l[i] = E3 ∧ putSt K I st1 l[i] = st3 ∧ st1.c ≤ i + 1 ∧ st1.fresh.length ≤ i + 1 ∧
      (E1 = 22 ∨ (E1 ≠ 22 ∧ X1 = X2 ∧ E1 = E2 ∧ X1 = X3 ∧ E1 = E3 ∧ st1 = st3 ∧ Grow K I l (i + 1) (ids ++ [X1]) st1)) := by
  have hc := putSt_c K I st l[i]
  have h1 := hG.c
  have h2 := hG.fr
  refine ⟨_, _, _, _, _, _, _, _, rfl, rfl, rfl, rfl, rfl, rfl, rfl, rfl, by omega, by omega, ?_⟩
  by_cases h : putEr K I st l[i] = 22
  · exact .inl h
  · obtain ⟨g1, g2, g3, g4, g5, g6⟩ := hG.put hi h
    exact .inr ⟨h, by rw [g2]; rfl, by rw [g3]; rfl, g4.symm, g5.symm, g6.symm, by rw [g2]; exact g1⟩

/-! ### Two boxes and an element of the row -/
structure T2 (w0 : World) (P Q b o : Nat) (x : Ob) (r1 k1 p1 r2 k2 p2 r k p : Value) (W : World) : Prop where
  b1 : W.heap[P]? = some (.cells #[.int .i64 x.k, .string x.label, r1, k1, p1, .int .i64 x.stamp, .string x.note, .string x.root] 27 (0, 0))
  b2 : W.heap[Q]? = some (.cells #[.int .i64 x.k, .string x.label, r2, k2, p2, .int .i64 x.stamp, .string x.note, .string x.root] 27 (0, 0))
  o1 : ObAt W r1 k1 p1 x
  o2 : ObAt W r2 k2 p2 x
  el : OAt W b o x r k p
  lt : b < W.heap.size
  below : Below w0.heap.size w0 W
theorem T2.step {w0 : World} {P Q b o : Nat} {x : Ob} {r1 k1 p1 r2 k2 p2 r k p : Value} {W W' : World} (h : T2 w0 P Q b o x r1 k1 p1 r2 k2 p2 r k p W) (hb : Below W.heap.size W W') : T2 w0 P Q b o x r1 k1 p1 r2 k2 p2 r k p W' :=
  ⟨(hb.block P (Array.getElem?_eq_some_iff.1 h.b1).1).trans h.b1, (hb.block Q (Array.getElem?_eq_some_iff.1 h.b2).1).trans h.b2, h.o1.step hb, h.o2.step hb, h.el.step h.lt hb, Nat.lt_of_lt_of_le h.lt hb.size, h.below.trans (hb.mono h.below.size)⟩
theorem T2.drew {w0 : World} {P Q b o : Nat} {x : Ob} {r1 k1 p1 r2 k2 p2 r k p : Value} {W : World} (h : T2 w0 P Q b o x r1 k1 p1 r2 k2 p2 r k p W) : T2 w0 P Q b o x r1 k1 p1 r2 k2 p2 r k p W.drew := h.step (Below.refl _ _).drew
theorem T2.facts {w0 : World} {P Q b o : Nat} {x : Ob} {r1 k1 p1 r2 k2 p2 r k p : Value} {W : World} (h : T2 w0 P Q b o x r1 k1 p1 r2 k2 p2 r k p W) :
    W.cell? ⟨P, 0, none⟩ = some (.int .i64 x.k) ∧ W.cell? ⟨P, 1, none⟩ = some (.string x.label) ∧ W.cell? ⟨P, 2, none⟩ = some r1 ∧ W.cell? ⟨P, 3, none⟩ = some k1 ∧ W.cell? ⟨P, 4, none⟩ = some p1 ∧ W.cell? ⟨P, 5, none⟩ = some (.int .i64 x.stamp) ∧ W.cell? ⟨P, 6, none⟩ = some (.string x.note) ∧ W.cell? ⟨P, 7, none⟩ = some (.string x.root) ∧
    W.cell? ⟨Q, 0, none⟩ = some (.int .i64 x.k) ∧ W.cell? ⟨Q, 1, none⟩ = some (.string x.label) ∧ W.cell? ⟨Q, 2, none⟩ = some r2 ∧ W.cell? ⟨Q, 3, none⟩ = some k2 ∧ W.cell? ⟨Q, 4, none⟩ = some p2 ∧ W.cell? ⟨Q, 5, none⟩ = some (.int .i64 x.stamp) ∧ W.cell? ⟨Q, 6, none⟩ = some (.string x.note) ∧ W.cell? ⟨Q, 7, none⟩ = some (.string x.root) ∧
    W.cell? ⟨b, o, none⟩ = some (.int .i64 x.k) ∧ W.cell? ⟨b, o + 1, none⟩ = some (.string x.label) ∧ W.cell? ⟨b, o + 2, none⟩ = some r ∧ W.cell? ⟨b, o + 3, none⟩ = some k ∧ W.cell? ⟨b, o + 4, none⟩ = some p ∧ W.cell? ⟨b, o + 5, none⟩ = some (.int .i64 x.stamp) ∧ W.cell? ⟨b, o + 6, none⟩ = some (.string x.note) ∧ W.cell? ⟨b, o + 7, none⟩ = some (.string x.root) ∧ T2 w0 P Q b o x r1 k1 p1 r2 k2 p2 r k p W :=
  ⟨L6.cell_row h.b1 rfl, L6.cell_row h.b1 rfl, L6.cell_row h.b1 rfl, L6.cell_row h.b1 rfl, L6.cell_row h.b1 rfl, L6.cell_row h.b1 rfl, L6.cell_row h.b1 rfl, L6.cell_row h.b1 rfl, L6.cell_row h.b2 rfl, L6.cell_row h.b2 rfl, L6.cell_row h.b2 rfl, L6.cell_row h.b2 rfl, L6.cell_row h.b2 rfl, L6.cell_row h.b2 rfl, L6.cell_row h.b2 rfl, L6.cell_row h.b2 rfl, h.el.c0, h.el.c1, h.el.c2, h.el.c3, h.el.c4, h.el.c5, h.el.c6, h.el.c7, h⟩
end Go.Proofs.YtjanddnlhaionaaGreatDoor
