/-
  The contract of Open, of a log of batches. No condition but on lengths.
-/
import Derived.Test.YtjanddnlhaionaaGreatDoorSL
set_option maxRecDepth 100000
namespace Go.Proofs.YtjanddnlhaionaaGreatDoor
open Go.RowKit
open L3 (Tabs St)
open L4 (C LAt LIn LNF Wf okC encC putS putE Box rcells rowC)

/-- A slice of cells, the call's own from base on; their lists lie there too. -/
structure RC (w : World) (base : Nat) (v : Value) (D : List (C × Value)) : Prop where
  row : w.ownsRow base 38 4 v D.length (rcells D)
  subs : ∀ x ∈ D, ∃ d, LIn w (fun b => base ≤ b ∧ L4.T38 w b ∧ some b ≠ v.ownBlock) d x.2 x.1.l
theorem RC.nil (w : World) (base : Nat) : RC w base (.slice none 0 0) [] := ⟨World.ownsRow_nil w base 38 4, by simp⟩
theorem RC.slice {w : World} {base : Nat} {v : Value} {D : List (C × Value)} (h : RC w base v D) : ∃ A cap, v = .slice A D.length cap := by
  rcases h.row.2 with ⟨rfl, h0⟩ | ⟨g, cap, _, rfl, _⟩
  · exact ⟨none, 0, by rw [h0]⟩
  · exact ⟨_, cap, rfl⟩
theorem RC.turn {w w' : World} {base m : Nat} {v : Value} {D : List (C × Value)} (h : RC w base v D) (ht : L6.Turn (fun k => k = m) w w') (hm : m < base) : RC w' base v D := by
  refine ⟨L6.row_keep h.row (fun k hk => ht.block k (L6.row_lt h.row hk) (by have := L6.row_ge h.row hk; omega)), fun x hx => ?_⟩
  obtain ⟨d, hd⟩ := h.subs x hx
  exact ⟨d, hd.keep (fun b hb => ⟨hb.1, hb.2.1.keep (ht.block b hb.2.1.lt (by have := hb.1; omega)), hb.2.2⟩) fun b o hb => L4.cell_same (ht.block b hb.2.1.lt (by have := hb.1; omega)) o⟩
theorem RC.step {w w' : World} {base : Nat} {v : Value} {D : List (C × Value)} (h : RC w base v D) (hb : Below w.heap.size w w') : RC w' base v D := by
  refine ⟨L6.row_keep h.row (fun k hk => hb.block k (L6.row_lt h.row hk)), fun x hx => ?_⟩
  obtain ⟨d, hd⟩ := h.subs x hx
  exact ⟨d, hd.keep (fun b hb' => ⟨hb'.1, hb'.2.1.keep (hb.block b hb'.2.1.lt), hb'.2.2⟩) fun b o hb' => L4.cell_same (hb.block b hb'.2.1.lt) o⟩
theorem RC.mono {w : World} {base base' : Nat} {v : Value} {D : List (C × Value)} (h : RC w base v D) (hb : base' ≤ base) : RC w base' v D := by
  refine ⟨?_, fun x hx => ?_⟩
  · rcases h.row with ⟨h1, h2 | ⟨g, cap, cur, a, b, c⟩⟩
    · exact ⟨h1, .inl h2⟩
    · exact ⟨h1, .inr ⟨g, cap, cur, a, Nat.le_trans hb b, c⟩⟩
  · obtain ⟨d, hd⟩ := h.subs x hx
    exact ⟨d, hd.keep (fun b hb' => ⟨Nat.le_trans hb hb'.1, hb'.2⟩) fun b o _ => rfl⟩
theorem RC.snoc {w2 w' : World} {base d : Nat} {v : Value} {D : List (C × Value)} {c : C} {u : Value} {g cap : Nat} {o : Obj} (h2 : RC w2 base v D) (hL : LIn w2 (fun b => base ≤ b ∧ L4.T38 w2 b ∧ some b ≠ v.ownBlock) d u c.l)
    (ho : w'.ownsRow base 38 4 (.slice (some ⟨g, 0, none⟩) (D.length + 1) cap) (D.length + 1) (rcells D ++ rowC (c, u))) (hg : (w2.alloc o).grownBy w' v.ownBlock) (hgl : v.ownBlock = some g ∨ g = w2.heap.size + 1) :
    RC w' base (.slice (some ⟨g, 0, none⟩) (D.length + 1) cap) (D ++ [(c, u)]) := by
  have hsa : (w2.alloc o).heap.size = w2.heap.size + 1 := by simp
  have hsz := hg.size
  have hblk : ∀ b, b < w2.heap.size → some b ≠ v.ownBlock → w'.heap[b]? = w2.heap[b]? := fun b h1 h2 => (hg.block b (by omega) h2).trans (Below.heap_alloc w2 o b h1)
  have hne : ∀ b, b < w2.heap.size → some b ≠ v.ownBlock → some b ≠ (Value.slice (some ⟨g, 0, none⟩) (D.length + 1) cap).ownBlock := by
    intro b h1 h2 e
    simp only [Value.ownBlock, Option.some.injEq] at e
    rcases hgl with h3 | h3
    · exact h2 (by rw [h3, e])
    · omega
  have hkeep : ∀ {d : Nat} {u : Value} {l : List C}, LIn w2 (fun b => base ≤ b ∧ L4.T38 w2 b ∧ some b ≠ v.ownBlock) d u l → LIn w' (fun b => base ≤ b ∧ L4.T38 w' b ∧ some b ≠ (Value.slice (some ⟨g, 0, none⟩) (D.length + 1) cap).ownBlock) d u l := fun h => h.keep (fun b hb => ⟨hb.1, hb.2.1.keep (hblk b hb.2.1.lt hb.2.2), hne b hb.2.1.lt hb.2.2⟩) fun b o' hb => L4.cell_same (hblk b hb.2.1.lt hb.2.2) o'
  refine ⟨by rw [L4.rcells_append, List.length_append]; exact ho, fun x hx => ?_⟩
  rcases List.mem_append.1 hx with hx | hx
  · obtain ⟨e, hl⟩ := h2.subs x hx
    exact ⟨e, hkeep hl⟩
  · rw [List.mem_singleton] at hx
    subst hx
    exact ⟨d, hkeep hL⟩

/-- A batch: its cell and its encodings. -/
abbrev Bt := C × List ByteArray
def btS (r : Bt) : ByteArray := putS (batC r.1 r.2)
structure BtOk (r : Bt) : Prop where
  ok : BatOk r.1 r.2
  size : (btS r).size ≤ 1000000000
  enc : ∀ s ∈ r.2, EncOk s
/-- All batches' encodings. -/
def allE (R : List Bt) : List ByteArray := R.flatMap (·.2)
theorem allE_snoc (R : List Bt) (r : Bt) : allE (R ++ [r]) = allE R ++ r.2 := by simp [allE]
theorem allE_take_le (R : List Bt) (k : Nat) : (allE (R.take k)).length ≤ (allE R).length := by
  have h : allE R = allE (R.take k) ++ allE (R.drop k) := by unfold allE; rw [← List.flatMap_append, List.take_append_drop]
  rw [h, List.length_append]
  exact Nat.le_add_right _ _

set_option maxHeartbeats 4000000 in
theorem open33 {w0 w : World} {b : Nat} {d : L6.D} (K : List Int) (I : St) (h : L6.PN w0 w b d) (hT : Tabs K I w0) (hw : d.W.length ≤ 1000000) (he : L6.openE d = 0) (R : List Bt) (hR : (L6.scanD d).recs = R.map btS) (hok : ∀ r ∈ R, BtOk r)
    (x : MP × Nat) (hx : loadS K I (fun _ => none) 0 (allE R) = some x) (hn : (allE R).length ≤ 1000000) (hRn : R.length ≤ 1000000) :
    Calls Tryz.prog 33 #[.pointer (some ⟨b, 0, none⟩)] w fun e w' => ∃ sb mb bt bl v D, e = .returned (.tuple #[.pointer (some ⟨sb, 0, none⟩), v, .int .i64 0]) ∧ SfAt w0 w' sb mb (.slice none 0 0) bt bl b d ⟨L6.openT d, x.1, x.2, []⟩ ∧ RC w' w.heap.size v D ∧ D.map (·.1) = R.map (·.1) ∧ Below w.heap.size w w' ∧ w.heap.size ≤ sb ∧ w.heap.size ≤ mb := by
  obtain ⟨i0, hi, hz0, hz1, hz2⟩ := L4.info25
  have HO := Lib.hid (L6.openN h hw he)
  rw [hR] at HO
  have HT0 := Lib.hid hT
  have HOK := Lib.hid hok
  have HX := Lib.hid hx
  have HN : Hid ((allE R).length ≤ 1000000 ∧ R.length ≤ 1000000) := ⟨hn, hRn⟩
  have HOLD := Lib.hid h.old
  clear h hT hw he hR hok hx hn hRn
  go_enter Tryz.func33, Tryz.ntmps33
  go_wp2_with fail
  refine HO.out.mono ?_
  rintro _ w2 ⟨bt, bl, v, rfl, ht2, hro, hb2⟩
  obtain ⟨vA, vc, rfl⟩ := L6.row_slice hro
  obtain ⟨W4, hW4⟩ : ∃ W4, (w2.alloc (.map #[] 0)).alloc (.cells #[.pointer (some ⟨bt, 0, none⟩), .map (some w2.heap.size), .slice none 0 0] 87) = W4 := ⟨_, rfl⟩
  have HW4 := Lib.hid hW4
  have hb4 : Below w2.heap.size w2 W4 := by rw [← hW4]; exact ((Below.refl _ _).alloc (Nat.le_refl _) _).alloc (by simp) _
  have hsz4 : W4.heap.size = w2.heap.size + 1 + 1 := by rw [← hW4]; simp
  have HS4 : Hid (SfAt w0 W4 (w2.heap.size + 1) w2.heap.size (.slice none 0 0) bt bl b d ⟨L6.openT d, fun _ => none, 0, []⟩) := by
    have hold : w0.heap.size ≤ w2.heap.size := Nat.le_trans HOLD.out.size hb2.size
    refine ⟨ht2.below hb4, ?_, ?_, World.ownsRow_nil _ _ _ _, by omega, hold⟩
    · rw [← hW4]
      have := heap_alloc_new (w2.alloc (.map #[] 0)) (.cells #[.pointer (some ⟨bt, 0, none⟩), .map (some w2.heap.size), .slice none 0 0] 87)
      simpa using this
    · rw [← hW4]
      exact (MAt.made w2).keep (Below.heap_alloc _ _ _ (by simp))
  have HRO : Hid (W4.ownsRow w.heap.size 9 1 (.slice vA (R.map btS).length vc) (R.map btS).length (L6.strs (R.map btS))) := L6.row_keep hro (fun j hj => hb4.block j (L6.row_lt hro hj))
  have HB4 := Lib.hid (hb2.trans (hb4.mono hb2.size))
  have HSZ : Hid (W4.heap.size = w2.heap.size + 1 + 1 ∧ w.heap.size ≤ w2.heap.size) := ⟨hsz4, hb2.size⟩
  have HRL : Hid (∀ k, (Value.slice vA (R.map btS).length vc).ownBlock = some k → k < w2.heap.size) := fun k hk => L6.row_lt hro hk
  have hmm : ∀ W, (Instr.makeMap 85 none).run Tryz.prog W = .ok (.map (some W.heap.size)) (W.alloc (.map #[] 0)) := fun W => run_makeMap 85 W
  obtain ⟨m, hm⟩ : ∃ m, (R.map btS).length = m := ⟨_, rfl⟩
  have HM : Hid (R.length = m) := by rw [List.length_map] at hm; exact hm
  rw [hm] at HRO HRL ⊢
  clear hm hb4 hW4 hsz4 ht2 hro hb2 HO
  go_wp2_with fail
  clear hmm
  go_loopw [9, 29] (fun s9 s29 wr => ∃ (k : Nat) (y : MP × Nat) (D : List (C × Value)), k ≤ m ∧ s29 = .int .i64 k ∧ Hid (loadS K I (fun _ => none) 0 (allE (R.take k)) = some y) ∧ Hid (SfAt w0 wr (w2.heap.size + 1) w2.heap.size (.slice none 0 0) bt bl b d ⟨L6.openT d, y.1, y.2, []⟩) ∧ Hid (L6.Turn (fun j => j = w2.heap.size) W4 wr) ∧ Hid (RC wr W4.heap.size s9 D) ∧ Hid (D.map (·.1) = (R.take k).map (·.1)) ∧ D.length = k) (fun _ s29 _ => m - (intOf s29).toNat)
  case atStart =>
    refine ⟨0, (fun _ => none, 0), [], Nat.zero_le _, rfl, by rw [List.take_zero]; rfl, ?_, ?_, RC.nil _ _, rfl, rfl⟩
    · rw [HW4.out]; exact HS4.out
    · rw [HW4.out]; exact L6.Turn.refl _ _
  case round =>
    obtain ⟨k, y, D, hk, rfl, HY, HR, HTR, HC, HD, rfl⟩ := hrel
    have hm4 : m ≤ 1000000 := by have := HN.out.2; rw [HM.out] at this; exact this
    obtain ⟨A1, c1, rfl⟩ := HC.out.slice
    by_cases hlt : D.length < m
    · have hkl : D.length < R.length := by rw [HM.out]; exact hlt
      obtain ⟨g, vc', hg⟩ := L6.row_some HRO.out (by omega)
      simp only [Value.slice.injEq] at hg
      obtain ⟨rfl, -, -⟩ := hg
      have hgl := HRL.out g rfl
      have hgm : g ≠ w2.heap.size := by omega
      have hck : wr.cell? ⟨g, D.length, none⟩ = some (.string (btS R[D.length])) := by
        rw [L4.cell_same (HTR.out.block g (by have := HSZ.out.1; omega) hgm) D.length, HRO.out.cellAt D.length (by omega)]
        unfold L6.strs
        rw [List.getElem?_map, List.getElem?_map, List.getElem?_eq_getElem hkl]
        rfl
      have hok := HOK.out R[D.length] (List.getElem_mem hkl)
      have HTK : Hid (R.take (D.length + 1) = R.take D.length ++ [R[D.length]]) := List.take_succ_eq_append_getElem hkl
      have hcn := loadS_cnt K I _ _ _ y HY.out
      have hle := allE_take_le R (D.length + 1)
      rw [HTK.out, allE_snoc, List.length_append] at hle
      have hnx : ∃ z, loadS K I y.1 y.2 (R[D.length]).2 = some z ∧ loadS K I (fun _ => none) 0 (allE (R.take (D.length + 1))) = some z := by
        have h1 : allE R = allE (R.take (D.length + 1)) ++ allE (R.drop (D.length + 1)) := by unfold allE; rw [← List.flatMap_append, List.take_append_drop]
        have h2 := HX.out
        rw [h1, loadS_append] at h2
        cases hq : loadS K I (fun _ => none) 0 (allE (R.take (D.length + 1))) with
        | none => rw [hq] at h2; cases h2
        | some z =>
          refine ⟨z, ?_, rfl⟩
          rw [HTK.out, allE_snoc, loadS_append, HY.out] at hq
          exact hq
      obtain ⟨z, hz1, hz2⟩ := hnx
      obtain ⟨⟨c, l⟩, hr⟩ : ∃ r, R[D.length] = r := ⟨_, rfl⟩
      rw [hr] at hck hok hz1 hle HTK
      obtain ⟨ck, cn, cs, cl⟩ := c
      have HZ2 := Lib.hid hz2
      have HLO := Lib.hid (load75 K I HR.out HT0.out ck cn cs cl l hok.ok hok.size hok.enc z hz1 (by show y.2 + l.length ≤ 1000000; have := HN.out.1; simp only at hle; omega))
      have hbt : btS (.mk ck cn cs cl, l) = putS (batC (.mk ck cn cs cl) l) := rfl
      rw [hbt] at hck
      generalize putS (batC (.mk ck cn cs cl) l) = S at hck HLO
      have HLT : Hid (D.length < m) := hlt
      clear hgl hgm hok hz1 hz2 hle hcn hr hkl hbt HY
      go_wp2_with fail
      refine HLO.out.mono ?_
      rintro _ w5 ⟨A, n, cap, rfl, hli, h5, ht5⟩
      have hwr : W4.heap.size ≤ wr.heap.size := HTR.out.size
      have hm2 : w2.heap.size < W4.heap.size := by have := HSZ.out.1; omega
      have hb6 : Below w5.heap.size w5 (w5.alloc (.cells #[.int .i64 ck, .int .i64 cn, .string cs, .slice A n cap] 38)) := (Below.refl _ _).alloc (Nat.le_refl _) _
      have H6 := Lib.hid (h5.below hb6)
      have hc6 := (HC.out.turn ht5 hm2).step hb6
      have HC6 := Lib.hid hc6
      have HL6 : Hid (LIn (w5.alloc (.cells #[.int .i64 ck, .int .i64 cn, .string cs, .slice A n cap] 38)) (fun b => W4.heap.size ≤ b ∧ L4.T38 (w5.alloc (.cells #[.int .i64 ck, .int .i64 cn, .string cs, .slice A n cap] 38)) b ∧ some b ≠ (Value.slice A1 D.length c1).ownBlock) 16 (.slice A n cap) cl) := by
        refine hli.keep (fun b hb => ⟨by have := hb.1; omega, hb.2.keep (hb6.block b hb.2.lt), fun e => ?_⟩) fun b o hb => L4.cell_same (hb6.block b hb.2.lt) o
        have := L6.row_lt HC.out.row e.symm
        have := hb.1
        omega
      have HTR6 : Hid (L6.Turn (fun j => j = w2.heap.size) W4 (w5.alloc (.cells #[.int .i64 ck, .int .i64 cn, .string cs, .slice A n cap] 38))) := (HTR.out.trans ht5 (fun i hi => .inl hi)).trans ⟨hb6.os, hb6.tape, hb6.output, hb6.size, fun j hj _ => hb6.block j hj⟩ (fun i hi => .inl hi)
      have hsz6 : W4.heap.size ≤ w5.heap.size := Nat.le_trans hwr ht5.size
      have HSB : Hid (w2.heap.size + 1 < w5.heap.size) := (Array.getElem?_eq_some_iff.1 h5.row).1
      clear HR HTR HC HLO hli h5 ht5 hb6 hck HRO HRL HW4 HS4 hc6
      go_wp2_with (at_builtin; go_must (refine wpList_append_lies _ rfl _ _ 36 rfl W4.heap.size 38 i0 _ 4 56 Tryz.underlying36 hi hz0 hz1 hz2 rfl (by omega) _ D.length (rcells D) rfl ?own ⟨w5.heap.size + 1, 0, none⟩ 1 1 (rowC (.mk ck cn cs cl, .slice A n cap)) rfl rfl ?news ?one (by omega) ?c3 ?c4 ?c5 _ rfl ?_))
      case own => exact World.ownsRow.alloc HC6.out.row _
      case news =>
        refine World.news_of_block (cs := #[.int .i64 ck, .int .i64 cn, .string cs, .slice A n cap]) (t := 38) (fr := (0, 0)) ?_
        have := heap_alloc_new (w5.alloc (.cells #[.int .i64 ck, .int .i64 cn, .string cs, .slice A n cap] 38)) (.cells #[.int .i64 ck, .int .i64 cn, .string cs, .slice A n cap] 38)
        simpa using this
      case one => simp [rowC, L4.k_mk, L4.n_mk, L4.s_mk, Value.oneCell']
      case c3 => unfold maxLen; omega
      case c4 => omega
      case c5 => simp; omega
      rintro g' c' w' ho hg hgl' hlt2
      have hrow6 := HC6.out.row
      have hTv : L6.Turn (fun j => (Value.slice A1 D.length c1).ownBlock = some j) (w5.alloc (.cells #[.int .i64 ck, .int .i64 cn, .string cs, .slice A n cap] 38)) w' := ((L6.Turn.refl _ _).alloc _).trans (L6.Turn.of_grown hg (fun k hk => hk)) (fun i hi => .inl hi)
      have HRC : Hid (RC w' W4.heap.size (.slice (some ⟨g', 0, none⟩) (D.length + 1) c') (D ++ [(.mk ck cn cs cl, .slice A n cap)])) := HC6.out.snoc HL6.out ho hg (by simpa using hgl')
      have HSF : Hid (SfAt w0 w' (w2.heap.size + 1) w2.heap.size (.slice none 0 0) bt bl b d ⟨L6.openT d, z.1, z.2, []⟩) := by
        refine H6.out.other hTv (fun j hj => ?_)
        obtain ⟨cs', hc'⟩ := L6.row_ty hrow6 hj
        have hge := L6.row_ge hrow6 hj
        refine ⟨⟨by have := HOLD.out.size; have := HSZ.out.2; omega, _, hc', alien_cells _ 38 (by decide)⟩, fun hmn => ?_⟩
        rcases hmn with h | h | h
        · have := HSZ.out.1; omega
        · omega
        · simp [Value.ownBlock] at h
      have HTF : Hid (L6.Turn (fun j => j = w2.heap.size) W4 w') := HTR6.out.trans hTv (fun i hi => .inr (L6.row_ge hrow6 hi))
      have HDF : Hid ((D ++ [((C.mk ck cn cs cl, .slice A n cap) : C × Value)]).map (·.1) = (R.take (D.length + 1)).map (·.1)) := by
        rw [HTK.out, List.map_append, List.map_append, HD.out]; rfl
      have HDL : Hid ((D ++ [((C.mk ck cn cs cl, .slice A n cap) : C × Value)]).length = D.length + 1) := by unfold Hid; rw [List.length_append]; rfl
      clear ho hg hgl' hTv hrow6 HC6 HL6 H6 HTR6 HTK HD hlt2
      go_wp2_with fail
      go_roundw
      case rel => exact ⟨D.length + 1, z, D ++ [(.mk ck cn cs cl, .slice A n cap)], HLT.out, by go_num, HZ2, HSF, HTF, HRC, HDF, HDL.out⟩
      case measure => have := HLT.out; simp [intOf]; omega
    · have hkn : D.length = m := by omega
      have hyx : y = x := by
        have h1 := HY.out
        rw [hkn, ← HM.out, List.take_length, HX.out] at h1
        injection h1 with h1
        exact h1.symm
      subst hyx
      have HDE : Hid (D.map (·.1) = R.map (·.1)) := by unfold Hid; rw [HD.out, hkn, ← HM.out, List.take_length]
      have HBE : Hid (Below w.heap.size w wr) := HB4.out.trans (HTR.out.below _ HB4.out.size (fun k hk => by rw [hk]; exact HSZ.out.2))
      have HRE : Hid (RC wr w.heap.size (.slice A1 D.length c1) D) := HC.out.mono HB4.out.size
      clear HY HTR HC HD HRO HRL HB4 HW4 HS4
      go_wp2_with fail
      refine bodyPost_ret (results_tmp3 rfl _ _ _) rfl ?_
      exact ⟨_, _, _, _, _, D, rfl, HR.out, HRE.out, HDE.out, HBE.out, by have := HSZ.out.2; omega, HSZ.out.2⟩
end Go.Proofs.YtjanddnlhaionaaGreatDoor
