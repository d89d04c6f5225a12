/-
  The walk of ShelfKept. No condition but that the tables are laid.
-/
import Derived.Test.YtjanddnlhaionaaGreatDoorKU
import Derived.Test.YtjanddnlhaionaaGreatDoorSN
set_option maxRecDepth 100000
namespace Go.Proofs.YtjanddnlhaionaaGreatDoor
open Go.RowKit
open L3 (Tabs St)
open L4 (C LAt LIn LNF Wf okC encC putS putE Fit rcells rowC T38)

/-- An act in a box. -/
structure BoxA (W : World) (P : Nat) (a : Ac) (r k p u kv : Value) : Prop where
  row : W.heap[P]? = some (.cells #[.int .i64 a.k, .int .i64 a.n, .int .i64 a.o.k, .string a.o.label, r, k, p, .int .i64 a.o.stamp, .string a.o.note, .string a.o.root, .int .i64 a.ck, .int .i64 a.cn, .string a.cs, u, kv] 73 (0, 0))
theorem BoxA.step {W W' : World} {P : Nat} {a : Ac} {r k p u kv : Value} (h : BoxA W P a r k p u kv) (hb : Below W.heap.size W W') : BoxA W' P a r k p u kv := ⟨(hb.block P (Array.getElem?_eq_some_iff.1 h.row).1).trans h.row⟩
theorem BoxA.cell4 {W : World} {P : Nat} {a : Ac} {r k p u kv : Value} (h : BoxA W P a r k p u kv) : W.cell? ⟨P, 10, none⟩ = some (.int .i64 a.ck) ∧ W.cell? ⟨P, 11, none⟩ = some (.int .i64 a.cn) ∧ W.cell? ⟨P, 12, none⟩ = some (.string a.cs) ∧ W.cell? ⟨P, 13, none⟩ = some u :=
  ⟨L6.cell_row h.row rfl, L6.cell_row h.row rfl, L6.cell_row h.row rfl, L6.cell_row h.row rfl⟩

set_option maxHeartbeats 40000000 in
theorem kept6_in (K : List Int) (I : St) (n : Nat) (L : List Ac) (lv : Value) (w : World) (h : ActsAt w lv L) (hT : Tabs K I w) (h1 : 1 ≤ n) (h2 : n ≤ 200) (hf : fewB L = true) :
    Calls Tryz.prog 6 #[.int .i64 (n : Int), lv] w fun e w' => e = .returned (.bool true) ∧ Below w.heap.size w w' := by
  have HF := Lib.hid (few26 L lv w h)
  rw [hf] at HF
  have HT := Lib.hid hT
  have h2t := hT.two
  have HLV : Hid (∀ W, Below w.heap.size w W → Calls Tryz.prog 27 #[] W fun e w' => e = .returned (.bool true) ∧ Below W.heap.size W w') := fun W hb => lives27 K I W (hT.below hb h2t)
  obtain ⟨hl60, hAOK⟩ := fewB_ok hf
  have HA := Lib.hid hAOK
  obtain ⟨A, cap, rfl, hcap1, hcap2, hcells⟩ := h
  have HC := Lib.hid hcells
  unfold maxLen at hcap2
  have HK0 := Lib.hid (Ks.new K I n h2)
  have HN := Lib.hid (fun W => L6.newN n h1 (by omega) W)
  have HO := Lib.hid (fun (w1 : World) (b : Nat) (hP : L6.PN w w1 b (L6.newD n)) => open33 K I hP hT (by show ([] : List (Nat × ByteArray)).length ≤ _; simp) (L6.Wh.new n).2.1 [] (L6.Wh.new n).2.2 (fun r hr => by cases hr) (fun _ => none, 0) rfl (by simp [allE]) (by simp))
  have t1 : ¬ (n : Int) < 1 := by omega
  have t2 : ¬ (200 : Int) < (n : Int) := by omega
  obtain ⟨m, hm⟩ : ∃ m, L.length = m := ⟨_, rfl⟩
  have HL60 : Hid (m ≤ 60) := by unfold Hid; omega
  rw [hm] at HF hcap1 ⊢
  have HM := Lib.hid hm
  clear hm hf hcells hAOK hT hl60 h2t
  go_enter Tryz.func6, Tryz.ntmps6
  go_wp2_with fail
  refine HF.out.mono ?_
  rintro _ w1 ⟨rfl, hb1⟩
  have HN1 := Lib.hid (HN.out w1)
  have HB1 := Lib.hid hb1
  clear hb1 HN HF
  go_wp2_with fail
  refine HN1.out.mono ?_
  rintro _ w2 ⟨b, rfl, hP⟩
  have HP2 : Hid (L6.PN w w2 b (L6.newD n)) := PN_lower hP HB1.out
  have HO2 := Lib.hid (HO.out w2 b HP2.out)
  clear hP HN1 HO HB1 t1 t2
  go_wp2_with fail
  refine HO2.out.mono ?_
  rintro _ w3 ⟨sb0, mb0, bt0, bl0, v0, D0, rfl, hs3, hrc3, hD3, hb3, -, -⟩
  have hD0 : D0 = [] := by
    have := congrArg List.length hD3
    rw [List.length_map] at this
    exact List.length_eq_zero_iff.1 this
  subst hD0
  obtain ⟨vA, vc, rfl⟩ := hrc3.slice
  have HS3 := Lib.hid hs3
  have HR3 : Hid (HR w w3 (.slice vA 0 vc) []) := hrc3.hr HP2.out.old.size
  clear hs3 hrc3 hD3 hb3 HO2 HP2
  go_wp2_with fail
  go_loopw [7, 8, 10, 11] (fun s7 s8 s10 s11 wr => ∃ (i sb mb bt bl sure c0 : Nat) (B : List Bt) (d : L6.D) (st : Sf) (m0 : MP) (fv : Value) (Dh Dw : List (C × Value)), s7 = .pointer (some ⟨sb, 0, none⟩) ∧ s11 = .int .i64 (i : Int) ∧ i ≤ m ∧ Hid (SfAt w wr sb mb fv bt bl b d st) ∧ Hid (Ks K I n i B sure d st m0 c0) ∧ Hid (st.t.count ≤ i) ∧ Hid (Hw B sure Dh Dw) ∧ Hid (HR w wr s8 Dh) ∧ Hid (HR w wr s10 Dw)) (fun _ _ _ s11 _ => m - (intOf s11).toNat)
  case atStart => exact ⟨0, sb0, mb0, bt0, bl0, 0, 0, [], _, _, _, _, [], [], rfl, rfl, Nat.zero_le _, HS3, HK0, by
    show (L6.scanD (L6.newD n)).recs.length ≤ 0
    rw [(L6.Wh.new n).2.2]; exact Nat.le_refl _, ⟨rfl, rfl⟩, HR3, HR.nil _ _⟩
  case round =>
    obtain ⟨i, sb, mb, bt, bl, sure, c0, B, d, st, m0, fv, Dh, Dw, rfl, rfl, hi, HS, HK, HCT, HW, HH, HY⟩ := hrel
    clear HS3 HK0 HR3
    obtain ⟨Ah, ch, rfl⟩ := HH.out.slice
    obtain ⟨Aw, cw, rfl⟩ := HY.out.slice
    obtain ⟨hs1, hs2⟩ := HK.out.sure_le
    obtain ⟨ln1, ln2⟩ := HW.out.lens hs1
    have HBL := Lib.hid hs1
    have HBN := HK.out.bn
    have hm60 := HL60.out
    obtain ⟨nh, hnh⟩ : ∃ nh, Dh.length = nh := ⟨_, rfl⟩
    obtain ⟨nw, hnw⟩ : ∃ nw, Dw.length = nw := ⟨_, rfl⟩
    rw [hnh] at ln1 HH ⊢
    rw [hnw] at ln2 HY ⊢
    have HNH := Lib.hid hnh
    have HNW := Lib.hid hnw
    have HL1 := Lib.hid ln1
    have HL2 := Lib.hid ln2
    clear ln1 ln2 hnh hnw hs1 hs2
    by_cases hlt : i < m
    · have hil : i < L.length := by rw [HM.out]; exact hlt
      obtain ⟨bb, oo, rfl, hbb, hcells⟩ := HC.out (by omega)
      obtain ⟨rv, kv, pv, uv, keepv, dd, hat⟩ := hcells i hil
      have HAT : Hid (∀ W, Below w.heap.size w W → AcAt W bb (oo + i * 15) L[i] rv kv pv uv keepv dd) := fun W hb => hat.step hbb hb
      have HLW : Hid (LNF 0 w w.heap.size dd uv L[i].cl) := hat.la
      have HAK := Lib.hid (HA.out i hil)
      obtain ⟨Ar, cr, rfl, -⟩ := hat.ob.rows
      obtain ⟨Ak, ck, rfl, -⟩ := hat.ob.kids
      obtain ⟨Ap, cp, rfl, -⟩ := hat.ob.parents
      obtain ⟨Au, cu, rfl⟩ := hat.la.slice
      obtain ⟨Al, cl', rfl, -⟩ := hat.ints
      clear hcells hat
      generalize L[i] = a at HAT HLW HAK
      obtain ⟨x0, x1, x2, x3, x4, x5, x6, x7, x8, x9, x10, x11, x12, x13, x14⟩ : _ ∧ _ ∧ _ ∧ _ ∧ _ ∧ _ ∧ _ ∧ _ ∧ _ ∧ _ ∧ _ ∧ _ ∧ _ ∧ _ ∧ _ := by
        have h := HAT.out _ HS.out.old
        exact ⟨h.c0, h.c1, h.c2, h.c3, h.c4, h.c5, h.c6, h.c7, h.c8, h.c9, h.c10, h.c11, h.c12, h.c13, h.c14⟩
      have hi0 : (0 : Int) ≤ (i : Int) := by omega
      have hi1 : (i : Int) < (m : Int) := by omega
      obtain ⟨Wa, hWa⟩ : ∃ Wa, wr.alloc (.cells #[.int .i64 a.k, .int .i64 a.n, .int .i64 a.o.k, .string a.o.label, .slice Ar a.o.rows.length cr, .slice Ak a.o.kids.length ck, .slice Ap a.o.parents.length cp, .int .i64 a.o.stamp, .string a.o.note, .string a.o.root, .int .i64 a.ck, .int .i64 a.cn, .string a.cs, .slice Au a.cl.length cu, .slice Al a.keep.length cl'] 73) = Wa := ⟨_, rfl⟩
      have HWA := Lib.hid hWa
      have hbA : Below wr.heap.size wr Wa := by rw [← hWa]; exact (Below.refl _ _).alloc (Nat.le_refl _) _
      have HBX : Hid (BoxA Wa wr.heap.size a (.slice Ar a.o.rows.length cr) (.slice Ak a.o.kids.length ck) (.slice Ap a.o.parents.length cp) (.slice Au a.cl.length cu) (.slice Al a.keep.length cl')) := by
        rw [← hWa]; exact ⟨heap_alloc_new _ _⟩
      have HPM : Hid (∀ k, Mine sb mb fv k → k < wr.heap.size) := HS.out.mine_lt
      have h0r := HS.out.old.size
      have HS1 := Lib.hid (HS.out.below hbA)
      have HH1 := Lib.hid (HH.out.below h0r hbA)
      have HY1 := Lib.hid (HY.out.below h0r hbA)
      have h0a := HS1.out.old.size
      have HAA := Lib.hid (HAT.out Wa HS1.out.old)
      clear hWa hbA h0r HS HH HY
      have hi60 : i ≤ 60 := by omega
      by_cases e1 : a.k = 1
      · have HFL := HK.out.fl
        have HEN := Lib.hid HK.out.encsOk
        have hesz : esz (.mk a.ck a.cn a.cs a.cl) ≤ 9000 := HAK.out.esz
        have hlen := (bat_len (c := .mk a.ck a.cn a.cs a.cl) hesz (by rw [encs_len]; omega) (fun s hs => (HEN.out s hs).1)).1
        have hkw := HK.out.kp.wlen
        have HCM := Lib.hid (commit34 HS1.out HK.out.ids (by omega) a.ck a.cn a.cs a.cl _ dd HAA.out.la HAA.out.wf HAK.out.cnt (fun s hs => by have := (HEN.out s hs).1; omega) (fun _ => by omega) (by omega) (by have := HCT.out; omega))
        have HM38 := Lib.hid HS1.out.mine38
        obtain ⟨kc0, kc1⟩ := HK.out.commit hi60 hesz (fit_all (c := .mk a.ck a.cn a.cs a.cl) HLW.out HAA.out.wf)
        have HCD : Hid ((comSt st d (.mk a.ck a.cn a.cs a.cl)).t.count ≤ i + 1) := by
          have h := HCT.out
          have h2 := com_count st d (.mk a.ck a.cn a.cs a.cl)
          unfold Hid
          omega
        generalize comE st d (.mk a.ck a.cn a.cs a.cl) = fe at HCM kc0 kc1
        generalize comSt st d (.mk a.ck a.cn a.cs a.cl) = st' at HCM kc0 kc1 HCD
        generalize comD st d (.mk a.ck a.cn a.cs a.cl) = d' at HCM kc0 kc1
        have e1' : (a.k == 1) = true := by simpa using e1
        rw [e1] at HWA
        clear hesz hlen hkw HFL HEN
        by_cases hf0 : fe = 0
        · as_aux_lemma =>
            obtain ⟨hbs, hks⟩ := kc0 hf0
            have HK5 := Lib.hid hks
            have HW5 := Lib.hid (HW.out.done hbs (.mk a.ck a.cn a.cs a.cl, encs st) (.slice Au a.cl.length cu))
            have hnh1 : nh + 1 ≤ 1000000 := by have := HL1.out; have := HK.out.bn; omega
            subst hf0
            clear kc0 kc1 hks hbs
            go_wp2_with fail
            rw [HWA.out]
            refine HCM.out.mono ?_
            rintro _ w5 ⟨fv5, rfl, hs5, hst5, -⟩
            have HS5 := Lib.hid hs5
            have HH5 := Lib.hid (HH1.out.stand hst5 (fun k hk => (HM38.out k hk).2))
            have HBX5 : Hid (BoxA w5 wr.heap.size a (.slice Ar a.o.rows.length cr) (.slice Ak a.o.kids.length ck) (.slice Ap a.o.parents.length cp) (.slice Au a.cl.length cu) (.slice Al a.keep.length cl')) :=
              ⟨hst5.keep _ _ HBX.out.row (alien_cells _ 73 (by decide)) (fun hm => Nat.lt_irrefl _ (HPM.out _ hm))⟩
            have h05 := HS5.out.old.size
            have HE : Hid (∀ W v', W.ownsRow w5.heap.size 38 4 v' (0 + nh + 1) ([] ++ rcells Dh ++ rcells [((C.mk a.ck a.cn a.cs a.cl, .slice Au a.cl.length cu) : C × Value)]) → Below w5.heap.size w5 W → SfAt w W sb mb fv5 bt bl b d' st' ∧ HR w W v' (Dh ++ [(.mk a.ck a.cn a.cs a.cl, .slice Au a.cl.length cu)])) := by
              intro W v' ho hb
              exact ⟨HS5.out.below hb, HR.made h05 (HH5.out.subs.append (Subs.one HLW.out HS5.out.old)) ho (by rw [List.length_append, HNH.out, Nat.zero_add]; rfl) (by rw [L4.rcells_append]; rfl) hb⟩
            have HHW : Hid (∀ W, Below w5.heap.size w5 W → W.ownsRow w.heap.size 38 4 (.slice Ah nh ch) nh (rcells Dh)) := fun W hb => by
              have h := (HH5.out.below h05 hb).row
              rw [HNH.out] at h
              exact h
            have hso := Lib.hid HH5.out.subs.cells
            have HSO1 : Hid (∀ y ∈ rcells [((C.mk a.ck a.cn a.cs a.cl, .slice Au a.cl.length cu) : C × Value)], y.oneCell' = true) := (Subs.one (w := w5) HLW.out HS5.out.old).cells
            have HX2 : Hid (∀ W, Below w5.heap.size w5 W → W.cell? ⟨wr.heap.size, 10, none⟩ = some (.int .i64 a.ck) ∧ W.cell? ⟨wr.heap.size, 11, none⟩ = some (.int .i64 a.cn) ∧ W.cell? ⟨wr.heap.size, 12, none⟩ = some (.string a.cs) ∧ W.cell? ⟨wr.heap.size, 13, none⟩ = some (.slice Au a.cl.length cu)) := fun W hb => (HBX5.out.step hb).cell4
            have HGR : Hid (∀ W W' v, Below w5.heap.size w5 W → W.grownBy W' (Value.ownBlock v) → (∀ k, Value.ownBlock v = some k → w5.heap.size ≤ k) → Below w5.heap.size w5 W') := fun W W' v hb hg hk => hb.grown hg hb.size hk
            obtain ⟨one, hone⟩ : ∃ one : Array Value, #[.int .i64 a.ck, .int .i64 a.cn, .string a.cs, .slice Au a.cl.length cu] = one := ⟨_, rfl⟩
            have bA1 : Hid (Below w5.heap.size w5 (w5.drew.alloc (.cells #[] 38))) := ((Below.refl _ _).drew).alloc (Nat.le_refl _) _
            have bA2 : Hid (Below w5.heap.size w5 ((w5.drew.alloc (.cells #[] 38)).alloc (.cells one 38))) := bA1.out.alloc bA1.out.size _
            have bA3 : Hid (Below w5.heap.size w5 ((w5.drew.alloc (.cells one 38)).alloc (.cells #[] 38))) := (((Below.refl _ _).drew).alloc (Nat.le_refl _) _).alloc (by simp) _
            have rA1 : Hid ((w5.drew.alloc (.cells #[] 38)).ownsRow w5.heap.size 38 4 (.slice (some ⟨w5.heap.size, 0, none⟩) 0 0) 0 []) := empty_row38 (heap_alloc_new w5.drew _) (Nat.le_refl _)
            have rA2 : Hid (((w5.drew.alloc (.cells #[] 38)).alloc (.cells one 38)).ownsRow w5.heap.size 38 4 (.slice (some ⟨w5.heap.size, 0, none⟩) 0 0) 0 []) := World.ownsRow.alloc rA1.out _
            have rA3 : Hid (((w5.drew.alloc (.cells one 38)).alloc (.cells #[] 38)).ownsRow w5.heap.size 38 4 (.slice (some ⟨w5.heap.size + 1, 0, none⟩) 0 0) 0 []) := empty_row38 (by have := heap_alloc_new (w5.drew.alloc (.cells one 38)) (.cells #[] 38); simpa using this) (Nat.le_succ _)
            have l2 : Hid (((w5.drew.alloc (.cells #[] 38)).alloc (.cells one 38)).heap[w5.heap.size + 1]? = some (.cells one 38 (0, 0))) := by have h := heap_alloc_new (w5.drew.alloc (.cells #[] 38)) (.cells one 38); unfold Hid; simpa using h
            have l3 : Hid (((w5.drew.alloc (.cells one 38)).alloc (.cells #[] 38)).heap[w5.heap.size]? = some (.cells one 38 (0, 0))) := by
              have h := heap_alloc_new w5.drew (.cells one 38)
              unfold Hid
              rw [((Below.refl (w5.drew.alloc (.cells one 38)).heap.size (w5.drew.alloc (.cells one 38))).alloc (Nat.le_refl _) (.cells #[] 38)).block _ (by simp)]
              exact h
            have HONE : Hid (∀ (W : World) (g : Nat), W.heap[g]? = some (.cells one 38 (0, 0)) → W.ownsRow 0 38 4 (.slice (some ⟨g, 0, none⟩) 1 1) 1 (rcells [((C.mk a.ck a.cn a.cs a.cl, .slice Au a.cl.length cu) : C × Value)])) := fun W g hg => by
              rw [← hone] at hg
              exact one_row38 (c := .mk a.ck a.cn a.cs a.cl) hg (Nat.zero_le _)
            subst hone
            obtain ⟨y10, y11, y12, y13⟩ := HX2.out _ (Below.refl _ _)
            obtain ⟨z10, z11, z12, z13⟩ := HX2.out _ bA1.out
            obtain ⟨v10, v11, v12, v13⟩ := HX2.out (w5.alloc (.cells #[] 38)) ((Below.refl _ _).alloc (Nat.le_refl _) _)
            clear hs5 hst5 HCM HS1 HH1 HY1 HBX HBX5 HS5 HH5 HAT HAA HK HW HAK HL1 HL2
            go_wp2_with fail
            go_region_law (first
              | (refine step_append_cells rfl (.tmp 80) (.tmp 81) rfl w5.heap.size w.heap.size (.slice (some ⟨w5.heap.size, 0, none⟩) 0 0) 0 [] (by simp [Act.eval]) rA1.out (.slice Ah nh ch) nh (rcells Dh) (by simp [Act.eval]) (HHW.out _ bA1.out) hso.out (by omega) bA1.out.size ?_; intro v4 w4 ho4 hg4 hat4; have HB4 := Lib.hid (HGR.out _ _ _ bA1.out hg4 (fun k e => L6.row_ge rA1.out e)); have HO4 := Lib.hid ho4; obtain ⟨u10, u11, u12, u13⟩ := HX2.out _ HB4.out; obtain ⟨gA, gc, rfl⟩ := L6.row_slice ho4; clear ho4 hg4 hat4)
              | (refine step_append_cells rfl (.tmp 80) (.tmp 81) rfl w5.heap.size w.heap.size (.slice (some ⟨w5.heap.size, 0, none⟩) 0 0) 0 [] (by simp [Act.eval]) rA2.out (.slice Ah nh ch) nh (rcells Dh) (by simp [Act.eval]) (HHW.out _ bA2.out) hso.out (by omega) bA2.out.size ?_; intro v4 w4 ho4 hg4 hat4; have HB4 := Lib.hid (HGR.out _ _ _ bA2.out hg4 (fun k e => L6.row_ge rA2.out e)); have HO4 := Lib.hid ho4; have HLT := Lib.hid (HONE.out w4 (w5.heap.size + 1) ((hg4.block _ (by simp) (by simp [Value.ownBlock])).trans l2.out)); obtain ⟨gA, gc, rfl⟩ := L6.row_slice ho4; clear ho4 hg4 hat4)
              | (refine step_append_cells rfl (.tmp 80) (.tmp 81) rfl w5.heap.size w.heap.size (.slice (some ⟨w5.heap.size + 1, 0, none⟩) 0 0) 0 [] (by simp [Act.eval]) rA3.out (.slice Ah nh ch) nh (rcells Dh) (by simp [Act.eval]) (HHW.out _ bA3.out) hso.out (by omega) bA3.out.size ?_; intro v4 w4 ho4 hg4 hat4; have HB4 := Lib.hid (HGR.out _ _ _ bA3.out hg4 (fun k e => L6.row_ge rA3.out e)); have HO4 := Lib.hid ho4; have HLT := Lib.hid (HONE.out w4 w5.heap.size ((hg4.block _ (by simp; omega) (by simp [Value.ownBlock])).trans l3.out)); obtain ⟨gA, gc, rfl⟩ := L6.row_slice ho4; clear ho4 hg4 hat4)
              | (refine step_append_cells rfl (.tmp 82) (.tmp 85) rfl w5.heap.size 0 (.slice gA (0 + nh) gc) (0 + nh) ([] ++ rcells Dh) (by simp [Act.eval]) (World.ownsRow.alloc HO4.out (.cells #[.int .i64 a.ck, .int .i64 a.cn, .string a.cs, .slice Au a.cl.length cu] 38)) (.slice (some ⟨w4.heap.size, 0, none⟩) 1 1) 1 (rcells [((C.mk a.ck a.cn a.cs a.cl, .slice Au a.cl.length cu) : C × Value)]) (by simp [Act.eval]) (HONE.out _ _ (heap_alloc_new w4 _)) HSO1.out (by omega) (HB4.out.alloc HB4.out.size _).size ?_; intro v6 w6 ho6 hg6 hat6; have HFN := Lib.hid (HE.out _ _ ho6 (HGR.out _ _ _ (HB4.out.alloc HB4.out.size (.cells #[.int .i64 a.ck, .int .i64 a.cn, .string a.cs, .slice Au a.cl.length cu] 38)) hg6 (fun k e => L6.row_ge HO4.out e))); clear ho6 hg6 hat6)
              | (refine step_append_cells rfl (.tmp 82) (.tmp 85) rfl w5.heap.size 0 (.slice gA (0 + nh) gc) (0 + nh) ([] ++ rcells Dh) (by simp [Act.eval]) HO4.out (.slice (some ⟨w5.heap.size + 1, 0, none⟩) 1 1) 1 (rcells [((C.mk a.ck a.cn a.cs a.cl, .slice Au a.cl.length cu) : C × Value)]) (by simp [Act.eval]) HLT.out HSO1.out (by omega) HB4.out.size ?_; intro v6 w6 ho6 hg6 hat6; have HFN := Lib.hid (HE.out _ _ ho6 (HGR.out _ _ _ HB4.out hg6 (fun k e => L6.row_ge HO4.out e))); clear ho6 hg6 hat6)
              | (refine step_append_cells rfl (.tmp 82) (.tmp 85) rfl w5.heap.size 0 (.slice gA (0 + nh) gc) (0 + nh) ([] ++ rcells Dh) (by simp [Act.eval]) HO4.out (.slice (some ⟨w5.heap.size, 0, none⟩) 1 1) 1 (rcells [((C.mk a.ck a.cn a.cs a.cl, .slice Au a.cl.length cu) : C × Value)]) (by simp [Act.eval]) HLT.out HSO1.out (by omega) HB4.out.size ?_; intro v6 w6 ho6 hg6 hat6; have HFN := Lib.hid (HE.out _ _ ho6 (HGR.out _ _ _ HB4.out hg6 (fun k e => L6.row_ge HO4.out e))); clear ho6 hg6 hat6))
            all_goals
              go_wp2
              obtain ⟨Av, cv, hvv⟩ := HFN.out.2.slice
              subst hvv
              go_roundw
              case rel => exact ⟨i + 1, sb, mb, bt, bl, sure + 1, st.c, B ++ [(.mk a.ck a.cn a.cs a.cl, encs st)], d', st', st.m, fv5, Dh ++ [(.mk a.ck a.cn a.cs a.cl, .slice Au a.cl.length cu)], [], rfl, by go_num, by omega, Lib.hid HFN.out.1, HK5, HCD, HW5, Lib.hid HFN.out.2, HR.nil _ _⟩
              case measure => simp [intOf]; omega
        · have hf0' : (fe == 0) = false := by simpa using hf0
          rcases kc1 hf0 with ⟨rfl, hbs, hks⟩ | ⟨h9, hks⟩
          · as_aux_lemma =>
              have HK5 := Lib.hid hks
              have HW5 := Lib.hid (HW.out.onWay hbs (.mk a.ck a.cn a.cs a.cl, encs st) (.slice Au a.cl.length cu))
              have hnw0 : nw = 0 := by have := HL2.out; omega
              subst hnw0
              clear kc0 kc1 hks hbs
              go_wp2_with fail
              rw [HWA.out]
              refine HCM.out.mono ?_
              rintro _ w5 ⟨fv5, rfl, hs5, hst5, -⟩
              have HS5 := Lib.hid hs5
              have HH5 := Lib.hid (HH1.out.stand hst5 (fun k hk => (HM38.out k hk).2))
              have HBX5 : Hid (BoxA w5 wr.heap.size a (.slice Ar a.o.rows.length cr) (.slice Ak a.o.kids.length ck) (.slice Ap a.o.parents.length cp) (.slice Au a.cl.length cu) (.slice Al a.keep.length cl')) :=
                ⟨hst5.keep _ _ HBX.out.row (alien_cells _ 73 (by decide)) (fun hm => Nat.lt_irrefl _ (HPM.out _ hm))⟩
              have h05 := HS5.out.old.size
              have bA1 : Below w5.heap.size w5 (w5.alloc (.cells #[.int .i64 a.ck, .int .i64 a.cn, .string a.cs, .slice Au a.cl.length cu] 38)) := (Below.refl _ _).alloc (Nat.le_refl _) _
              have HS6 := Lib.hid (HS5.out.below bA1)
              have HH6 := Lib.hid (HH5.out.below h05 bA1)
              have HY6 : Hid (HR w (w5.alloc (.cells #[.int .i64 a.ck, .int .i64 a.cn, .string a.cs, .slice Au a.cl.length cu] 38)) (.slice (some ⟨w5.heap.size, 0, none⟩) 1 1) [(.mk a.ck a.cn a.cs a.cl, .slice Au a.cl.length cu)]) :=
                HR.made h05 (Subs.one HLW.out HS5.out.old) (one_row38 (c := .mk a.ck a.cn a.cs a.cl) (heap_alloc_new w5 _) (Nat.le_refl _)) rfl rfl bA1
              obtain ⟨y10, y11, y12, y13⟩ := HBX5.out.cell4
              clear hs5 hst5 HCM HS1 HH1 HY1 HBX HBX5 HS5 HH5 HAT HAA HK HW HAK HL1 HL2 bA1 h05
              go_wp2_with fail
              go_roundw
              case rel => exact ⟨i + 1, sb, mb, bt, bl, sure, c0, B ++ [(.mk a.ck a.cn a.cs a.cl, encs st)], d', st', m0, fv5, Dh, [(.mk a.ck a.cn a.cs a.cl, .slice Au a.cl.length cu)], rfl, by go_num, by omega, HS6, HK5, HCD, HW5, HH6, HY6⟩
              case measure => simp [intOf]; omega
          · as_aux_lemma =>
              have HK5 := Lib.hid hks
              have H9 : Hid (fe = 9 → nw = 1) := fun e => by have := h9 e; have := HL2.out; omega
              clear kc0 kc1 hks h9
              by_cases hf9 : fe = 9
              · have hnw1 : nw = 1 := H9.out hf9
                subst hnw1 hf9
                go_wp2_with fail
                rw [HWA.out]
                refine HCM.out.mono ?_
                rintro _ w5 ⟨fv5, rfl, hs5, hst5, -⟩
                have HS5 := Lib.hid hs5
                have HH5 := Lib.hid (HH1.out.stand hst5 (fun k hk => (HM38.out k hk).2))
                have HY5 := Lib.hid (HY1.out.stand hst5 (fun k hk => (HM38.out k hk).2))
                clear hs5 hst5 HCM HS1 HH1 HY1 HBX HAT HAA HK HAK HL1 HL2
                go_wp2_with fail
                go_roundw
                case rel => exact ⟨i + 1, sb, mb, bt, bl, sure, c0, B, d', st', m0, fv5, Dh, Dw, rfl, by go_num, by omega, HS5, HK5, HCD, HW, HH5, HY5⟩
                case measure => simp [intOf]; omega
              · have hf9' : (fe == 9) = false := by simpa using hf9
                go_wp2_with fail
                rw [HWA.out]
                refine HCM.out.mono ?_
                rintro _ w5 ⟨fv5, rfl, hs5, hst5, -⟩
                have HS5 := Lib.hid hs5
                have HH5 := Lib.hid (HH1.out.stand hst5 (fun k hk => (HM38.out k hk).2))
                have HY5 := Lib.hid (HY1.out.stand hst5 (fun k hk => (HM38.out k hk).2))
                clear hs5 hst5 HCM HS1 HH1 HY1 HBX HAT HAA HK HAK HL1 HL2
                go_wp2_with fail
                go_roundw
                case rel => exact ⟨i + 1, sb, mb, bt, bl, sure, c0, B, d', st', m0, fv5, Dh, Dw, rfl, by go_num, by omega, HS5, HK5, HCD, HW, HH5, HY5⟩
                case measure => simp [intOf]; omega
      · have e1' : (a.k == 1) = false := by simpa using e1
        by_cases e2 : a.k = 2
        · as_aux_lemma =>
            have e2' : (a.k == 2) = true := by simpa using e2
            rw [e2] at HWA
            have HDR := Lib.hid (drop35 HS1.out HK.out.ids (by have := HK.out.fl; omega))
            have HM38 := Lib.hid HS1.out.mine38
            have HKD := Lib.hid HK.out.drop
            have HCD : Hid ((remSt st).t.count ≤ i + 1) := by
              have h := HCT.out
              show st.t.count ≤ i + 1
              omega
            generalize remSt st = st' at HDR HKD HCD
            go_wp2_with fail
            rw [HWA.out]
            refine HDR.out.mono ?_
            rintro _ w5 ⟨rfl, hs5, ht5⟩
            have HS5 := Lib.hid hs5
            have HH5 := Lib.hid (HH1.out.turn h0a ht5 HM38.out)
            have HY5 := Lib.hid (HY1.out.turn h0a ht5 HM38.out)
            clear hs5 ht5 HDR HS1 HH1 HY1
            go_wp2_with fail
            go_roundw
            case rel => exact ⟨i + 1, sb, mb, bt, bl, sure, c0, B, d, st', m0, _, Dh, Dw, rfl, by go_num, by omega, HS5, HKD, HCD, HW, HH5, HY5⟩
            case measure => simp [intOf]; omega
        · have e2' : (a.k == 2) = false := by simpa using e2
          by_cases e34 : a.k = 3 ∨ a.k = 4
          · have HCR := Lib.hid (crashK HS1.out (by have := HK.out.kp.wlen; omega) a.keep (.slice Al a.keep.length cl') HAA.out.ints (by have := HAK.out.keep; omega))
            obtain ⟨m2, x, p1, p2, p3, p4, p5, p6⟩ := HK.out.crash hi60 a.keep
            have hcw : (L6.crashD d a.keep).W.length ≤ 1000000 := by show ([] : List (Nat × ByteArray)).length ≤ _; simp
            have hbl : (B.take m2).length ≤ 61 := by rw [List.length_take]; omega
            have hal : (allE (B.take m2)).length ≤ 1000000 := by
              have h := allE_len (B.take m2) (fun r hr => (p6.ok r hr).len)
              have h2 : (B.take m2).length * 60 ≤ 61 * 60 := Nat.mul_le_mul_right _ hbl
              omega
            have HCD : Hid ((L6.openT (L6.crashD d a.keep)).count ≤ i + 1) := by
              show (L6.scanD (L6.crashD d a.keep)).recs.length ≤ _
              rw [p4, List.length_map, List.length_take]; omega
            have HOP := Lib.hid (fun (W : World) (hP : L6.PN w W b (L6.crashD d a.keep)) => open33 K I hP HT.out hcw p3 (B.take m2) p4 (fun r hr => (p6.ok r hr).ok) x p5 hal (by omega))
            have HK5 := Lib.hid p6
            generalize L6.crashD d a.keep = d' at HCR HOP HK5 HCD
            have HML : Hid ((B.take m2).length = m2) := by unfold Hid; rw [List.length_take]; omega
            have HWW := Lib.hid HW.out.want
            have hsl : ¬ (m2 : Int) < (nh : Int) := by have := HL1.out; omega
            have hsg : ¬ (nh : Int) + (nw : Int) < (m2 : Int) := by have := HL1.out; have := HL2.out; omega
            have hnb : nh + nw ≤ 61 := by have := HL1.out; have := HL2.out; omega
            have hm2 : m2 ≤ 61 := by omega
            have hmle : m2 ≤ nh + nw := by omega
            clear p1 p2 p3 p4 p5 p6 hcw hbl hal
            rcases e34 with e3 | e4
            all_goals
              as_aux_lemma =>
                first
                  | (rw [e3] at HWA; have q3 : (a.k == 3) = true := by simpa using e3)
                  | (rw [e4] at HWA; have q3 : (a.k == 3) = false := (by simp; omega); have q4 : (a.k == 4) = true := by simpa using e4)
                go_wp2_with fail
                rw [HWA.out]
                refine HCR.out.mono ?_
                rintro _ w5 ⟨rfl, hP5, hst5⟩
                have h05 := hP5.old.size
                have HO5 := Lib.hid (HOP.out w5 hP5)
                have HH5 := Lib.hid (HH1.out.stand (hst5 (fun _ => False)) (fun _ h => h.elim))
                have HY5 := Lib.hid (HY1.out.stand (hst5 (fun _ => False)) (fun _ h => h.elim))
                clear hP5 hst5 HCR HS1 HH1 HY1 HBX HAT HAA HK HW HAK HL1 HL2 HPM HLW HCT
                go_wp2_with fail
                refine HO5.out.mono ?_
                rintro _ w6 ⟨sb1, mb1, bt1, bl1, v1, D1, rfl, hs6, hrc6, hD6, hb6, -, -⟩
                obtain ⟨vA1, vc1, rfl⟩ := hrc6.slice
                have hl1 : D1.length = m2 := by
                  have h := congrArg List.length hD6
                  rw [List.length_map, List.length_map, HML.out] at h
                  exact h
                have HS6 := Lib.hid hs6
                have h06 := hs6.old.size
                have HN6 := Lib.hid (hrc6.hr (w0 := w) h05)
                have HH6 := Lib.hid (HH5.out.below h05 hb6)
                have HY6 := Lib.hid (HY5.out.below h05 hb6)
                have HO6 := Lib.hid (HOP.out w6 hs6.tn.pn)
                have HD6 := Lib.hid hD6
                rw [hl1] at HN6 ⊢
                clear hs6 hrc6 hD6 hb6 HO5 HH5 HY5 HOP
                go_wp2_with fail
                refine HO6.out.mono ?_
                rintro _ w7 ⟨sb2, mb2, bt2, bl2, v2, D2, rfl, -, hrc7, hD7, hb7, -, -⟩
                obtain ⟨vA2, vc2, rfl⟩ := hrc7.slice
                have hl2 : D2.length = m2 := by
                  have h := congrArg List.length hD7
                  rw [List.length_map, List.length_map, HML.out] at h
                  exact h
                have HS7 := Lib.hid (HS6.out.below hb7)
                have h07 := HS7.out.old.size
                have HN7 := Lib.hid (HN6.out.below h06 hb7)
                have HH7 := Lib.hid (HH6.out.below h06 hb7)
                have HY7 := Lib.hid (HY6.out.below h06 hb7)
                have HG7 := Lib.hid (hrc7.hr (w0 := w) h06)
                have HD7 := Lib.hid hD7
                rw [hl2] at HG7 ⊢
                clear hrc7 hD7 hb7 HO6 HS6 HN6 HH6 HY6
                have HX1 := Lib.hid hl1
                have HX2 := Lib.hid hl2
                clear hl1 hl2
                have hso1 := Lib.hid HH7.out.subs.cells
                have hso2 := Lib.hid HY7.out.subs.cells
                have bA1 : Hid (Below w7.heap.size w7 (w7.alloc (.cells #[] 38))) := (Below.refl _ _).alloc (Nat.le_refl _) _
                have rA1 : Hid ((w7.alloc (.cells #[] 38)).ownsRow w7.heap.size 38 4 (.slice (some ⟨w7.heap.size, 0, none⟩) 0 0) 0 []) := empty_row38 (heap_alloc_new w7 _) (Nat.le_refl _)
                have HHW : Hid (∀ W, Below w7.heap.size w7 W → W.ownsRow w.heap.size 38 4 (.slice Ah nh ch) nh (rcells Dh)) := fun W hb => by
                  have h := (HH7.out.below h07 hb).row
                  rw [HNH.out] at h
                  exact h
                have HYW : Hid (∀ W, Below w7.heap.size w7 W → W.ownsRow w.heap.size 38 4 (.slice Aw nw cw) nw (rcells Dw)) := fun W hb => by
                  have h := (HY7.out.below h07 hb).row
                  rw [HNW.out] at h
                  exact h
                have HE : Hid (∀ W v', W.ownsRow w7.heap.size 38 4 v' (0 + nh + nw) ([] ++ rcells Dh ++ rcells Dw) → Below w7.heap.size w7 W → HR w W v' (Dh ++ Dw)) := fun W v' ho hb =>
                  HR.made h07 (HH7.out.subs.append HY7.out.subs) ho (by rw [List.length_append, HNH.out, HNW.out, Nat.zero_add]) (by rw [L4.rcells_append]; rfl) hb
                have HGR : Hid (∀ W W' v, Below w7.heap.size w7 W → W.grownBy W' (Value.ownBlock v) → (∀ k, Value.ownBlock v = some k → w7.heap.size ≤ k) → Below w7.heap.size w7 W') := fun W W' v hb hg hk => hb.grown hg hb.size hk
                clear HH7 HY7
                go_wp2_with (at_builtin; go_must (first
                  | (refine wpList_append_cells rfl (.tmp 155) (.tmp 156) rfl w7.heap.size w.heap.size (.slice (some ⟨w7.heap.size, 0, none⟩) 0 0) 0 [] (by simp [Act.eval]) rA1.out (.slice Ah nh ch) nh (rcells Dh) (by simp [Act.eval]) (HHW.out _ bA1.out) hso1.out (by omega) bA1.out.size ?_; intro v8 w8 ho8 hg8 hat8; have HB8 := Lib.hid (HGR.out _ _ _ bA1.out hg8 (fun k e => L6.row_ge rA1.out e)); have HO8 := Lib.hid ho8; obtain ⟨gA, gc, rfl⟩ := L6.row_slice ho8; clear ho8 hg8 hat8)
                  | (refine wpList_append_cells rfl (.tmp 157) (.tmp 158) rfl w7.heap.size w.heap.size (.slice gA (0 + nh) gc) (0 + nh) ([] ++ rcells Dh) (by simp [Act.eval]) HO8.out (.slice Aw nw cw) nw (rcells Dw) (by simp [Act.eval]) (HYW.out _ HB8.out) hso2.out (by omega) HB8.out.size ?_; intro v9 w9 ho9 hg9 hat9; have HB9 := Lib.hid (HGR.out _ _ _ HB8.out hg9 (fun k e => L6.row_ge HO8.out e)); have HW9 := Lib.hid (HE.out _ _ ho9 HB9.out); obtain ⟨gB, gd, rfl⟩ := L6.row_slice ho9; clear ho9 hg9 hat9)))
                obtain ⟨N, hN⟩ : ∃ N, nh + nw = N := ⟨_, rfl⟩
                rw [Nat.zero_add, hN] at HW9
                rw [hN]
                have HNN := Lib.hid hN
                clear hN
                have HN9 := Lib.hid (HN7.out.below h07 HB9.out)
                have HG9 := Lib.hid (HG7.out.below h07 HB9.out)
                have HS9 := Lib.hid (HS7.out.below HB9.out)
                have h09 := HS9.out.old.size
                clear HN7 HG7 HS7 HB8 HO8 HB9 HHW HYW HE HGR bA1 rA1 hso1 hso2
                go_loopw [21] (fun s21 W => ∃ k : Nat, k ≤ m2 ∧ s21 = .int .i64 k ∧ Hid (Below w9.heap.size w9 W)) (fun s21 _ => m2 - (intOf s21).toNat)
                case atStart => exact ⟨0, Nat.zero_le _, rfl, Below.refl _ _⟩
                case round =>
                  obtain ⟨k, hk, rfl, HB⟩ := hrel
                  by_cases hkm : k < m2
                  · have hk1 : k < D1.length := by rw [HX1.out]; exact hkm
                    have hk2 : k < D2.length := by rw [HX2.out]; exact hkm
                    have hk3 : k < (Dh ++ Dw).length := by rw [List.length_append, HNH.out, HNW.out]; omega
                    obtain ⟨g1, f1, hg1⟩ := L6.row_some HN9.out.row (by omega)
                    obtain ⟨g2, f2, hg2⟩ := L6.row_some HW9.out.row (by omega)
                    obtain ⟨g3, f3, hg3⟩ := L6.row_some HG9.out.row (by omega)
                    simp only [Value.slice.injEq] at hg1 hg2 hg3
                    obtain ⟨rfl, -, rfl⟩ := hg1
                    obtain ⟨rfl, hnn, rfl⟩ := hg2
                    obtain ⟨rfl, -, rfl⟩ := hg3
                    have E1 := HN9.out
                    rw [← HX1.out] at E1
                    have E2 := HW9.out
                    rw [hnn] at E2
                    have E3' := HG9.out
                    rw [← HX2.out] at E3'
                    have F1 := (E1.e3 h09 hk1).step HB.out
                    have F2 := (E2.e3 h09 hk3).step HB.out
                    have F3 := (E3'.e3 h09 hk2).step HB.out
                    rw [same_at hk3 hk1 (by rw [HWW.out, HD6.out, List.map_take, List.getElem?_take, if_pos hkm])] at F2
                    rw [same_at hk2 hk1 (by rw [HD6.out, HD7.out])] at F3
                    generalize D1[k].1 = c at F1 F2 F3
                    generalize D1[k].2 = u1 at F1
                    generalize (Dh ++ Dw)[k].2 = u2 at F2
                    generalize D2[k].2 = u3 at F3
                    have HT3 : Hid (T3 w9 g1 g2 g3 (k * 4) c u1 u2 u3 wr) := ⟨F1, F2, F3, HB.out⟩
                    have HSM : Hid (∀ W u', T3 w9 g1 g2 g3 (k * 4) c u1 u2 u3 W → (u' = u2 ∨ u' = u3) → Calls Tryz.prog 17 #[.agg #[.int .i64 c.k, .int .i64 c.n, .string c.s, u1], .agg #[.int .i64 c.k, .int .i64 c.n, .string c.s, u']] W fun e w' => e = .returned (.bool true) ∧ Below W.heap.size W w') := fun W u' h hu => by
                      rcases hu with rfl | rfl
                      · exact same17e h.e1 h.e2
                      · exact same17e h.e1 h.e3
                    have hi0 : (0 : Int) ≤ (k : Int) := by omega
                    have hi1 : (k : Int) < (m2 : Int) := by omega
                    have hi2 : (k : Int) < (N : Int) := by have := HNN.out; omega
                    have HKM : Hid (k < m2) := hkm
                    clear E1 E2 E3' F1 F2 F3 hk1 hk2 hk3 hnn HN9 HW9 HG9 HD6 HD7 HS9 HK5 HB
                    go_wp2_with fail
                    go_region_held3 (fun W => W.cell? ⟨g1, k * 4, none⟩ = some (.int .i64 c.k) ∧ W.cell? ⟨g1, k * 4 + 1, none⟩ = some (.int .i64 c.n) ∧ W.cell? ⟨g1, k * 4 + 2, none⟩ = some (.string c.s) ∧ W.cell? ⟨g1, k * 4 + 3, none⟩ = some u1 ∧
                        W.cell? ⟨g2, k * 4, none⟩ = some (.int .i64 c.k) ∧ W.cell? ⟨g2, k * 4 + 1, none⟩ = some (.int .i64 c.n) ∧ W.cell? ⟨g2, k * 4 + 2, none⟩ = some (.string c.s) ∧ W.cell? ⟨g2, k * 4 + 3, none⟩ = some u2 ∧
                        W.cell? ⟨g3, k * 4, none⟩ = some (.int .i64 c.k) ∧ W.cell? ⟨g3, k * 4 + 1, none⟩ = some (.int .i64 c.n) ∧ W.cell? ⟨g3, k * 4 + 2, none⟩ = some (.string c.s) ∧ W.cell? ⟨g3, k * 4 + 3, none⟩ = some u3 ∧ T3 w9 g1 g2 g3 (k * 4) c u1 u2 u3 W)
                      (first | exact HT3.out.drew.facts | exact T3.facts (T3.step (by go_split_ands; assumption) (by assumption)))
                      (first | (go_at_call 17; refine (HSM.out _ _ (by go_split_ands; assumption) (by first | exact .inl rfl | exact .inr rfl)).mono ?_; rintro _ wc ⟨rfl, hb⟩; have HFIN := Lib.hid (T3.below (T3.step (show T3 w9 g1 g2 g3 (k * 4) c u1 u2 u3 _ by go_split_ands; assumption) hb))))
                    all_goals
                      go_wp2_with fail
                      go_roundw
                      case rel => exact ⟨k + 1, HKM.out, by go_num, HFIN⟩
                      case measure => have := HKM.out; simp [intOf]; omega
                  · have hkk : k = m2 := by omega
                    subst hkk
                    have hni2 : ¬ (k : Int) < (k : Int) := by omega
                    have HSE := Lib.hid (HS9.out.below HB.out)
                    have HNE := Lib.hid (HN9.out.below h09 HB.out)
                    have HWE := Lib.hid (Hw.took HD6.out)
                    clear HS9 HN9 HW9 HG9 HB
                    go_wp2_with fail
                    go_roundw
                    case rel => exact ⟨i + 1, sb1, mb1, bt1, bl1, k, x.2, B.take k, d', _, x.1, _, D1, [], rfl, by go_num, by omega, HSE, HK5, HCD, HWE, HNE, HR.nil _ _⟩
                    case measure => simp [intOf]; omega
          · have e3' : (a.k == 3) = false := by simp; omega
            have e4' : (a.k == 4) = false := by simp; omega
            by_cases e5 : a.k = 5
            · as_aux_lemma =>
                have e5' : (a.k == 5) = true := by simpa using e5
                rw [e5] at HWA
                have HAR := Lib.hid (armS HS1.out a.n HAA.out.nn)
                have HKA := Lib.hid (HK.out.arm a.n)
                have HCD : Hid (st.t.count ≤ i + 1) := Nat.le_succ_of_le HCT.out
                generalize L6.armD d a.n = d' at HAR HKA
                generalize L6.armE d a.n = ae at HAR
                go_wp2_with fail
                rw [HWA.out]
                refine HAR.out.mono ?_
                rintro _ w5 ⟨rfl, hs5, hst5⟩
                have HS5 := Lib.hid hs5
                have HH5 := Lib.hid (HH1.out.stand (hst5 (fun _ => False)) (fun _ h => h.elim))
                have HY5 := Lib.hid (HY1.out.stand (hst5 (fun _ => False)) (fun _ h => h.elim))
                clear hs5 hst5 HAR HS1 HH1 HY1
                go_wp2_with fail
                go_roundw
                case rel => exact ⟨i + 1, sb, mb, bt, bl, sure, c0, B, d', st, m0, fv, Dh, Dw, rfl, by go_num, by omega, HS5, HKA, HCD, HW, HH5, HY5⟩
                case measure => simp [intOf]; omega
            · as_aux_lemma =>
                have e5' : (a.k == 5) = false := by simpa using e5
                have hcl := HK.out.c_le hi60
                have hfl := HK.out.fl
                have HPU := Lib.hid (put38o K I HS1.out HT.out a.o _ _ _ HAA.out.ob (by omega) (by omega))
                have HM38 := Lib.hid HS1.out.mine38
                have HKP := Lib.hid (HK.out.put (o := a.o) ⟨HAK.out.kids, HAA.out.ob.kids.bounds, HAA.out.ob.num⟩)
                have HCD : Hid ((putSt K I st a.o).t.count ≤ i + 1) := by
                  have h := HCT.out
                  unfold Hid
                  rw [(HK.out.fr.put a.o).2.1]
                  omega
                generalize putSt K I st a.o = st' at HPU HKP HCD
                generalize putId K I st a.o = pid at HPU
                generalize putEr K I st a.o = per at HPU
                clear hcl hfl
                go_wp2_with fail
                rw [HWA.out]
                refine HPU.out.mono ?_
                rintro _ w5 ⟨fv5, rfl, hs5, ht5, -⟩
                have HS5 := Lib.hid hs5
                have HH5 := Lib.hid (HH1.out.turn h0a ht5 HM38.out)
                have HY5 := Lib.hid (HY1.out.turn h0a ht5 HM38.out)
                clear hs5 ht5 HPU HS1 HH1 HY1
                go_wp2_with fail
                go_roundw
                case rel => exact ⟨i + 1, sb, mb, bt, bl, sure, c0, B, d, st', m0, fv5, Dh, Dw, rfl, by go_num, by omega, HS5, HKP, HCD, HW, HH5, HY5⟩
                case measure => simp [intOf]; omega
    · have hni : ¬ (i : Int) < (m : Int) := by omega
      have HBO := Lib.hid HS.out.old
      have HLV2 := Lib.hid (HLV.out _ HBO.out)
      clear HS HK HW HH HY
      go_wp2_with fail
      refine HLV2.out.mono ?_
      rintro _ w4 ⟨rfl, hb4⟩
      have HB4 := Lib.hid (HBO.out.trans (hb4.mono HBO.out.size))
      clear hb4
      go_wp2_with fail
      go_ret
      exact ⟨rfl, HB4.out⟩
end Go.Proofs.YtjanddnlhaionaaGreatDoor
