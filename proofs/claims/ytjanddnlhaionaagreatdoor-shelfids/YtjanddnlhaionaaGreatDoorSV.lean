/-
  The walk of ShelfIds. No condition but that the tables are laid.
-/
import Derived.Test.YtjanddnlhaionaaGreatDoorSU
namespace Go.Proofs.YtjanddnlhaionaaGreatDoor
open Go.RowKit
open L3 (Tabs St)
open L4 (C LAt LIn LNF Wf okC encC putS putE Box)
open L2 (Row)

set_option maxRecDepth 100000 in
set_option maxHeartbeats 8000000 in
theorem ids7 (K : List Int) (I : St) (l : List Ob) (v : Value) (w : World) (h : ObsAt w v l) (hT : Tabs K I w) :
    Calls Tryz.prog 7 #[v] w fun e w' => e = .returned (.bool true) ∧ Below w.heap.size w w' := by
  have HO := Lib.hid h
  obtain ⟨A, cap, rfl, hcap1, hcap2, hcells⟩ := h
  have HT := Lib.hid hT
  have h2 := hT.two
  have HLV : Hid (∀ W, Below w.heap.size w W → Calls Tryz.prog 27 #[] W fun e w' => e = .returned (.bool true) ∧ Below W.heap.size W w') := fun W hb => lives27 K I W (hT.below hb h2)
  have HC := Lib.hid hcells
  unfold maxLen at hcap2
  clear hT hcells
  by_cases hbig : (20 : Int) < (l.length : Int)
  · have t1 : decide ((20 : Int) < (l.length : Int)) = true := decide_eq_true hbig
    clear hbig
    go_enter Tryz.func7, Tryz.ntmps7
    go_wp2_with fail
    refine (HLV.out _ (Below.refl _ _)).mono ?_
    rintro _ w1 ⟨rfl, hb⟩
    have HB := Lib.hid hb
    clear hb
    go_wp2_with fail
    go_ret
    exact ⟨rfl, HB.out⟩
  · have t1 : decide ((20 : Int) < (l.length : Int)) = false := decide_eq_false hbig
    have HN : Hid (l.length ≤ 20) := by show l.length ≤ 20; omega
    clear hbig
    go_enter Tryz.func7, Tryz.ntmps7
    go_wp2_with fail
    clear t1
    go_loopw [3] (fun s3 wr => ∃ j : Nat, j ≤ l.length ∧ s3 = .int .i64 j ∧ Hid (Below w.heap.size w wr) ∧ Hid (∀ i (hi : i < l.length), i < j → l[i].kids.length ≤ 60)) (fun s3 _ => l.length - (intOf s3).toNat)
    case atStart => exact ⟨0, Nat.zero_le _, rfl, Below.refl _ _, fun i hi h => absurd h (Nat.not_lt_zero _)⟩
    case round =>
      obtain ⟨j, hj, rfl, HB, HK⟩ := hrel
      by_cases hlt : j < l.length
      · obtain ⟨b, o, rfl, hb, hr⟩ := HC.out (by omega)
        obtain ⟨r, k, p, ho⟩ := hr j hlt
        have ho' := ho.step hb HB.out
        obtain ⟨ans, hans, hf⟩ := few26o l[j] r k p ho'.ob
        have HK1 : Hid (ans = true → ∀ i (hi : i < l.length), i < j + 1 → l[i].kids.length ≤ 60) := fun ha i hi hij => by
          by_cases e : i = j
          · subst e; exact hans ha
          · exact HK.out i hi (by omega)
        obtain ⟨x, hx⟩ : ∃ x, l[j] = x := ⟨_, rfl⟩
        rw [hx] at ho' hf
        unfold actCells at hf
        have HF := Lib.hid hf
        obtain ⟨-, c0, c1, c2, c3, c4, c5, c6, c7⟩ := ho'
        have hi0 : (0 : Int) ≤ (j : Int) := by omega
        have hi1 : (j : Int) < (l.length : Int) := by omega
        clear ho hans hf HK hr hx
        cases ans with
        | false =>
          go_wp2_with fail
          refine HF.out.mono ?_
          rintro _ w1 ⟨rfl, hb1⟩
          have HB1 := Lib.hid (HB.out.trans (hb1.mono HB.out.size))
          clear hb1 HF c0 c1 c2 c3 c4 c5 c6 c7
          go_wp2_with fail
          refine (HLV.out _ HB1.out).mono ?_
          rintro _ w2 ⟨rfl, hb2⟩
          have HB2 := Lib.hid (HB1.out.trans (hb2.mono HB1.out.size))
          clear hb2
          go_wp2_with fail
          go_ret
          exact ⟨rfl, HB2.out⟩
        | true =>
          go_wp2_with fail
          refine HF.out.mono ?_
          rintro _ w1 ⟨rfl, hb1⟩
          have HB1 := Lib.hid (HB.out.trans (hb1.mono HB.out.size))
          clear hb1 HF c0 c1 c2 c3 c4 c5 c6 c7
          go_wp2_with fail
          go_roundw
          case rel => exact ⟨j + 1, by omega, by go_num, HB1, HK1.out trivial⟩
          case measure => simp [intOf]; omega
      · have hjn : j = l.length := by omega
        subst hjn
        have HKA : Hid (∀ i (hi : i < l.length), ObOk l[i]) := fun i hi => HO.out.ok hi (HK.out i hi hi)
        have HNW : Hid (Calls Tryz.prog 28 #[.int .i64 4000] wr fun e w' => ∃ b, e = .returned (.tuple #[.pointer (some ⟨b, 0, none⟩), .int .i64 0]) ∧ L6.PN wr w' b (L6.newD 4000)) := L6.newN 4000 (by omega) (by omega) wr
        have HOP : Hid (∀ w1 b, L6.PN w w1 b (L6.newD 4000) → _) := fun w1 b hP => open33 K I hP HT.out (by show ([] : List (Nat × ByteArray)).length ≤ _; simp) (L6.Wh.new 4000).2.1 [] (L6.Wh.new 4000).2.2 (fun r hr => by cases hr) (fun _ => none, 0) rfl (by simp [allE]) (by simp)
        clear HK hlt hj HO
        go_wp2_with fail
        refine HNW.out.mono ?_
        rintro _ w1 ⟨b, rfl, hP⟩
        have HO1 := Lib.hid (HOP.out w1 b (PN_lower hP HB.out))
        clear hP HNW HOP HB
        go_wp2_with fail
        refine HO1.out.mono ?_
        rintro _ w2 ⟨sb, mb, bt, bl, v, D, rfl, hs2, hrc, hD, -, -, -⟩
        obtain ⟨vA, vc, rfl⟩ := hrc.slice
        have H2 := Lib.hid hs2
        have HG2 : Hid (Grow K I l 0 [] ⟨L6.openT (L6.newD 4000), fun _ => none, 0, []⟩) := Grow.start K I l
        clear hs2 hrc hD HO1
        go_wp2_with fail
        go_loopw [9, 10] (fun s9 s10 wr => ∃ (i : Nat) (ids : List ByteArray) (st : Sf) (fv : Value), i ≤ l.length ∧ s10 = .int .i64 i ∧ Hid (SfAt w wr sb mb fv bt bl b (L6.newD 4000) st) ∧ Hid (Grow K I l i ids st) ∧ Hid (wr.ownsRow w.heap.size 9 1 s9 i (L6.strs ids)) ∧ Hid (∀ k, s9.ownBlock = some k → ¬ Mine sb mb fv k)) (fun _ s10 _ => l.length - (intOf s10).toNat)
        case atStart => exact ⟨0, [], _, _, Nat.zero_le _, rfl, H2, HG2, World.ownsRow_nil _ _ _ _, fun k hk => by cases hk⟩
        case round =>
          obtain ⟨i, ids, st, fv, hi, rfl, HR, HG, HI, HA⟩ := hrel
          clear H2 HG2
          obtain ⟨A9, c9, rfl⟩ := L6.row_slice HI.out
          by_cases hlt : i < l.length
          · have hn20 := HN.out
            obtain ⟨ob, oo, rfl, hb, hr⟩ := HC.out (by omega)
            obtain ⟨r, k, p, ho⟩ := hr i hlt
            obtain ⟨X1, E1, st1, X2, E2, X3, E3, st3, q1, q2, q3, q4, q5, q6, q7, q8, hc1, hf1, hq⟩ := put_round HG.out hlt
            have HQ := Lib.hid hq
            have HOX : Hid (∀ W, Below w.heap.size w W → OAt W ob (oo + i * 8) l[i] r k p) := fun W hB => ho.step hb hB
            have hgc := HG.out.c
            have hgf := HG.out.fr
            have HP1 : Hid (∀ W fv, SfAt w W sb mb fv bt bl b (L6.newD 4000) st → _) := fun W fv hS => put38o K I hS HT.out l[i] r k p (HOX.out W hS.old).ob (by omega) (by omega)
            have HP2 : Hid (∀ W, Below w.heap.size w W → _) := fun W hB => id13o K I l[i] r k p (HOX.out W hB).ob (HT.out.below hB h2)
            have HP3 : Hid (∀ W fv, SfAt w W sb mb fv bt bl b (L6.newD 4000) st1 → _) := fun W fv hS => put38o K I hS HT.out l[i] r k p (HOX.out W hS.old).ob (by omega) (by omega)
            rw [q1, q2, q3] at HP1
            rw [q4, q5] at HP2
            rw [q6, q7, q8] at HP3
            clear q1 q2 q3 q4 q5 q6 q7 q8 hq hr ho hgc hgf
            obtain ⟨x, hx⟩ : ∃ x, l[i] = x := ⟨_, rfl⟩
            rw [hx] at HP1 HP2 HP3 HOX
            clear hx
            have HPT := Lib.hid (HP1.out _ _ HR.out)
            have HB0 : Hid (Below w.heap.size w wr) := HR.out.old
            obtain ⟨-, c0, c1, c2, c3, c4, c5, c6, c7⟩ := HOX.out _ HB0.out
            have hi0 : (0 : Int) ≤ (i : Int) := by omega
            have hi1 : (i : Int) < (l.length : Int) := by omega
            go_wp2_with fail
            refine HPT.out.mono ?_
            rintro _ w3 ⟨fv3, rfl, hs3, ht3, hf3⟩
            have HI3 : Hid (w3.ownsRow w.heap.size 9 1 (.slice A9 i c9) i (L6.strs ids)) := L6.row_keep HI.out (fun k hk => ht3.block k (L6.row_lt HI.out hk) (HA.out k hk))
            have HA3 : Hid (∀ k, (Value.slice A9 i c9).ownBlock = some k → ¬ Mine sb mb fv3 k) := by
              intro k hk hm
              rcases hm with rfl | rfl | hm
              · exact HA.out _ hk (.inl rfl)
              · exact HA.out _ hk (.inr (.inl rfl))
              · rcases hf3 k hm with h | h
                · exact HA.out k hk (.inr (.inr h))
                · have := L6.row_lt HI.out hk; omega
            have H3 := Lib.hid hs3
            have HB3 : Hid (Below w.heap.size w w3) := hs3.old
            have HID := Lib.hid (HP2.out _ HB3.out)
            obtain ⟨-, d0, d1, d2, d3, d4, d5, d6, d7⟩ := HOX.out _ HB3.out
            clear hs3 ht3 hf3 HPT HP1 HP2 HR HI HA HB0 c0 c1 c2 c3 c4 c5 c6 c7
            go_wp2_with fail
            refine HID.out.mono ?_
            rintro _ w4 ⟨rfl, hb4⟩
            have h4 := H3.out.below hb4
            have HI4 : Hid (w4.ownsRow w.heap.size 9 1 (.slice A9 i c9) i (L6.strs ids)) := L6.row_keep HI3.out (fun k hk => hb4.block k (L6.row_lt HI3.out hk))
            have HL4 := Lib.hid (len39 h4)
            have HP4 := Lib.hid (HP3.out _ _ h4)
            have HB4 : Hid (Below w.heap.size w w4) := h4.old
            obtain ⟨-, e0, e1, e2, e3, e4, e5, e6, e7⟩ := HOX.out _ HB4.out
            clear hb4 h4 HID HP3 H3 HI3 HB3 d0 d1 d2 d3 d4 d5 d6 d7
            go_wp2_with (go_at_call 39; refine HL4.out.mono ?_; rintro _ w' ⟨rfl, rfl⟩)
            refine HP4.out.mono ?_
            rintro _ w5 ⟨fv5, rfl, hs5, ht5, hf5⟩
            have HI5 : Hid (w5.ownsRow w.heap.size 9 1 (.slice A9 i c9) i (L6.strs ids)) := L6.row_keep HI4.out (fun k hk => ht5.block k (L6.row_lt HI4.out hk) (HA3.out k hk))
            have HA5 : Hid (∀ k, (Value.slice A9 i c9).ownBlock = some k → ¬ Mine sb mb fv5 k) := by
              intro k hk hm
              rcases hm with rfl | rfl | hm
              · exact HA3.out _ hk (.inl rfl)
              · exact HA3.out _ hk (.inr (.inl rfl))
              · rcases hf5 k hm with h | h
                · exact HA3.out k hk (.inr (.inr h))
                · have := L6.row_lt HI4.out hk; omega
            have HB5 : Hid (Below w.heap.size w w5) := hs5.old
            have H5 := Lib.hid hs5
            clear hs5 ht5 hf5 HL4 HP4 HI4 HA3 HB4 e0 e1 e2 e3 e4 e5 e6 e7
            rcases HQ.out with rfl | ⟨hne, rfl, rfl, rfl, rfl, rfl, hg⟩
            · clear HQ H5 HI5 HA5
              go_wp2_with fail
              refine (HLV.out _ HB5.out).mono ?_
              rintro _ w6 ⟨rfl, hb6⟩
              have HB6 := Lib.hid (HB5.out.trans (hb6.mono HB5.out.size))
              clear hb6
              go_wp2_with fail
              go_ret
              exact ⟨rfl, HB6.out⟩
            · have HG1 := Lib.hid hg
              have HL5 := Lib.hid (len39 H5.out)
              have t1 : (E1 == 22) = false := by simp [hne]
              have t2 : (E1 != E1) = false := by simp
              have t3 : decide (X1 = X1) = true := decide_eq_true rfl
              have t4 : ((st1.c : Int) != (st1.c : Int)) = false := by simp
              have t5 : decide ((i : Int) + 1 < (st1.c : Int)) = false := by simp; omega
              have HIL : Hid (i < l.length) := hlt
              have HGC := Lib.hid HG
              clear hg hne HQ HG
              generalize hgc : st1.c = cc at t4 t5 HL5
              obtain ⟨i9, hi9, hz90, hz91, hz92⟩ := L6.info9
              have HOW : Hid ((w5.alloc (.cells #[.string X1] 9)).ownsRow w.heap.size 9 1 (.slice A9 i c9) i (L6.strs ids)) := HI5.out.alloc _
              have HNE : Hid (∀ j u, ([.string X1] : List Value)[j]? = some u → (w5.alloc (.cells #[.string X1] 9)).cell? ((⟨w5.heap.size, 0, none⟩ : Addr).add j) = some u) := fun j u hu => World.news_of_block (cs := #[.string X1]) (t := 9) (fr := (0, 0)) (heap_alloc_new w5 _) j u hu
              have hsz5 : w.heap.size ≤ (w5.alloc (.cells #[.string X1] 9)).heap.size := by have := HB5.out.size; simp; omega
              go_wp2_with (first | (go_at_call 39; refine HL5.out.mono ?_; rintro _ w' ⟨rfl, rfl⟩) | (at_builtin; refine wpList_append_lies _ rfl _ _ 25 rfl w.heap.size 9 i9 _ 1 16 Tryz.underlying25 hi9 hz90 hz91 hz92 rfl (by omega) (.slice A9 i c9) i (L6.strs ids) rfl HOW.out ⟨w5.heap.size, 0, none⟩ 1 1 [.string X1] rfl rfl HNE.out (by intro u hu; simp at hu; subst hu; rfl) (by omega) (by unfold maxLen; omega) (by omega) hsz5 _ rfl ?_))
              intro g' cap' w6 ho6 hg6 hat6 hlt6
              have H6 := Lib.hid (H5.out.appended HI5.out HA5.out hg6)
              have HO6 : Hid (w6.ownsRow w.heap.size 9 1 (.slice (some ⟨g', 0, none⟩) (i + 1) cap') (i + 1) (L6.strs (ids ++ [X1]))) := by
                have e : L6.strs (ids ++ [X1]) = L6.strs ids ++ [.string X1] := by unfold L6.strs; rw [List.map_append]; rfl
                rw [e]; exact ho6
              have HA6 : Hid (∀ k, (Value.slice (some ⟨g', 0, none⟩) (i + 1) cap').ownBlock = some k → ¬ Mine sb mb fv5 k) := fun k hk => by
                have hk' : g' = k := by simpa [Value.ownBlock] using hk
                subst hk'
                rcases hat6 with h | h
                · exact HA5.out _ h
                · intro hm
                  have := H5.out.mine_lt _ hm
                  have e : (w5.alloc (.cells #[.string X1] 9)).heap.size = w5.heap.size + 1 := World.size_alloc _ _
                  omega
              clear ho6 hg6 hat6 hlt6 HOW HNE H5 HI5 HA5 hsz5
              go_wp2_with fail
              go_roundw
              case rel => exact ⟨i + 1, ids ++ [X1], st1, fv5, HIL.out, by go_num, H6, HG1, HO6, HA6⟩
              case measure => have := HIL.out; simp [intOf]; omega
          · have hil : i = l.length := by omega
            subst hil
            have HD := Lib.hid (HG.out.done HKA.out HN.out)
            have HC34 : Hid (∀ w3, Below wr.heap.size wr w3 → Calls Tryz.prog 34 #[.pointer (some ⟨sb, 0, none⟩), .agg #[.int .i64 1, .int .i64 7, .string ⟨#[]⟩, .slice none 0 0]] w3 fun e w' =>
                ∃ fv', e = .returned (.int .i64 0) ∧ SfAt w w' sb mb fv' bt bl b (comD st (L6.newD 4000) c7) (comSt st (L6.newD 4000) c7) ∧ Stand w w3 w' (Mine sb mb fv)) := fun w3 hb => (commit34 (HR.out.below hb) HD.out.ids (by have := HD.out.fl; omega) 1 7 ⟨#[]⟩ [] (.slice none 0 0) 1 (lnf_nil _ _ _ _) c7_wf (by rw [L4.cntC_mk, L4.cntL_nil]; omega)
                  (fun s hs => by have := HD.out.sz s hs; omega) HD.out.len (by show ([] : List (Nat × ByteArray)).length + 4096 ≤ _; simp) (by rw [HD.out.ct]; omega)).mono fun e w' ⟨fv', h1, h2, h3, _⟩ => ⟨fv', by rw [← HD.out.e]; exact h1, h2, h3⟩
            have HQ : Hid ((comSt st (L6.newD 4000) c7).m = st.m ∧ (comSt st (L6.newD 4000) c7).c = st.c ∧ (comD st (L6.newD 4000) c7).W.length = 0 ∧ L6.crashD (comD st (L6.newD 4000) c7) [] = comD st (L6.newD 4000) c7) := ⟨HD.out.m, HD.out.c, HD.out.wl, HD.out.cr⟩
            have HO2 : Hid (∀ w1, L6.PN w w1 b (comD st (L6.newD 4000) c7) → _) := fun w1 hP => open33 K I hP HT.out (by rw [HD.out.wl]; omega) HD.out.oe [(c7, encs st)] HD.out.recs HD.out.bt (st.m, st.c) HD.out.ld HD.out.al (by simp)
            clear HD hlt hi HN
            generalize comD st (L6.newD 4000) c7 = dC at HC34 HQ HO2
            generalize comSt st (L6.newD 4000) c7 = sC at HC34 HQ
            go_wp2_with fail
            refine (seven40 _).mono ?_
            rintro _ w3 ⟨rfl, hb3⟩
            have HC3 := Lib.hid (HC34.out _ hb3)
            have HI3 : Hid (w3.ownsRow w.heap.size 9 1 (.slice A9 l.length c9) l.length (L6.strs ids)) := L6.row_keep HI.out (fun k hk => hb3.block k (L6.row_lt HI.out hk))
            clear hb3 HC34 HR HI
            go_wp2_with fail
            refine HC3.out.mono ?_
            rintro _ w4 ⟨fv4, rfl, hs4, hst4⟩
            have HI4 : Hid (w4.ownsRow w.heap.size 9 1 (.slice A9 l.length c9) l.length (L6.strs ids)) := hst4.row HI3.out HA.out
            have HCR := Lib.hid (crashS hs4 (by rw [HQ.out.2.2.1]; omega) HQ.out.2.2.2)
            clear hs4 hst4 HC3 HI3 HA
            go_wp2_with fail
            refine HCR.out.mono ?_
            rintro _ w5 ⟨rfl, hs5, hst5⟩
            have HI5 : Hid (w5.ownsRow w.heap.size 9 1 (.slice A9 l.length c9) l.length (L6.strs ids)) := (hst5 (fun _ => False)).row HI4.out (fun _ _ h => h)
            have HO5 := Lib.hid (HO2.out _ hs5.tn.pn)
            have H5 := Lib.hid hs5
            clear hs5 hst5 HCR HO2 HI4
            go_wp2_with fail
            refine HO5.out.mono ?_
            rintro _ w6 ⟨sb2, mb2, bt2, bl2, v2, D2, rfl, hs6, hrc6, hD6, hb6, -, -⟩
            obtain ⟨vA2, vc2, rfl⟩ := hrc6.slice
            have h16 := H5.out.below hb6
            have HI6 : Hid (w6.ownsRow w.heap.size 9 1 (.slice A9 l.length c9) l.length (L6.strs ids)) := L6.row_keep HI5.out (fun k hk => hb6.block k (L6.row_lt HI5.out hk))
            have HL1 := Lib.hid (len39 h16)
            have HL2 := Lib.hid (len39 hs6)
            rw [HQ.out.2.1] at HL1
            have H6 := Lib.hid h16
            have H6' := Lib.hid hs6
            clear hs6 hrc6 hD6 hb6 h16 HO5 H5 HI5
            have t1 : ((st.c : Int) != (st.c : Int)) = false := by simp
            go_wp2_with fail
            refine HL2.out.mono ?_
            rintro _ w' ⟨rfl, rfl⟩
            go_wp2_with fail
            refine HL1.out.mono ?_
            rintro _ w' ⟨rfl, rfl⟩
            go_wp2_with fail
            clear t1 HL1 HL2
            have HB6 : Hid (Below w.heap.size w w6) := H6.out.old
            go_loopw [21] (fun s21 wr => ∃ j : Nat, j ≤ l.length ∧ s21 = .int .i64 j ∧ Hid (Below w6.heap.size w6 wr)) (fun s21 _ => l.length - (intOf s21).toNat)
            case atStart => exact ⟨0, Nat.zero_le _, rfl, Below.refl _ _⟩
            case round =>
              obtain ⟨j, hj, rfl, HB⟩ := hrel
              by_cases hlt : j < l.length
              · obtain ⟨g9, c9', hg9⟩ := L6.row_some HI6.out (by omega)
                simp only [Value.slice.injEq] at hg9
                obtain ⟨rfl, -, rfl⟩ := hg9
                have hid := HG.out.ids j hlt hlt
                have hi9 : w6.cell? ⟨g9, j, none⟩ = some (.string (if objOK l[j] then idB K I (objS l[j]) else ⟨#[]⟩)) := by
                  rw [HI6.out.cellAt j (by omega)]
                  unfold L6.strs
                  rw [List.getElem?_map, hid]
                  rfl
                have hlg : g9 < w6.heap.size := L6.row_lt HI6.out rfl
                have HIC : Hid (∀ W, Below w6.heap.size w6 W → W.cell? ⟨g9, j, none⟩ = some (.string (if objOK l[j] then idB K I (objS l[j]) else ⟨#[]⟩))) := fun W hb => (hb.cell (p := ⟨g9, j, none⟩) hlg).trans hi9
                have hi0 : (0 : Int) ≤ (j : Int) := by omega
                have hi1 : (j : Int) < (l.length : Int) := by omega
                clear hid hi9 hlg
                cases hok : objOK l[j] with
                | false =>
                  rw [hok] at HIC
                  simp only [Bool.false_eq_true, if_false] at HIC
                  have x0 := HIC.out _ HB.out
                  have t2 : decide ((⟨#[]⟩ : ByteArray) = ⟨#[]⟩) = true := decide_eq_true rfl
                  go_wp2_with fail
                  go_roundw
                  case rel => exact ⟨j + 1, by omega, by go_num, HB⟩
                  case measure => simp [intOf]; omega
                | true =>
                  rw [hok] at HIC
                  simp only [if_true] at HIC
                  have hm := HG.out.map j hlt hlt hok
                  have hso := HKA.out j hlt
                  have hsz : (objS l[j]).size ≤ 1000000000 := Nat.le_trans (obj_small hok hso.kids) (by omega)
                  have htk := obj_take hok hso.nr hso.fb
                  have HG1 : Hid (∀ W, Below w6.heap.size w6 W → Calls Tryz.prog 41 #[.pointer (some ⟨sb, 0, none⟩), .string (idB K I (objS l[j]))] W (TakeOTo W (l[j], 0))) := fun W hb => get_found (H6.out.below hb) _ (idB_size K I _) (by rw [HQ.out.1]; exact hm) htk hsz
                  have HG2 : Hid (∀ W, Below w6.heap.size w6 W → Calls Tryz.prog 41 #[.pointer (some ⟨sb2, 0, none⟩), .string (idB K I (objS l[j]))] W (TakeOTo W (l[j], 0))) := fun W hb => get_found (H6'.out.below hb) _ (idB_size K I _) hm htk hsz
                  have hne : (idB K I (objS l[j])).toList.isEmpty = false := by
                    rw [ByteArray.toList_eq]
                    have h2 : (idB K I (objS l[j])).data.toList.length = 32 := by
                      show (L3.digestM K I (objS l[j]).data.toList).toArray.toList.length = 32
                      rw [L3.digestM_length]
                    cases hl : (idB K I (objS l[j])).data.toList with
                    | nil => rw [hl] at h2; cases h2
                    | cons _ _ => rfl
                  clear hm hso hsz htk hok
                  generalize idB K I (objS l[j]) = id at HIC HG1 HG2 hne
                  obtain ⟨ob, oo, rfl, hb, hr⟩ := HC.out (by omega)
                  obtain ⟨r, k, p, ho⟩ := hr j hlt
                  have HOX : Hid (∀ W, Below w.heap.size w W → OAt W ob (oo + j * 8) l[j] r k p) := fun W hB => ho.step hb hB
                  have HLT : Hid (j < l.length ∧ ob < w.heap.size) := ⟨hlt, hb⟩
                  clear hr ho hb
                  generalize l[j] = x at HOX HG1 HG2
                  have x0 := HIC.out _ HB.out
                  have HG1' := Lib.hid (HG1.out _ HB.out)
                  go_wp2_with fail
                  refine HG1'.out.mono ?_
                  rintro _ w7 ⟨hb7, A1, n1, k1, A2, n2, k2, A3, n3, k3, rfl, hob7⟩
                  have hb8 : Below w7.heap.size w7 (w7.alloc (.cells #[.int .i64 x.k, .string x.label, .slice A1 n1 k1, .slice A2 n2 k2, .slice A3 n3 k3, .int .i64 x.stamp, .string x.note, .string x.root] 27)) := (Below.refl _ _).alloc (Nat.le_refl _) _
                  have hb78 := hb7.trans (hb8.mono hb7.size)
                  have HB8 : Hid (Below w6.heap.size w6 (w7.alloc (.cells #[.int .i64 x.k, .string x.label, .slice A1 n1 k1, .slice A2 n2 k2, .slice A3 n3 k3, .int .i64 x.stamp, .string x.note, .string x.root] 27))) := HB.out.trans (hb78.mono HB.out.size)
                  have HX8 : Hid ((w7.alloc (.cells #[.int .i64 x.k, .string x.label, .slice A1 n1 k1, .slice A2 n2 k2, .slice A3 n3 k3, .int .i64 x.stamp, .string x.note, .string x.root] 27)).heap[w7.heap.size]? = some (.cells #[.int .i64 x.k, .string x.label, .slice A1 n1 k1, .slice A2 n2 k2, .slice A3 n3 k3, .int .i64 x.stamp, .string x.note, .string x.root] 27 (0, 0))) := heap_alloc_new _ _
                  have HOB8 := Lib.hid (hob7.step hb8)
                  have y0 := HIC.out _ HB8.out
                  have HG2' := Lib.hid (HG2.out _ HB8.out)
                  clear hb7 hob7 hb8 hb78 x0 HG1' HG1 HG2 HB
                  go_wp2_with fail
                  refine HG2'.out.mono ?_
                  rintro _ w9 ⟨hb9, A1', n1', k1', A2', n2', k2', A3', n3', k3', rfl, hob9⟩
                  have hb10 : Below w9.heap.size w9 (w9.alloc (.cells #[.int .i64 x.k, .string x.label, .slice A1' n1' k1', .slice A2' n2' k2', .slice A3' n3' k3', .int .i64 x.stamp, .string x.note, .string x.root] 27)) := (Below.refl _ _).alloc (Nat.le_refl _) _
                  have hb90 := hb9.trans (hb10.mono hb9.size)
                  have HT2 : Hid (T2 w6 w7.heap.size w9.heap.size ob (oo + j * 8) x (.slice A1 n1 k1) (.slice A2 n2 k2) (.slice A3 n3 k3) (.slice A1' n1' k1') (.slice A2' n2' k2') (.slice A3' n3' k3') r k p (w9.alloc (.cells #[.int .i64 x.k, .string x.label, .slice A1' n1' k1', .slice A2' n2' k2', .slice A3' n3' k3', .int .i64 x.stamp, .string x.note, .string x.root] 27))) := by
                    have hbe := HB8.out.trans (hb90.mono HB8.out.size)
                    have hwb := HB6.out.trans (hbe.mono HB6.out.size)
                    exact ⟨(hb90.block _ (Array.getElem?_eq_some_iff.1 HX8.out).1).trans HX8.out, heap_alloc_new _ _, HOB8.out.step hb90, hob9.step hb10, HOX.out _ hwb, Nat.lt_of_lt_of_le HLT.out.2 hwb.size, hbe⟩
                  have HSM : Hid (∀ W (r k p r' k' p' : Value), ObAt W r k p x → ObAt W r' k' p' x → Calls Tryz.prog 22 #[.agg #[.int .i64 x.k, .string x.label, r, k, p, .int .i64 x.stamp, .string x.note, .string x.root], .agg #[.int .i64 x.k, .string x.label, r', k', p', .int .i64 x.stamp, .string x.note, .string x.root]] W fun e w' => e = .returned (.bool true) ∧ Below W.heap.size W w') := fun W r k p r' k' p' h h' => same22o x r k p r' k' p' h h'
                  clear hb9 hob9 hb10 hb90 HX8 HOB8 HG2' HB8 y0 HOX H6 H6' HQ
                  go_wp2_with fail
                  go_region_held3 (fun W => W.cell? ⟨w7.heap.size, 0, none⟩ = some (.int .i64 x.k) ∧ W.cell? ⟨w7.heap.size, 1, none⟩ = some (.string x.label) ∧ W.cell? ⟨w7.heap.size, 2, none⟩ = some (.slice A1 n1 k1) ∧ W.cell? ⟨w7.heap.size, 3, none⟩ = some (.slice A2 n2 k2) ∧ W.cell? ⟨w7.heap.size, 4, none⟩ = some (.slice A3 n3 k3) ∧ W.cell? ⟨w7.heap.size, 5, none⟩ = some (.int .i64 x.stamp) ∧ W.cell? ⟨w7.heap.size, 6, none⟩ = some (.string x.note) ∧ W.cell? ⟨w7.heap.size, 7, none⟩ = some (.string x.root) ∧ W.cell? ⟨w9.heap.size, 0, none⟩ = some (.int .i64 x.k) ∧ W.cell? ⟨w9.heap.size, 1, none⟩ = some (.string x.label) ∧ W.cell? ⟨w9.heap.size, 2, none⟩ = some (.slice A1' n1' k1') ∧ W.cell? ⟨w9.heap.size, 3, none⟩ = some (.slice A2' n2' k2') ∧ W.cell? ⟨w9.heap.size, 4, none⟩ = some (.slice A3' n3' k3') ∧ W.cell? ⟨w9.heap.size, 5, none⟩ = some (.int .i64 x.stamp) ∧ W.cell? ⟨w9.heap.size, 6, none⟩ = some (.string x.note) ∧ W.cell? ⟨w9.heap.size, 7, none⟩ = some (.string x.root) ∧ W.cell? ⟨ob, oo + j * 8, none⟩ = some (.int .i64 x.k) ∧ W.cell? ⟨ob, oo + j * 8 + 1, none⟩ = some (.string x.label) ∧ W.cell? ⟨ob, oo + j * 8 + 2, none⟩ = some r ∧ W.cell? ⟨ob, oo + j * 8 + 3, none⟩ = some k ∧ W.cell? ⟨ob, oo + j * 8 + 4, none⟩ = some p ∧ W.cell? ⟨ob, oo + j * 8 + 5, none⟩ = some (.int .i64 x.stamp) ∧ W.cell? ⟨ob, oo + j * 8 + 6, none⟩ = some (.string x.note) ∧ W.cell? ⟨ob, oo + j * 8 + 7, none⟩ = some (.string x.root) ∧ T2 w6 w7.heap.size w9.heap.size ob (oo + j * 8) x (.slice A1 n1 k1) (.slice A2 n2 k2) (.slice A3 n3 k3) (.slice A1' n1' k1') (.slice A2' n2' k2') (.slice A3' n3' k3') r k p W)
                    (first | exact HT2.out.drew.facts | exact T2.facts (T2.step (by go_split_ands; assumption) (by assumption)))
                    (first | (go_at_call 22; refine (HSM.out _ _ _ _ _ _ _ (by first | exact T2.o1 (w0 := w6) (by go_split_ands; assumption) | exact T2.o2 (w0 := w6) (by go_split_ands; assumption)) (OAt.ob (T2.el (w0 := w6) (by go_split_ands; assumption)))).mono ?_; rintro _ wc ⟨rfl, hb⟩; have HFIN := Lib.hid (T2.below (T2.step (show (T2 w6 w7.heap.size w9.heap.size ob (oo + j * 8) x (.slice A1 n1 k1) (.slice A2 n2 k2) (.slice A3 n3 k3) (.slice A1' n1' k1') (.slice A2' n2' k2') (.slice A3' n3' k3') r k p _) by go_split_ands; assumption) hb))))
                  all_goals
                    go_wp2_with fail
                    go_roundw
                    case rel => exact ⟨j + 1, HLT.out.1, by go_num, HFIN⟩
                    case measure => have := HLT.out.1; simp [intOf]; omega
              · clear H6 H6' HG
                go_wp2_with fail
                refine (HLV.out _ (HB6.out.trans (HB.out.mono HB6.out.size))).mono ?_
                rintro _ w7 ⟨rfl, hb7⟩
                have HB7 : Hid (Below w.heap.size w w7) := (HB6.out.trans (HB.out.mono HB6.out.size)).trans (hb7.mono (Nat.le_trans HB6.out.size HB.out.size))
                clear hb7
                go_wp2_with fail
                go_ret
                exact ⟨rfl, HB7.out⟩
end Go.Proofs.YtjanddnlhaionaaGreatDoor
