/-
  The walk of TapeKept. No condition.
-/
import Derived.Test.YtelfomdlbldnpaaDoorZD
namespace Go.Proofs.YtelfomdlbldnpaaDoor
open Go.RowKit

set_option maxRecDepth 100000 in
set_option maxHeartbeats 40000000 in
theorem kept4_in (n : Nat) (L : List Ac) (lv : Value) (w : World) (hl : AcsAt w w.heap.size lv L) (h1 : 1 ≤ n) (h2 : n ≤ 60) (hf : fewB L = true) :
    Calls Tryd.prog 4 #[.int .i64 (n : Int), lv] w fun e w' => e = .returned (.bool true) ∧ Below w.heap.size w w' := by
  have HF := Lib.hid (few7 L lv w _ hl)
  rw [hf] at HF
  have HL := Lib.hid hl
  have hfew := fewB_iff.1 hf
  have HFEW := Lib.hid hfew.2
  have hl100 := hfew.1
  obtain ⟨lA, lc, rfl, -⟩ := hl
  obtain ⟨w1, w2, w3⟩ := Wh.new n
  have HOE := Lib.hid w2
  have HRE := Lib.hid w3
  obtain ⟨k1, k2⟩ := KP.new n h2
  have HK0 := Lib.hid k1
  have HL0 := Lib.hid k2
  have HC0 : Hid ((openT (newD n)).count = 0) := by show (scanD (newD n)).recs.length = 0; rw [w3]; rfl
  clear w1 w2 w3 k1 k2
  have HN := Lib.hid (newN n h1 (by omega) w)
  have t1 : ¬ (n : Int) < 1 := by omega
  have t2 : ¬ (60 : Int) < (n : Int) := by omega
  obtain ⟨m, hm⟩ : ∃ m, L.length = m := ⟨_, rfl⟩
  rw [hm] at hl100 HF ⊢
  have HM := Lib.hid hm
  clear hm hf hfew
  go_enter Tryd.func4, Tryd.ntmps4
  go_wp2_with fail
  refine HF.out.mono ?_
  rintro e w' ⟨rfl, rfl⟩
  go_wp2_with fail
  refine HN.out.mono ?_
  rintro e w1 ⟨b, rfl, hP⟩
  have hsz1 := hP.old.size
  have HO := Lib.hid (openN hP (by show ([] : List (Nat × ByteArray)).length ≤ _; simp) HOE.out)
  rw [HRE.out] at HO
  clear hP HN HF
  go_wp2_with fail
  refine HO.out.mono ?_
  rintro e w2 ⟨bt0, bl0, v, rfl, hT, ho, hb⟩
  have HT0 := Lib.hid hT
  have HR0 : Hid (w2.ownsRow w.heap.size 9 1 v ([] : List ByteArray).length (strs [])) := row_base ho hsz1
  obtain ⟨vA0, vc0, rfl⟩ := row_slice ho
  clear hT ho hb HO
  obtain ⟨i9, hi9, hz90, hz91, hz92⟩ := info9
  go_wp2_with fail
  go_loopw [7, 8, 10, 11] (fun s7 s8 s10 s11 wr => ∃ (i bt bl sure : Nat) (had : List ByteArray) (d : D) (t : T), s7 = .pointer (some ⟨bt, 0, none⟩) ∧ s10 = .int .i64 (sure : Int) ∧ s11 = .int .i64 (i : Int) ∧ i ≤ m ∧ Hid (had.length ≤ 60 + i ∧ t.count ≤ 60 + i ∧ t.life ≤ i + 1) ∧ Hid (KP n had sure d t) ∧ Hid (TN w wr bt bl b d t) ∧ Hid (wr.ownsRow w.heap.size 9 1 s8 had.length (strs had))) (fun _ _ _ s11 _ => m - (intOf s11).toNat)
  case atStart => exact ⟨0, bt0, bl0, 0, [], _, _, rfl, rfl, rfl, Nat.zero_le _, ⟨by simp, by rw [HC0.out]; omega, by rw [HL0.out]; omega⟩, HK0, HT0, HR0⟩
  case round =>
    obtain ⟨i, bt, bl, sure, had, d, t, rfl, rfl, rfl, hi, HB, HK, HT, HO⟩ := hrel
    clear HT0 HK0 HOE HRE HL0 HC0 HR0
    obtain ⟨vA, vc, rfl⟩ := row_slice HO.out
    by_cases hlt : i < m
    · have hil : i < L.length := by rw [HM.out]; exact hlt
      have hii : (i : Int) < (m : Int) := by omega
      obtain ⟨a', c', hv, hcells⟩ := HL.out
      injection hv with f1 f2 f3
      subst f1
      obtain ⟨bb, oo, rfl, hbb, -⟩ := hcells (by omega)
      have HAT : Hid (∀ W, Below w.heap.size w W → AcAt W w.heap.size bb (oo + i * 4) L[i]) := by
        intro W hbW
        obtain ⟨a2, c2, hv2, hcells2⟩ := HL.out.below hbW
        injection hv2 with g1 g2 g3
        subst g1
        obtain ⟨b3, o3, g4, -, hc3⟩ := hcells2 (by omega)
        injection g4 with g4
        injection g4 with g5 g6
        subst g5 g6
        exact hc3 i hil
      have HLK := Lib.hid (HFEW.out _ (List.getElem_mem hil))
      have HCELL : Hid (∀ W, Below w.heap.size w W → W.cell? ⟨bb, oo + i * 4, none⟩ = some (.int .i64 L[i].k) ∧ W.cell? ⟨bb, oo + i * 4 + 1, none⟩ = some (.int .i64 L[i].i) ∧ W.cell? ⟨bb, oo + i * 4 + 2, none⟩ = some (.string L[i].s) ∧ W.cell? ⟨bb, oo + i * 4 + 3, none⟩ = some L[i].v) := fun W hbW => ⟨(HAT.out W hbW).c0, (HAT.out W hbW).c1, (HAT.out W hbW).c2, (HAT.out W hbW).c3⟩
      have HINT : Hid (∀ W, Below w.heap.size w W → IntsAt W W.heap.size L[i].v L[i].keep ∧ L[i].i ≤ 9223372036854775807) := fun W hbW => ⟨(HAT.out W hbW).ints.more hbW.size, (HAT.out W hbW).top⟩
      generalize L[i].k = ak at HCELL
      generalize L[i].i = ai at HCELL HINT
      generalize L[i].s = asx at HCELL HLK
      generalize L[i].v = av at HCELL HINT
      generalize L[i].keep = ake at HINT HLK
      obtain ⟨x0, x1, x2, x3⟩ := HCELL.out _ HT.out.pn.old
      clear hcells f2 f3 hil HAT hbb
      have hw60 := HK.out.wlen
      by_cases e1 : ak = 1
      · as_aux_lemma =>
          subst e1
          clear x1 x2 x3 HINT HLK
          have HS := Lib.hid (settleK HT.out (by omega))
          have HKS := Lib.hid HK.out.settle
          generalize hfe : flushE t d = fe at HS HKS
          have HFL : Hid ((flushT t d).count = t.count ∧ (flushT t d).life = t.life) := ⟨rfl, rfl⟩
          generalize flushT t d = t' at HS HKS HFL
          generalize flushD t d = d' at HS HKS
          clear hfe hw60
          by_cases h0 : fe = 0
          · subst h0
            rw [if_pos rfl] at HKS
            go_wp2_with fail
            refine HS.out.mono ?_
            rintro e w5 ⟨rfl, hT5, hk5, hb5⟩
            have HT5 := Lib.hid hT5
            have HO5 := Lib.hid (hk5.row HO.out)
            clear hT5 hk5 hb5 HS HT HO
            go_wp2_with fail
            go_roundw
            case rel => exact ⟨i + 1, bt, bl, had.length, had, d', t', rfl, rfl, by go_num, by omega, ⟨by have := HB.out.1; omega, by rw [HFL.out.1]; have := HB.out.2.1; omega, by rw [HFL.out.2]; have := HB.out.2.2; omega⟩, HKS, HT5, HO5⟩
            case measure => simp [intOf]; omega
          · rw [if_neg h0] at HKS
            have h0' : (fe == 0) = false := by simpa using h0
            go_wp2_with fail
            refine HS.out.mono ?_
            rintro e w5 ⟨rfl, hT5, hk5, hb5⟩
            have HT5 := Lib.hid hT5
            have HO5 := Lib.hid (hk5.row HO.out)
            clear hT5 hk5 hb5 HS HT HO
            go_wp2_with fail
            go_roundw
            case rel => exact ⟨i + 1, bt, bl, sure, had, d', t', rfl, rfl, by go_num, by omega, ⟨by have := HB.out.1; omega, by rw [HFL.out.1]; have := HB.out.2.1; omega, by rw [HFL.out.2]; have := HB.out.2.2; omega⟩, HKS, HT5, HO5⟩
            case measure => simp [intOf]; omega
      · have e1' : (ak == 1) = false := by simpa using e1
        by_cases e4 : ak = 4
        · as_aux_lemma =>
            subst e4
            clear x2 x3 HLK e1
            have HA := Lib.hid (armT HT.out ai (HINT.out _ HT.out.pn.old).2)
            have HKA := Lib.hid (HK.out.arm ai)
            generalize armD d ai = d' at HA HKA
            generalize armE d ai = ae at HA
            go_wp2_with fail
            refine HA.out.mono ?_
            rintro e w5 ⟨rfl, hT5, hk5, hb5⟩
            have HT5 := Lib.hid hT5
            have HO5 := Lib.hid (hk5.row HO.out)
            clear hT5 hk5 hb5 HA HT HO
            go_wp2_with fail
            go_roundw
            case rel => exact ⟨i + 1, bt, bl, sure, had, d', t, rfl, rfl, by go_num, by omega, ⟨by have := HB.out.1; omega, by have := HB.out.2.1; omega, by have := HB.out.2.2; omega⟩, HKA, HT5, HO5⟩
            case measure => simp [intOf]; omega
        · have e4' : (ak == 4) = false := by simpa using e4
          by_cases e23 : ak = 2 ∨ ak = 3
          · have HC := Lib.hid (crashT HT.out (by omega) ake av (HINT.out _ HT.out.pn.old).1 (by have := HLK.out.2; omega))
            obtain ⟨c1, c2, c3, c4, c5, c6, c7⟩ := HK.out.crash (by have := HB.out.2.2; omega) ake
            have hW : (crashD d ake).W = [] := rfl
            have hco : (openT (crashD d ake)).count = (scanD (crashD d ake)).recs.length := rfl
            obtain ⟨R, hR⟩ : ∃ R, (scanD (crashD d ake)).recs = R := ⟨_, rfl⟩
            rw [hR] at c2 c3 c4 c6 c7 hco
            generalize crashD d ake = d' at HC c1 c4 c5 c7 hW hco hR
            have HOE := Lib.hid c1
            have HTK := Lib.hid c2
            have HKC := Lib.hid c7
            have HWW := Lib.hid hW
            have HRR := Lib.hid hR
            have HCO := Lib.hid hco
            obtain ⟨xl, hxl⟩ : ∃ xl, (openT d').life = xl := ⟨_, rfl⟩
            rw [hxl] at c4 c5
            have HXL := Lib.hid hxl
            obtain ⟨tl, htl⟩ : ∃ tl, t.life = tl := ⟨_, rfl⟩
            rw [htl] at c4 c5
            have HTL := Lib.hid htl
            have hsl : ¬ (R.length : Int) < (sure : Int) := by omega
            clear c1 c2 c7 hW hR hco hxl htl x1 x2 HCELL
            rcases e23 with rfl | rfl
            all_goals
              as_aux_lemma =>
                go_wp2_with fail
                refine HC.out.mono ?_
                rintro e w5 ⟨rfl, hP5, hl5, hk5, hb5⟩
                have HLG5 := Lib.hid hl5
                have HO5 := Lib.hid (hk5.row HO.out)
                have HO1 := Lib.hid (openN hP5 (by rw [HWW.out]; simp) HOE.out)
                have hsz5 := hP5.old.size
                clear hP5 hl5 hk5 hb5 HC HT HO HINT
                go_wp2_with fail
                refine HO1.out.mono ?_
                rintro e w6 ⟨bt1, bl1, v1, rfl, hT6, ho6, hb6⟩
                rw [HRR.out] at ho6
                have HT6 := Lib.hid hT6
                have HLG6 := Lib.hid (HLG5.out.below hb6)
                have HO6 := Lib.hid (row_keep HO5.out (fun k hk => hb6.block k (row_lt HO5.out hk)))
                have HN6 : Hid (w6.ownsRow w.heap.size 9 1 v1 R.length (strs R)) := row_base ho6 hsz5
                have HO2 := Lib.hid (openN hT6.pn (by rw [HWW.out]; simp) HOE.out)
                obtain ⟨vB, vd, rfl⟩ := row_slice ho6
                clear hT6 ho6 hb6 HO1 HLG5 HO5 hsz5
                go_wp2_with fail
                refine HO2.out.mono ?_
                rintro e w7 ⟨bt2, bl2, v2, rfl, -, ho7, hb7⟩
                rw [HRR.out] at ho7
                have HT7 := Lib.hid (HT6.out.below hb7)
                have HLG7 := Lib.hid (HLG6.out.below hb7)
                have HO7 : Hid (StrsAt w7 (.slice vA had.length vc) had) := row_base (row_keep HO6.out (fun k hk => hb7.block k (row_lt HO6.out hk))) (Nat.zero_le _)
                have HN7 := Lib.hid (row_keep HN6.out (fun k hk => hb7.block k (row_lt HN6.out hk)))
                have HA7 : Hid (StrsAt w7 v2 R) := row_base ho7 (Nat.zero_le _)
                have HN7' : Hid (StrsAt w7 (.slice vB R.length vd) R) := row_base HN7.out (Nat.zero_le _)
                have HBG := Lib.hid (begins22 HO7.out HN7'.out (by omega))
                simp only [HTK.out, decide_true] at HBG
                obtain ⟨vE, ve, rfl⟩ := row_slice ho7
                clear ho7 hb7 HO2 HT6 HLG6 HO6 HN6 HO7
                go_wp2_with fail
                refine HBG.out.mono ?_
                rintro e w8 ⟨rfl, n8, rfl⟩
                have HSM := Lib.hid (same16 (HN7'.out.drewN n8) (HA7.out.drewN n8) (by omega))
                simp only [decide_true] at HSM
                clear HBG HA7 HN7'
                go_wp2_with fail
                refine HSM.out.mono ?_
                rintro e w9 ⟨rfl, n9, rfl⟩
                have HB9 : Hid (Below w7.heap.size w7 ((w7.drewN n8).drewN n9)) := below_drewN (below_drewN (Below.refl _ _) n8) n9
                have HT9 := Lib.hid (HT7.out.below HB9.out)
                have HN9 := Lib.hid (row_keep HN7.out (fun k hk => HB9.out.block k (row_lt HN7.out hk)))
                have HLF := Lib.hid (lifeT HT9.out)
                rw [HXL.out] at HLF
                have HLF2 := Lib.hid (life23 (HLG7.out.below HB9.out))
                rw [HTL.out] at HLF2
                generalize (w7.drewN n8).drewN n9 = w10 at HT9 HN9 HLF HLF2 ⊢
                clear HSM HB9 HT7 HN7 HLG7
                go_wp2_with fail
                refine HLF.out.mono ?_
                rintro e w' ⟨rfl, rfl⟩
                go_wp2_with fail
                refine HLF2.out.mono ?_
                rintro e w' ⟨rfl, rfl⟩
                clear HLF HLF2
                by_cases hle : (xl : Int) ≤ (tl : Int)
                · have hns : ¬ (sure : Int) < (R.length : Int) := by omega
                  go_wp2_with fail
                  go_roundw
                  case rel => exact ⟨i + 1, bt1, bl1, R.length, R, d', openT d', rfl, rfl, by go_num, by omega, ⟨by omega, by rw [HCO.out]; omega, by rw [HXL.out]; have := HB.out.2.2; rw [HTL.out] at this; omega⟩, HKC, HT9, HN9⟩
                  case measure => simp [intOf]; omega
                · go_wp2_with fail
                  go_roundw
                  case rel => exact ⟨i + 1, bt1, bl1, R.length, R, d', openT d', rfl, rfl, by go_num, by omega, ⟨by omega, by rw [HCO.out]; omega, by rw [HXL.out]; have := HB.out.2.2; rw [HTL.out] at this; omega⟩, HKC, HT9, HN9⟩
                  case measure => simp [intOf]; omega
          · have n2' : (ak == 2) = false := by simp; omega
            have n3' : (ak == 3) = false := by simp; omega
            have HLN := Lib.hid (lenT HT.out)
            have HA := Lib.hid (appendK HT.out (by omega) (by have := HB.out.2.1; omega) asx (by have := HLK.out.1; omega))
            obtain ⟨p1, p2, p3⟩ := HK.out.append asx
            obtain ⟨q1, q2⟩ := appT_count t d asx
            have hhb : HadB t d had asx = if (appE t d asx = 0 ∨ appE t d asx = 9) ∧ had.length = t.count then had ++ [asx] else had := rfl
            generalize HadB t d had asx = had' at p3 hhb
            generalize appE t d asx = ae at HA p1 p2 hhb
            generalize appT t d asx = t' at HA p2 p3 q1 q2
            generalize appD t d asx = d' at HA p3
            have hbl := HB.out.2.2
            have hbc := HB.out.2.1
            have hbh := HB.out.1
            obtain ⟨c, hc⟩ : ∃ c, t.count = c := ⟨_, rfl⟩
            rw [hc] at HLN p2 q1 hhb hbc
            have HKA := Lib.hid p3
            have HTL : Hid (t'.count ≤ 60 + (i + 1) ∧ t'.life ≤ (i + 1) + 1) := ⟨by omega, by omega⟩
            have HTC := Lib.hid p2
            have hlen1 : (had ++ [asx]).length = had.length + 1 := by simp
            clear hc p2 p3 q1 q2 hbl x1 x3 e1 e4 e23 HINT HK
            have hchoice : (ae = 8 ∧ had' = had) ∨ ((ae = 0 ∨ ae = 9) ∧ had.length ≠ c ∧ had' = had) ∨ ((ae = 0 ∨ ae = 9) ∧ had.length = c ∧ had' = had ++ [asx]) := by
              rcases p1 with rfl | rfl | rfl
              · by_cases hg : had.length = c
                · exact .inr (.inr ⟨.inl rfl, hg, by rw [hhb, if_pos ⟨.inl rfl, hg⟩]⟩)
                · exact .inr (.inl ⟨.inl rfl, hg, by rw [hhb, if_neg (fun h => hg h.2)]⟩)
              · exact .inl ⟨rfl, by rw [hhb, if_neg (by omega)]⟩
              · by_cases hg : had.length = c
                · exact .inr (.inr ⟨.inr rfl, hg, by rw [hhb, if_pos ⟨.inr rfl, hg⟩]⟩)
                · exact .inr (.inl ⟨.inr rfl, hg, by rw [hhb, if_neg (fun h => hg h.2)]⟩)
            clear p1 hhb
            go_wp2_with fail
            refine HLN.out.mono ?_
            rintro e w' ⟨rfl, rfl⟩
            clear HLN
            go_wp2_with fail
            refine HA.out.mono ?_
            rintro e w5 ⟨rfl, hT5, hk5, hb5⟩
            have HT5 := Lib.hid hT5
            have HO5 := Lib.hid (hk5.row HO.out)
            obtain ⟨-, -, x2, -⟩ := HCELL.out _ HT5.out.pn.old
            clear hT5 hk5 hb5 HA HT HO HCELL
            have HL5 := Lib.hid (lenT HT5.out)
            obtain ⟨hl, hhl⟩ : ∃ hl, had.length = hl := ⟨_, rfl⟩
            rw [hhl] at hlen1 hbh hchoice HO5 ⊢
            rcases hchoice with ⟨rfl, rfl⟩ | ⟨hae, hne, rfl⟩ | ⟨hae, heq, rfl⟩
            · as_aux_lemma =>
                go_wp2_with fail
                go_roundw
                case rel => exact ⟨i + 1, bt, bl, sure, had', d', t', rfl, rfl, by go_num, by omega, ⟨by omega, HTL.out.1, HTL.out.2⟩, HKA, HT5, by rw [hhl]; exact HO5⟩
                case measure => simp [intOf]; omega
            · have hne' : ((hl : Int) == (c : Int)) = false := by simp; omega
              rcases hae with rfl | rfl
              · as_aux_lemma =>
                  rw [HTC.out rfl] at HL5
                  go_wp2_with fail
                  refine HL5.out.mono ?_
                  rintro e w' ⟨rfl, rfl⟩
                  clear HL5
                  have hcc : (((c + 1 : Nat) : Int) != (c : Int) + 1) = false := by simp
                  go_wp2_with fail
                  go_roundw
                  case rel => exact ⟨i + 1, bt, bl, sure, had', d', t', rfl, rfl, by go_num, by omega, ⟨by omega, HTL.out.1, HTL.out.2⟩, HKA, HT5, by rw [hhl]; exact HO5⟩
                  case measure => simp [intOf]; omega
              · as_aux_lemma =>
                  clear HL5
                  go_wp2_with fail
                  go_roundw
                  case rel => exact ⟨i + 1, bt, bl, sure, had', d', t', rfl, rfl, by go_num, by omega, ⟨by omega, HTL.out.1, HTL.out.2⟩, HKA, HT5, by rw [hhl]; exact HO5⟩
                  case measure => simp [intOf]; omega
            · subst heq
              have HE : Hid (∀ W v', W.ownsRow w5.heap.size 9 1 v' (0 + hl + 1) ([] ++ strs had ++ [.string asx]) → Below w5.heap.size w5 W → TN w W bt bl b d' t' ∧ W.ownsRow w.heap.size 9 1 v' (had ++ [asx]).length (strs (had ++ [asx]))) := by
                intro W v' ho hb
                refine ⟨HT5.out.below hb, ?_⟩
                have h := row_base ho (HT5.out.pn.old.size)
                rw [hlen1]
                unfold strs at h ⊢
                rw [List.map_append]
                simpa using h
              have bA1 : Hid (Below w5.heap.size w5 (w5.drew.alloc (.cells #[] 9))) := ((Below.refl _ _).drew).alloc (Nat.le_refl _) _
              have bA2 : Hid (Below w5.heap.size w5 ((w5.drew.alloc (.cells #[] 9)).alloc (.cells #[.string asx] 9))) := bA1.out.alloc bA1.out.size _
              have bA3 : Hid (Below w5.heap.size w5 ((w5.drew.alloc (.cells #[.string asx] 9)).alloc (.cells #[] 9))) := (((Below.refl _ _).drew).alloc (Nat.le_refl _) _).alloc (by simp) _
              have HHW : Hid (∀ W, Below w5.heap.size w5 W → W.ownsRow w.heap.size 9 1 (.slice vA hl vc) hl (strs had)) := fun W hb => row_keep HO5.out (fun k hk => hb.block k (row_lt HO5.out hk))
              have rA1 : Hid ((w5.drew.alloc (.cells #[] 9)).ownsRow w5.heap.size 9 1 (.slice (some ⟨w5.heap.size, 0, none⟩) 0 0) 0 []) := empty_row (heap_alloc_new w5.drew _) (Nat.le_refl _)
              have rA2 : Hid (((w5.drew.alloc (.cells #[] 9)).alloc (.cells #[.string asx] 9)).ownsRow w5.heap.size 9 1 (.slice (some ⟨w5.heap.size, 0, none⟩) 0 0) 0 []) := World.ownsRow.alloc rA1.out _
              have rA3 : Hid (((w5.drew.alloc (.cells #[.string asx] 9)).alloc (.cells #[] 9)).ownsRow w5.heap.size 9 1 (.slice (some ⟨w5.heap.size + 1, 0, none⟩) 0 0) 0 []) := empty_row (by have := heap_alloc_new (w5.drew.alloc (.cells #[.string asx] 9)) (.cells #[] 9); simpa using this) (Nat.le_succ _)
              have l2 : Hid (((w5.drew.alloc (.cells #[] 9)).alloc (.cells #[.string asx] 9)).heap[w5.heap.size + 1]? = some (.cells #[.string asx] 9 (0, 0))) := by have h := heap_alloc_new (w5.drew.alloc (.cells #[] 9)) (.cells #[.string asx] 9); unfold Hid; simpa using h
              have l3 : Hid (((w5.drew.alloc (.cells #[.string asx] 9)).alloc (.cells #[] 9)).heap[w5.heap.size]? = some (.cells #[.string asx] 9 (0, 0))) := by
                have h := heap_alloc_new w5.drew (.cells #[.string asx] 9)
                unfold Hid
                rw [((Below.refl (w5.drew.alloc (.cells #[.string asx] 9)).heap.size (w5.drew.alloc (.cells #[.string asx] 9))).alloc (Nat.le_refl _) (.cells #[] 9)).block _ (by simp)]
                exact h
              have x2b : bb < w5.heap.size := World.block_lt_of_cell? w5 ⟨bb, oo + i * 4 + 2, none⟩ x2
              have HX2 : Hid (∀ W, Below w5.heap.size w5 W → W.cell? ⟨bb, oo + i * 4 + 2, none⟩ = some (.string asx)) := fun W hb => by rw [hb.cell (p := ⟨bb, oo + i * 4 + 2, none⟩) x2b]; exact x2
              have y0 := HX2.out _ bA1.out
              have y1 : (w5.alloc (.cells #[] 9)).cell? ⟨bb, oo + i * 4 + 2, none⟩ = some (.string asx) := HX2.out _ ((Below.refl _ _).alloc (Nat.le_refl _) _)
              have HGR : Hid (∀ W W' v, Below w5.heap.size w5 W → W.grownBy W' (Value.ownBlock v) → (∀ k, Value.ownBlock v = some k → w5.heap.size ≤ k) → Below w5.heap.size w5 W') := fun W W' v hb hg hk => hb.grown hg hb.size hk
              have hso := Lib.hid (strs_one had)
              have heq' : ((hl : Int) == (hl : Int)) = true := by simp
              clear HT5 HO5 hhl x2b
              rcases hae with rfl | rfl
              · as_aux_lemma =>
                  rw [HTC.out rfl] at HL5
                  go_wp2_with fail
                  refine HL5.out.mono ?_
                  rintro e w' ⟨rfl, rfl⟩
                  clear HL5
                  have hcc : (((hl + 1 : Nat) : Int) != (hl : Int) + 1) = false := by simp
                  go_wp2_with fail
                  go_region_law (first
                    | (refine step_append_rows rfl (.tmp 181) (.tmp 182) rfl w5.heap.size w.heap.size (.slice (some ⟨w5.heap.size, 0, none⟩) 0 0) 0 [] (by simp [Act.eval]) rA1.out (.slice vA hl vc) hl (strs had) (by simp [Act.eval]) (HHW.out _ bA1.out) hso.out (by omega) bA1.out.size ?_; intro v4 w4 ho4 hg4 hat4; have HB4 := Lib.hid (HGR.out _ _ _ bA1.out hg4 (fun k e => row_ge rA1.out e)); have HO4 := Lib.hid ho4; have y4 := HX2.out _ HB4.out; obtain ⟨gA, gc, rfl⟩ := row_slice ho4; clear ho4 hg4 hat4)
                    | (refine step_append_rows rfl (.tmp 181) (.tmp 182) rfl w5.heap.size w.heap.size (.slice (some ⟨w5.heap.size, 0, none⟩) 0 0) 0 [] (by simp [Act.eval]) rA2.out (.slice vA hl vc) hl (strs had) (by simp [Act.eval]) (HHW.out _ bA2.out) hso.out (by omega) bA2.out.size ?_; intro v4 w4 ho4 hg4 hat4; have HB4 := Lib.hid (HGR.out _ _ _ bA2.out hg4 (fun k e => row_ge rA2.out e)); have HO4 := Lib.hid ho4; have HLT : Hid (w4.heap[w5.heap.size + 1]? = some (.cells #[.string asx] 9 (0, 0))) := (hg4.block _ (by simp) (by simp [Value.ownBlock])).trans l2.out; obtain ⟨gA, gc, rfl⟩ := row_slice ho4; clear ho4 hg4 hat4)
                    | (refine step_append_rows rfl (.tmp 181) (.tmp 182) rfl w5.heap.size w.heap.size (.slice (some ⟨w5.heap.size + 1, 0, none⟩) 0 0) 0 [] (by simp [Act.eval]) rA3.out (.slice vA hl vc) hl (strs had) (by simp [Act.eval]) (HHW.out _ bA3.out) hso.out (by omega) bA3.out.size ?_; intro v4 w4 ho4 hg4 hat4; have HB4 := Lib.hid (HGR.out _ _ _ bA3.out hg4 (fun k e => row_ge rA3.out e)); have HO4 := Lib.hid ho4; have HLT : Hid (w4.heap[w5.heap.size]? = some (.cells #[.string asx] 9 (0, 0))) := (hg4.block _ (by simp; omega) (by simp [Value.ownBlock])).trans l3.out; obtain ⟨gA, gc, rfl⟩ := row_slice ho4; clear ho4 hg4 hat4)
                    | (refine step_append_rows rfl (.tmp 183) (.tmp 189) rfl w5.heap.size 0 (.slice gA (0 + hl) gc) (0 + hl) ([] ++ strs had) (by simp [Act.eval]) (World.ownsRow.alloc HO4.out (.cells #[.string asx] 9)) (.slice (some ⟨w4.heap.size, 0, none⟩) 1 1) 1 [.string asx] (by simp [Act.eval]) (one_row (heap_alloc_new w4 (.cells #[.string asx] 9)) (Nat.zero_le _)) (by intro u hu; simp at hu; subst hu; rfl) (by omega) (HB4.out.alloc HB4.out.size _).size ?_; intro v6 w6 ho6 hg6 hat6; have HFN := Lib.hid (HE.out _ _ ho6 (HGR.out _ _ _ (HB4.out.alloc HB4.out.size (.cells #[.string asx] 9)) hg6 (fun k e => row_ge HO4.out e))); clear ho6 hg6 hat6)
                    | (refine step_append_rows rfl (.tmp 183) (.tmp 189) rfl w5.heap.size 0 (.slice gA (0 + hl) gc) (0 + hl) ([] ++ strs had) (by simp [Act.eval]) HO4.out (.slice (some ⟨w5.heap.size + 1, 0, none⟩) 1 1) 1 [.string asx] (by simp [Act.eval]) (one_row HLT.out (Nat.zero_le _)) (by intro u hu; simp at hu; subst hu; rfl) (by omega) HB4.out.size ?_; intro v6 w6 ho6 hg6 hat6; have HFN := Lib.hid (HE.out _ _ ho6 (HGR.out _ _ _ HB4.out hg6 (fun k e => row_ge HO4.out e))); clear ho6 hg6 hat6)
                    | (refine step_append_rows rfl (.tmp 183) (.tmp 189) rfl w5.heap.size 0 (.slice gA (0 + hl) gc) (0 + hl) ([] ++ strs had) (by simp [Act.eval]) HO4.out (.slice (some ⟨w5.heap.size, 0, none⟩) 1 1) 1 [.string asx] (by simp [Act.eval]) (one_row HLT.out (Nat.zero_le _)) (by intro u hu; simp at hu; subst hu; rfl) (by omega) HB4.out.size ?_; intro v6 w6 ho6 hg6 hat6; have HFN := Lib.hid (HE.out _ _ ho6 (HGR.out _ _ _ HB4.out hg6 (fun k e => row_ge HO4.out e))); clear ho6 hg6 hat6))
                  all_goals
                    go_wp2
                    go_roundw
                    case rel => exact ⟨i + 1, bt, bl, sure, had ++ [asx], d', t', rfl, rfl, by go_num, by omega, ⟨by rw [hlen1]; omega, HTL.out.1, HTL.out.2⟩, HKA, HFN.out.1, HFN.out.2⟩
                    case measure => simp [intOf]; omega
              · as_aux_lemma =>
                  clear HL5
                  go_wp2_with fail
                  go_region_law (first
                    | (refine step_append_rows rfl (.tmp 181) (.tmp 182) rfl w5.heap.size w.heap.size (.slice (some ⟨w5.heap.size, 0, none⟩) 0 0) 0 [] (by simp [Act.eval]) rA1.out (.slice vA hl vc) hl (strs had) (by simp [Act.eval]) (HHW.out _ bA1.out) hso.out (by omega) bA1.out.size ?_; intro v4 w4 ho4 hg4 hat4; have HB4 := Lib.hid (HGR.out _ _ _ bA1.out hg4 (fun k e => row_ge rA1.out e)); have HO4 := Lib.hid ho4; have y4 := HX2.out _ HB4.out; obtain ⟨gA, gc, rfl⟩ := row_slice ho4; clear ho4 hg4 hat4)
                    | (refine step_append_rows rfl (.tmp 181) (.tmp 182) rfl w5.heap.size w.heap.size (.slice (some ⟨w5.heap.size, 0, none⟩) 0 0) 0 [] (by simp [Act.eval]) rA2.out (.slice vA hl vc) hl (strs had) (by simp [Act.eval]) (HHW.out _ bA2.out) hso.out (by omega) bA2.out.size ?_; intro v4 w4 ho4 hg4 hat4; have HB4 := Lib.hid (HGR.out _ _ _ bA2.out hg4 (fun k e => row_ge rA2.out e)); have HO4 := Lib.hid ho4; have HLT : Hid (w4.heap[w5.heap.size + 1]? = some (.cells #[.string asx] 9 (0, 0))) := (hg4.block _ (by simp) (by simp [Value.ownBlock])).trans l2.out; obtain ⟨gA, gc, rfl⟩ := row_slice ho4; clear ho4 hg4 hat4)
                    | (refine step_append_rows rfl (.tmp 181) (.tmp 182) rfl w5.heap.size w.heap.size (.slice (some ⟨w5.heap.size + 1, 0, none⟩) 0 0) 0 [] (by simp [Act.eval]) rA3.out (.slice vA hl vc) hl (strs had) (by simp [Act.eval]) (HHW.out _ bA3.out) hso.out (by omega) bA3.out.size ?_; intro v4 w4 ho4 hg4 hat4; have HB4 := Lib.hid (HGR.out _ _ _ bA3.out hg4 (fun k e => row_ge rA3.out e)); have HO4 := Lib.hid ho4; have HLT : Hid (w4.heap[w5.heap.size]? = some (.cells #[.string asx] 9 (0, 0))) := (hg4.block _ (by simp; omega) (by simp [Value.ownBlock])).trans l3.out; obtain ⟨gA, gc, rfl⟩ := row_slice ho4; clear ho4 hg4 hat4)
                    | (refine step_append_rows rfl (.tmp 183) (.tmp 189) rfl w5.heap.size 0 (.slice gA (0 + hl) gc) (0 + hl) ([] ++ strs had) (by simp [Act.eval]) (World.ownsRow.alloc HO4.out (.cells #[.string asx] 9)) (.slice (some ⟨w4.heap.size, 0, none⟩) 1 1) 1 [.string asx] (by simp [Act.eval]) (one_row (heap_alloc_new w4 (.cells #[.string asx] 9)) (Nat.zero_le _)) (by intro u hu; simp at hu; subst hu; rfl) (by omega) (HB4.out.alloc HB4.out.size _).size ?_; intro v6 w6 ho6 hg6 hat6; have HFN := Lib.hid (HE.out _ _ ho6 (HGR.out _ _ _ (HB4.out.alloc HB4.out.size (.cells #[.string asx] 9)) hg6 (fun k e => row_ge HO4.out e))); clear ho6 hg6 hat6)
                    | (refine step_append_rows rfl (.tmp 183) (.tmp 189) rfl w5.heap.size 0 (.slice gA (0 + hl) gc) (0 + hl) ([] ++ strs had) (by simp [Act.eval]) HO4.out (.slice (some ⟨w5.heap.size + 1, 0, none⟩) 1 1) 1 [.string asx] (by simp [Act.eval]) (one_row HLT.out (Nat.zero_le _)) (by intro u hu; simp at hu; subst hu; rfl) (by omega) HB4.out.size ?_; intro v6 w6 ho6 hg6 hat6; have HFN := Lib.hid (HE.out _ _ ho6 (HGR.out _ _ _ HB4.out hg6 (fun k e => row_ge HO4.out e))); clear ho6 hg6 hat6)
                    | (refine step_append_rows rfl (.tmp 183) (.tmp 189) rfl w5.heap.size 0 (.slice gA (0 + hl) gc) (0 + hl) ([] ++ strs had) (by simp [Act.eval]) HO4.out (.slice (some ⟨w5.heap.size, 0, none⟩) 1 1) 1 [.string asx] (by simp [Act.eval]) (one_row HLT.out (Nat.zero_le _)) (by intro u hu; simp at hu; subst hu; rfl) (by omega) HB4.out.size ?_; intro v6 w6 ho6 hg6 hat6; have HFN := Lib.hid (HE.out _ _ ho6 (HGR.out _ _ _ HB4.out hg6 (fun k e => row_ge HO4.out e))); clear ho6 hg6 hat6))
                  all_goals
                    go_wp2
                    go_roundw
                    case rel => exact ⟨i + 1, bt, bl, sure, had ++ [asx], d', t', rfl, rfl, by go_num, by omega, ⟨by rw [hlen1]; omega, HTL.out.1, HTL.out.2⟩, HKA, HFN.out.1, HFN.out.2⟩
                    case measure => simp [intOf]; omega
    · have hni : ¬ (i : Int) < (m : Int) := by omega
      have HLV := Lib.hid (lives8 wr)
      have HBO := Lib.hid HT.out.pn.old
      clear HT HO HK
      go_wp2_with (go_at_call 8; refine HLV.out.mono ?_; rintro e w3 ⟨rfl, hb3⟩; have HB3 := Lib.hid hb3; clear hb3)
      go_ret
      exact ⟨rfl, HBO.out.trans (HB3.out.mono HBO.out.size)⟩
end Go.Proofs.YtelfomdlbldnpaaDoor
