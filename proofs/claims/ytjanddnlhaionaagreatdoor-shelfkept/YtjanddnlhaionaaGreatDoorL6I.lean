/-
  Contracts of marks and Crash. No condition.
-/
import Derived.Test.YtjanddnlhaionaaGreatDoorL6H
namespace Go.Proofs.YtjanddnlhaionaaGreatDoor.L6
open Go.RowKit

/-- v is a slice of ints that reads l, in a block below B. -/
def IntsAt (w : World) (B : Nat) (v : Value) (l : List Int) : Prop :=
  ∃ a c, v = .slice a l.length c ∧ (0 < l.length → ∃ b o, a = some ⟨b, o, none⟩ ∧ b < B ∧ ∀ i (h : i < l.length), w.cell? ⟨b, o + i, none⟩ = some (.int .i64 l[i]))
set_option maxRecDepth 100000 in
theorem IntsAt.below {w w' : World} {B : Nat} {v : Value} {l : List Int} (h : IntsAt w B v l) (hb : Below B w w') : IntsAt w' B v l := by
  obtain ⟨a, c, rfl, h⟩ := h
  refine ⟨a, c, rfl, fun h0 => ?_⟩
  obtain ⟨b, o, rfl, hlt, hc⟩ := h h0
  exact ⟨b, o, rfl, hlt, fun i hi => by rw [hb.cell (p := ⟨b, o + i, none⟩) hlt]; exact hc i hi⟩
set_option maxRecDepth 100000 in
theorem IntsAt.nil (w : World) (B : Nat) : IntsAt w B (.slice none 0 0) [] := ⟨none, 0, rfl, fun h => by simp at h⟩

set_option maxRecDepth 100000 in
theorem Tryz.info4 : (Tryz.prog.info? 4).map (fun i => (i.zero, i.size, i.bytes)) = some (some (.bool false), 1, 1) := by kernel_rfl
set_option maxRecDepth 100000 in
theorem info4 : ∃ i, Tryz.prog.info? 4 = some i ∧ i.zero = some (.bool false) ∧ i.size = 1 ∧ i.bytes = 1 := by
  have h := Tryz.info4
  cases hq : Tryz.prog.info? 4 with
  | none => simp [hq] at h
  | some i =>
    simp [hq] at h
    exact ⟨i, rfl, h.1, h.2.1, h.2.2⟩

/-- The marks of the first j of the list. -/
def mk (l : List Int) (n j : Nat) : List Value := (List.range n).map fun k : Nat => .bool (decide ((k : Int) ∈ l.take j))
set_option maxRecDepth 100000 in
theorem mk_len (l : List Int) (n j : Nat) : (mk l n j).length = n := by simp [mk]
set_option maxRecDepth 100000 in
theorem mk_zero (l : List Int) (n : Nat) : mk l n 0 = List.replicate n (.bool false) := by
  apply List.ext_getElem?
  intro i
  by_cases h : i < n
  · simp [mk, h]
  · simp [mk, h]
set_option maxRecDepth 100000 in
theorem mem_take_succ (l : List Int) (j : Nat) (hj : j < l.length) (x : Int) : x ∈ l.take (j + 1) ↔ x ∈ l.take j ∨ x = l[j] := by
  rw [List.take_succ_eq_append_getElem hj, List.mem_append, List.mem_singleton]
set_option maxRecDepth 100000 in
theorem mk_in (l : List Int) (n j k : Nat) (hj : j < l.length) (hk : k < n) (he : l[j] = (k : Int)) : mk l n (j + 1) = (mk l n j).set k (.bool true) := by
  apply List.ext_getElem?
  intro i
  by_cases h : i < n
  · rw [List.getElem?_set]
    by_cases hik : k = i
    · subst hik
      rw [if_pos rfl, if_pos (by rw [mk_len]; exact hk)]
      simp only [mk, List.getElem?_map, List.getElem?_range h, Option.map_some]
      congr 2
      rw [decide_eq_true_eq, mem_take_succ l j hj]
      exact .inr he.symm
    · rw [if_neg hik]
      simp only [mk, List.getElem?_map, List.getElem?_range h, Option.map_some]
      congr 3
      rw [mem_take_succ l j hj, he]
      simp only [eq_iff_iff]
      constructor
      · rintro (h1 | h1)
        · exact h1
        · exact absurd (by omega) hik
      · exact .inl
  · rw [List.getElem?_eq_none (by rw [mk_len]; omega), List.getElem?_eq_none (by rw [List.length_set, mk_len]; omega)]
set_option maxRecDepth 100000 in
theorem mk_out (l : List Int) (n j : Nat) (hj : j < l.length) (he : ¬ (0 ≤ l[j] ∧ l[j] < n)) : mk l n (j + 1) = mk l n j := by
  apply List.ext_getElem?
  intro i
  by_cases h : i < n
  · simp only [mk, List.getElem?_map, List.getElem?_range h, Option.map_some]
    congr 3
    rw [mem_take_succ l j hj]
    simp only [eq_iff_iff]
    constructor
    · rintro (h1 | h1)
      · exact h1
      · exact absurd ⟨by omega, by omega⟩ he
    · exact .inl
  · rw [List.getElem?_eq_none (by rw [mk_len]; omega), List.getElem?_eq_none (by rw [mk_len]; omega)]

set_option maxRecDepth 100000 in
set_option maxHeartbeats 1000000 in
theorem marks33 (l : List Int) (v : Value) (n : Nat) (w : World) (hl : IntsAt w w.heap.size v l) (hll : l.length ≤ 1000000) (hn : n ≤ 1000000) :
    Calls Tryz.prog 81 #[v, .int .i64 (n : Int)] w fun e w' => ∃ c, e = .returned (.slice (some ⟨w.heap.size, 0, none⟩) n c) ∧ w'.ownsRow 0 4 1 (.slice (some ⟨w.heap.size, 0, none⟩) n c) n (mk l n l.length) ∧ Below w.heap.size w w' := by
  obtain ⟨i0, hi, hz0, hz1, hz2⟩ := info4
  obtain ⟨w1, hm, ho, hg⟩ := run_make_full (P := Tryz.prog) w 0 141 4 i0 _ 1 Tryz.underlying141 hi hz0 hz1 .i64 .i64 n (by rw [hz2]; omega) (by unfold maxLen; omega) (Nat.zero_le _)
  have hb1 : Below w.heap.size w w1 := (Below.refl _ _).grown hg (Nat.le_refl _) (fun k hk => by cases hk)
  have HO1 : Hid (w1.ownsRow 0 4 1 (.slice (some ⟨w.heap.size, 0, none⟩) n n) n (mk l n 0)) := by
    unfold Hid
    rw [mk_zero]
    have e : (madeCells (Value.bool false).cells (n * 1)).toList = List.replicate n (.bool false) := by
      rw [show (Value.bool false).cells = #[Value.bool false] from rfl, toList_madeCells_one, Nat.mul_one]
    rw [← e]; exact ho
  have HB1 := Lib.hid hb1
  have HL := Lib.hid hl
  obtain ⟨a, c, rfl, -⟩ := hl
  obtain ⟨m, hm2⟩ : ∃ m, l.length = m := ⟨_, rfl⟩
  have HM := Lib.hid hm2
  rw [hm2] at hll
  rw [hm2]
  clear ho hg hb1 hi hz0 hz1 hz2 hm2
  go_enter Tryz.func81, Tryz.ntmps81
  go_wp2
  clear hm
  go_loopw [12] (fun s12 wr => ∃ j : Nat, j ≤ m ∧ s12 = .int .i64 j ∧ Hid (wr.ownsRow 0 4 1 (.slice (some ⟨w.heap.size, 0, none⟩) n n) n (mk l n j)) ∧ Hid (Below w.heap.size w wr)) (fun s12 _ => m - (intOf s12).toNat)
  case atStart => exact ⟨0, by omega, rfl, HO1, HB1⟩
  case round =>
    obtain ⟨j, hj, rfl, HO, HB⟩ := hrel
    by_cases hlt : j < m
    · obtain ⟨a', c', hv, hcells⟩ := (HL.out.below HB.out)
      injection hv with e1 e2 e3
      subst e1
      have hjl : j < l.length := by rw [HM.out]; exact hlt
      obtain ⟨bb, oo, rfl, hblt, hc⟩ := hcells (by omega)
      have hcj := hc j hjl
      have HIN := Lib.hid (mk_in l n j · hjl)
      have HOUT := Lib.hid (mk_out l n j hjl)
      obtain ⟨x, hx⟩ : ∃ x, l[j] = x := ⟨_, rfl⟩
      rw [hx] at hcj HIN HOUT
      clear hc hcells e2 e3 hx hjl
      by_cases h0 : 0 ≤ x
      · by_cases h1 : x < n
        · obtain ⟨k, rfl⟩ : ∃ k : Nat, x = (k : Int) := ⟨x.toNat, by omega⟩
          have hk : k < n := by omega
          have hst := HO.out.stored k (.bool true)
          have HO2 : Hid ((wr.setCell ⟨w.heap.size, k, none⟩ (.bool true)).ownsRow 0 4 1 (.slice (some ⟨w.heap.size, 0, none⟩) n n) n (mk l n (j + 1))) := by
            unfold Hid
            rw [HIN.out k hk rfl]; exact hst.1
          have HB2 : Hid (Below w.heap.size w (wr.setCell ⟨w.heap.size, k, none⟩ (.bool true))) := HB.out.setCell (Nat.le_refl _) _
          have hck := HO.out.cellAt k (by omega)
          have hfk := HO.out.frozenAt k
          obtain ⟨u, hu⟩ : ∃ u, (mk l n j)[k]? = some u := ⟨_, List.getElem?_eq_getElem (by rw [mk_len]; exact hk)⟩
          rw [hu] at hck
          clear hst hu HIN HOUT
          go_wp2
          go_roundw
          case rel => exact ⟨j + 1, by omega, by go_num, HO2, HB2⟩
          case measure => simp [intOf]; omega
        · have t1 : decide (x < (n : Int)) = false := by simp; omega
          have HO2 : Hid (wr.ownsRow 0 4 1 (.slice (some ⟨w.heap.size, 0, none⟩) n n) n (mk l n (j + 1))) := by
            unfold Hid
            rw [HOUT.out (by omega)]; exact HO.out
          clear HIN HOUT h1
          go_wp2
          go_roundw
          case rel => exact ⟨j + 1, by omega, by go_num, HO2, HB⟩
          case measure => simp [intOf]; omega
      · have t1 : decide (0 ≤ x) = false := by simp; omega
        have HO2 : Hid (wr.ownsRow 0 4 1 (.slice (some ⟨w.heap.size, 0, none⟩) n n) n (mk l n (j + 1))) := by
          unfold Hid
          rw [HOUT.out (by omega)]; exact HO.out
        clear HIN HOUT h0
        go_wp2
        go_roundw
        case rel => exact ⟨j + 1, by omega, by go_num, HO2, HB⟩
        case measure => simp [intOf]; omega
    · have hjm : j = m := by omega
      subst hjm
      go_wp2
      go_ret
      exact ⟨n, rfl, HO.out, HB.out⟩

set_option maxRecDepth 100000 in
theorem mk_get (l : List Int) (n k : Nat) (hk : k < n) : (mk l n l.length)[k]? = some (.bool (keepF l k)) := by
  simp only [mk, List.getElem?_map, List.getElem?_range hk, Option.map_some, List.take_length]
  rfl
set_option maxRecDepth 100000 in
theorem PW.keep {w w' : World} {F G : Nat → Prop} {b : Nat} {d : D} {g c : Nat} {v : Value} (h : PW w F b d g c v) (ht : Turn G w w') (hd : ∀ k, F k → ¬ G k) : PW w' F b d g c v :=
  ⟨h.is.keep (fun k hk => ht.block k (h.lt k hk) (hd k hk)), h.ok, fun k hk => Nat.lt_of_lt_of_le (h.lt k hk) ht.size⟩

set_option maxRecDepth 100000 in
set_option maxHeartbeats 1000000 in
theorem crash16 {F : Nat → Prop} {b : Nat} {d : D} {w : World} (h : PAt w F b d) (hw : d.W.length ≤ 1000000) (l : List Int) (lv : Value) (hl : IntsAt w w.heap.size lv l) (hll : l.length ≤ 1000000) :
    Calls Tryz.prog 36 #[.pointer (some ⟨b, 0, none⟩), lv] w fun e w' => e = .returned (.int .i64 0) ∧ PAt w' F b (crashD d l) ∧ Turn F w w' := by
  have HE := Lib.hid (exists26 h)
  have HMK := Lib.hid (marks33 l lv d.W.length w hl hll hw)
  obtain ⟨r, hr⟩ : ∃ r, crashD d l = r := ⟨_, rfl⟩
  rw [hr]
  have HR := Lib.hid hr
  obtain ⟨g, c, v, hpw⟩ := h.pw
  have c1 := hpw.is.c1
  obtain ⟨a, cp, rfl⟩ := row_slice hpw.is.o2
  have HPW := Lib.hid hpw
  have HOK := Lib.hid h.ok
  have HNF : Hid (¬ F w.heap.size) := fun hf => by have := h.lt _ hf; omega
  have hblt := hpw.is.lt
  have hz := zero74.1
  have HZ : Hid (z65c.length = 65) := by unfold Hid; simp [z65c, z64c]
  generalize z65c = Z at hz HZ
  have HI74 := Lib.hid size74
  obtain ⟨lA, lC, rfl, -⟩ := hl
  obtain ⟨ln, hln⟩ : ∃ ln, l.length = ln := ⟨_, rfl⟩
  rw [hln] at HMK
  have HLN := Lib.hid hln
  obtain ⟨m, hm⟩ : ∃ m, d.W.length = m := ⟨_, rfl⟩
  rw [hm] at c1 HMK HPW hw
  have HM := Lib.hid hm
  rw [hln]
  clear hr h hpw hm hll hln
  go_enter Tryz.func36, Tryz.ntmps36
  go_wp2_with fail
  refine HE.out.mono ?_
  rintro e w' ⟨rfl, rfl⟩
  go_wp2_with fail
  refine HMK.out.mono ?_
  rintro e w1 ⟨kc, rfl, ho1, hb1⟩
  have HPW1 : Hid (PW w1 F b { d with S := ap (keepF l) d.S d.W 0 } g c (.slice a m cp)) := HPW.out.below hb1
  have HO1 := Lib.hid ho1
  have HT1 : Hid (Turn F w w1) := Turn.of_below hb1
  have c1' := HPW1.out.is.c1
  have hkb := row_lt ho1 rfl
  clear c1 HPW HE HMK ho1 hb1
  go_wp2
  clear c1'
  go_loopw [23] (fun s23 wr => ∃ k : Nat, k ≤ m ∧ s23 = .int .i64 k ∧ Hid (PW wr F b { d with S := ap (keepF l) d.S d.W k } g c (.slice a m cp)) ∧ Hid (Turn F w wr) ∧ Hid (wr.ownsRow 0 4 1 (.slice (some ⟨w.heap.size, 0, none⟩) m kc) m (mk l m ln))) (fun s23 _ => m - (intOf s23).toNat)
  case atStart => exact ⟨0, by omega, rfl, HPW1, HT1, HO1⟩
  case round =>
    obtain ⟨k, hk, rfl, HP, HT, HO⟩ := hrel
    by_cases hlt : k < m
    · have hk' : k < d.W.length := by rw [HM.out]; exact hlt
      obtain ⟨gp, cp', hv⟩ := row_some HP.out.is.o2 (by show 0 < d.W.length; omega)
      injection hv with hv1 hv2 hv3
      subst hv1
      have HPEN : Hid (wr.rangeAt gp (k * 65) (penC (pw d.W k))) := HP.out.is.pen HM.out.symm HP.out.ok hk'
      have hp64 := HOK.out.w64 _ (pw_mem hk')
      have hb2 : Below wr.heap.size wr ((wr.alloc (.cells Z.toArray 146)).setRow wr.heap.size (penC (pw d.W k)).toArray) := below_setRow ((Below.refl _ _).alloc (Nat.le_refl _) _) (Nat.le_refl _) _
      have hkr : w.heap.size < wr.heap.size := row_lt HO.out rfl
      have hck : wr.cell? ⟨w.heap.size, k, none⟩ = some (.bool (keepF l k)) := by
        rw [HO.out.cellAt k (by omega), ← HLN.out, mk_get l m k hlt]
      have hck2 := (hb2.cell (p := ⟨w.heap.size, k, none⟩) hkr).trans hck
      have HPK := Lib.hid (HP.out.below hb2)
      have HT2 : Hid (Turn F w ((wr.alloc (.cells Z.toArray 146)).setRow wr.heap.size (penC (pw d.W k)).toArray)) := HT.out.trans (Turn.of_below (F := F) hb2) (fun i h => .inl h)
      have HO2 : Hid (((wr.alloc (.cells Z.toArray 146)).setRow wr.heap.size (penC (pw d.W k)).toArray).ownsRow 0 4 1 (.slice (some ⟨w.heap.size, 0, none⟩) m kc) m (mk l m ln)) := row_keep HO.out (fun i hi => by rw [← own_some hi]; exact hb2.block _ hkr)
      have HL : Hid ((penC (pw d.W k)).length = 65) := pens_len HOK.out.w64 _ (pw_mem hk')
      have H1 := Lib.hid (penC_oneCell (pw d.W k))
      have HG2 : Hid (((wr.alloc (.cells Z.toArray 146)).setRow wr.heap.size (penC (pw d.W k)).toArray).heap[wr.heap.size]? = some (.cells (penC (pw d.W k)).toArray 146 (0, 0))) := setRow_heap _ _ _ _ _ _ (heap_alloc_new _ _)
      have HKR : Hid (w.heap.size < ((wr.alloc (.cells Z.toArray 146)).setRow wr.heap.size (penC (pw d.W k)).toArray).heap.size) := Nat.lt_of_lt_of_le hkr hb2.size
      cases hkf : keepF l k with
      | true =>
        rw [hkf] at hck2
        have hset : ({ d with S := ap (keepF l) d.S d.W (k + 1) } : D) = { ({ d with S := ap (keepF l) d.S d.W k } : D) with S := (ap (keepF l) d.S d.W k).set (pw d.W k).1 (pw d.W k).2 } := by
          show (⟨ap (keepF l) d.S d.W (k + 1), _, _, _⟩ : D) = _
          rw [L6.ap, if_pos hkf]
        have hlen : (pw d.W k).1 < ({ d with S := ap (keepF l) d.S d.W k } : D).S.length := by
          show _ < (ap (keepF l) d.S d.W k).length
          rw [ap_length]; exact hp64.1
        have HST := Lib.hid (store34 HPK.out (pw d.W k) hlen hp64.2)
        have HSET := Lib.hid hset
        generalize penC (pw d.W k) = X at HPEN HST HT2 HL H1 HG2 HO2 hck2 HKR
        clear hset hlen hb2 hp64 hk' hv2 hv3 hck HPK hkf
        go_wp2_with (first | (refine wpList_load_mid rfl 146 _ rfl gp (k * 65) rfl X _ HPEN.out Tryz.underlying146 rfl (by rw [HL.out]; exact HI74.out) ?_) | (refine wpList_store_row rfl 146 _ _ rfl wr.heap.size _ rfl rfl 146 _ (heap_alloc_new _ _) (by simpa [HL.out] using HI74.out) (by simp [HL.out, HZ.out]) H1.out ?_) | (refine wpList_load_row rfl 146 _ rfl wr.heap.size rfl 146 _ (0, 0) _ HG2.out Tryz.underlying146 rfl (by simpa [HL.out] using HI74.out) ?_))
        refine HST.out.mono ?_
        rintro e w5 ⟨rfl, hP5, hT5⟩
        rw [← HSET.out] at hP5
        have HP5 := Lib.hid hP5
        have HT5 := Lib.hid (HT2.out.trans hT5 (fun i h => .inl h))
        have HO5 : Hid (w5.ownsRow 0 4 1 (.slice (some ⟨w.heap.size, 0, none⟩) m kc) m (mk l m ln)) := row_keep HO2.out (fun i hi => (own_some hi) ▸ hT5.block _ HKR.out HNF.out)
        clear hP5 hT5
        go_wp2
        go_roundw
        case rel => exact ⟨k + 1, by omega, by go_num, HP5, HT5, HO5⟩
        case measure => simp [intOf]; omega
      | false =>
        rw [hkf] at hck2
        have hset : ({ d with S := ap (keepF l) d.S d.W (k + 1) } : D) = { d with S := ap (keepF l) d.S d.W k } := by
          show (⟨ap (keepF l) d.S d.W (k + 1), _, _, _⟩ : D) = _
          rw [L6.ap, if_neg (by rw [hkf]; exact Bool.false_ne_true)]
        rw [← hset] at HPK
        generalize penC (pw d.W k) = X at HPEN HPK HT2 HL H1 HG2 HO2 hck2 HKR
        clear hset hb2 hp64 hk' hv2 hv3 hck hkf HG2
        go_wp2_with (first | (refine wpList_load_mid rfl 146 _ rfl gp (k * 65) rfl X _ HPEN.out Tryz.underlying146 rfl (by rw [HL.out]; exact HI74.out) ?_) | (refine wpList_store_row rfl 146 _ _ rfl wr.heap.size _ rfl rfl 146 _ (heap_alloc_new _ _) (by simpa [HL.out] using HI74.out) (by simp [HL.out, HZ.out]) H1.out ?_))
        go_roundw
        case rel => exact ⟨k + 1, by omega, by go_num, HPK, HT2, HO2⟩
        case measure => simp [intOf]; omega
    · have hkm : k = m := by omega
      subst hkm
      have c1 := HP.out.is.c1
      have c2 := HP.out.is.c2
      have c3 := HP.out.is.c3
      have f1 := HP.out.is.fr 1
      have f2 := HP.out.is.fr 2
      have f3 := HP.out.is.fr 3
      have HFIN : Hid (PAt (((wr.setCell ⟨b, 1, none⟩ (.slice none 0 0)).setCell ⟨b, 2, none⟩ (.int .i64 (-1))).setCell ⟨b, 3, none⟩ (.bool false)) F b r ∧ Turn F w (((wr.setCell ⟨b, 1, none⟩ (.slice none 0 0)).setCell ⟨b, 2, none⟩ (.int .i64 (-1))).setCell ⟨b, 3, none⟩ (.bool false))) := by
        have g1 := heap_setCell_same wr b 1 _ _ (.slice none 0 0) HP.out.is.row
        have g2 := heap_setCell_same _ b 2 _ _ (.int .i64 (-1)) g1
        have g3 := heap_setCell_same _ b 3 _ _ (.bool false) g2
        have er : r = ⟨ap (keepF l) d.S d.W k, [], -1, false⟩ := by rw [← HR.out, crashD, HM.out]
        refine ⟨⟨⟨g, c, .slice none 0 0, ?_⟩, ?_, fun i hi => by simpa [World.setCell] using HP.out.lt i hi⟩, ((HT.out.setCell _ _ (.inl HP.out.is.fb)).setCell _ _ (.inl HP.out.is.fb)).setCell _ _ (.inl HP.out.is.fb)⟩
        · rw [er]
          refine HP.out.is.wipe (-1) false ?_ (fun i hi => by rw [Below.heap_setCell _ _ _ _ hi, Below.heap_setCell _ _ _ _ hi, Below.heap_setCell _ _ _ _ hi])
          rw [g3]; rfl
        · rw [er]
          have ho := HP.out.ok
          exact ⟨ho.n1, ho.n2, ho.s64, fun p hp => by simp at hp, by simp, by simp, fun h => by cases h⟩
      clear HP HT HO hlt
      go_wp2
      go_ret
      exact ⟨rfl, HFIN.out.1, HFIN.out.2⟩
end Go.Proofs.YtjanddnlhaionaaGreatDoor.L6
