/-
  Contracts of marks and Crash. No condition. Contract of Write. No condition. Contracts of Write (whole), New. No condition. Contract of Copy. No condition. A drum all of whose memory is new: the contracts again; the document's example. No condition. The document's drum in memory; contracts of its burnt, Arm, Sure, Shows, Read. No condition. The reader in memory; contracts of expects, take, visit. No condition.
-/
import Derived.Test.YtjanddnlhaionaaGreatDoorL6x1
import Derived.Great.BuildSlice
import Derived.Deep.RegionLaw
import Derived.OwnWalk
import Derived.Deep.Cut
import Derived.Deep.DeepMust
import Derived.Lib.AppendStr
set_option maxRecDepth 100000
namespace Go.Proofs.YtjanddnlhaionaaGreatDoor.L6
open Go.RowKit

/-- v is a slice of ints that reads l, in a block below B. -/
def IntsAt (w : World) (B : Nat) (v : Value) (l : List Int) : Prop :=
  ∃ a c, v = .slice a l.length c ∧ (0 < l.length → ∃ b o, a = some ⟨b, o, none⟩ ∧ b < B ∧ ∀ i (h : i < l.length), w.cell? ⟨b, o + i, none⟩ = some (.int .i64 l[i]))
theorem IntsAt.below {w w' : World} {B : Nat} {v : Value} {l : List Int} (h : IntsAt w B v l) (hb : Below B w w') : IntsAt w' B v l := by
  obtain ⟨a, c, rfl, h⟩ := h
  refine ⟨a, c, rfl, fun h0 => ?_⟩
  obtain ⟨b, o, rfl, hlt, hc⟩ := h h0
  exact ⟨b, o, rfl, hlt, fun i hi => by rw [hb.cell (p := ⟨b, o + i, none⟩) hlt]; exact hc i hi⟩
theorem IntsAt.nil (w : World) (B : Nat) : IntsAt w B (.slice none 0 0) [] := ⟨none, 0, rfl, fun h => by simp at h⟩

theorem Tryz.info4 : (Tryz.prog.info? 4).map (fun i => (i.zero, i.size, i.bytes)) = some (some (.bool false), 1, 1) := by kernel_rfl
theorem info4 : ∃ i, Tryz.prog.info? 4 = some i ∧ i.zero = some (.bool false) ∧ i.size = 1 ∧ i.bytes = 1 := by
  have h := Tryz.info4
  cases hq : Tryz.prog.info? 4 with
  | none => simp [hq] at h
  | some i =>
    simp [hq] at h
    exact ⟨i, rfl, h.1, h.2.1, h.2.2⟩

/-- The marks of the first j of the list. -/
def mk (l : List Int) (n j : Nat) : List Value := (List.range n).map fun k : Nat => .bool (decide ((k : Int) ∈ l.take j))
theorem mk_len (l : List Int) (n j : Nat) : (mk l n j).length = n := by simp [mk]
theorem mk_zero (l : List Int) (n : Nat) : mk l n 0 = List.replicate n (.bool false) := by
  apply List.ext_getElem?
  intro i
  by_cases h : i < n
  · simp [mk, h]
  · simp [mk, h]
theorem mem_take_succ (l : List Int) (j : Nat) (hj : j < l.length) (x : Int) : x ∈ l.take (j + 1) ↔ x ∈ l.take j ∨ x = l[j] := by
  rw [List.take_succ_eq_append_getElem hj, List.mem_append, List.mem_singleton]
theorem mk_in (l : List Int) (n j k : Nat) (hj : j < l.length) (hk : k < n) (he : l[j] = (k : Int)) : mk l n (j + 1) = (mk l n j).set k (.bool true) := by
  apply List.ext_getElem?
  intro i
  by_cases h : i < n
  · rw [List.getElem?_set]
    by_cases hik : k = i
    · subst hik
      rw [if_pos rfl, if_pos (by rw [mk_len]; exact hk)]
      simp only [mk, List.getElem?_map, List.getElem?_range h, Option.map_some]
      congr 2
      rw [decide_eq_true_eq, mem_take_succ l j hj]
      exact .inr he.symm
    · rw [if_neg hik]
      simp only [mk, List.getElem?_map, List.getElem?_range h, Option.map_some]
      congr 3
      rw [mem_take_succ l j hj, he]
      simp only [eq_iff_iff]
      constructor
      · rintro (h1 | h1)
        · exact h1
        · exact absurd (by omega) hik
      · exact .inl
  · rw [List.getElem?_eq_none (by rw [mk_len]; omega), List.getElem?_eq_none (by rw [List.length_set, mk_len]; omega)]
theorem mk_out (l : List Int) (n j : Nat) (hj : j < l.length) (he : ¬ (0 ≤ l[j] ∧ l[j] < n)) : mk l n (j + 1) = mk l n j := by
  apply List.ext_getElem?
  intro i
  by_cases h : i < n
  · simp only [mk, List.getElem?_map, List.getElem?_range h, Option.map_some]
    congr 3
    rw [mem_take_succ l j hj]
    simp only [eq_iff_iff]
    constructor
    · rintro (h1 | h1)
      · exact h1
      · exact absurd ⟨by omega, by omega⟩ he
    · exact .inl
  · rw [List.getElem?_eq_none (by rw [mk_len]; omega), List.getElem?_eq_none (by rw [mk_len]; omega)]

set_option maxHeartbeats 1000000 in
theorem marks33 (l : List Int) (v : Value) (n : Nat) (w : World) (hl : IntsAt w w.heap.size v l) (hll : l.length ≤ 1000000) (hn : n ≤ 1000000) :
    Calls Tryz.prog 81 #[v, .int .i64 (n : Int)] w fun e w' => ∃ c, e = .returned (.slice (some ⟨w.heap.size, 0, none⟩) n c) ∧ w'.ownsRow 0 4 1 (.slice (some ⟨w.heap.size, 0, none⟩) n c) n (mk l n l.length) ∧ Below w.heap.size w w' := by
  obtain ⟨i0, hi, hz0, hz1, hz2⟩ := info4
  obtain ⟨w1, hm, ho, hg⟩ := run_make_full (P := Tryz.prog) w 0 141 4 i0 _ 1 Tryz.underlying141 hi hz0 hz1 .i64 .i64 n (by rw [hz2]; omega) (by unfold maxLen; omega) (Nat.zero_le _)
  have hb1 : Below w.heap.size w w1 := (Below.refl _ _).grown hg (Nat.le_refl _) (fun k hk => by cases hk)
  have HO1 : Hid (w1.ownsRow 0 4 1 (.slice (some ⟨w.heap.size, 0, none⟩) n n) n (mk l n 0)) := by
    unfold Hid
    rw [mk_zero]
    have e : (madeCells (Value.bool false).cells (n * 1)).toList = List.replicate n (.bool false) := by
      rw [show (Value.bool false).cells = #[Value.bool false] from rfl, toList_madeCells_one, Nat.mul_one]
    rw [← e]; exact ho
  have HB1 := Lib.hid hb1
  have HL := Lib.hid hl
  obtain ⟨a, c, rfl, -⟩ := hl
  obtain ⟨m, hm2⟩ : ∃ m, l.length = m := ⟨_, rfl⟩
  have HM := Lib.hid hm2
  rw [hm2] at hll
  rw [hm2]
  clear ho hg hb1 hi hz0 hz1 hz2 hm2
  go_enter Tryz.func81, Tryz.ntmps81
  go_wp2
  clear hm
  go_loopw [12] (fun s12 wr => ∃ j : Nat, j ≤ m ∧ s12 = .int .i64 j ∧ Hid (wr.ownsRow 0 4 1 (.slice (some ⟨w.heap.size, 0, none⟩) n n) n (mk l n j)) ∧ Hid (Below w.heap.size w wr)) (fun s12 _ => m - (intOf s12).toNat)
  case atStart => exact ⟨0, by omega, rfl, HO1, HB1⟩
  case round =>
    obtain ⟨j, hj, rfl, HO, HB⟩ := hrel
    by_cases hlt : j < m
    · obtain ⟨a', c', hv, hcells⟩ := (HL.out.below HB.out)
      injection hv with e1 e2 e3
      subst e1
      have hjl : j < l.length := by rw [HM.out]; exact hlt
      obtain ⟨bb, oo, rfl, hblt, hc⟩ := hcells (by omega)
      have hcj := hc j hjl
      have HIN := Lib.hid (mk_in l n j · hjl)
      have HOUT := Lib.hid (mk_out l n j hjl)
      obtain ⟨x, hx⟩ : ∃ x, l[j] = x := ⟨_, rfl⟩
      rw [hx] at hcj HIN HOUT
      clear hc hcells e2 e3 hx hjl
      by_cases h0 : 0 ≤ x
      · by_cases h1 : x < n
        · obtain ⟨k, rfl⟩ : ∃ k : Nat, x = (k : Int) := ⟨x.toNat, by omega⟩
          have hk : k < n := by omega
          have hst := HO.out.stored k (.bool true)
          have HO2 : Hid ((wr.setCell ⟨w.heap.size, k, none⟩ (.bool true)).ownsRow 0 4 1 (.slice (some ⟨w.heap.size, 0, none⟩) n n) n (mk l n (j + 1))) := by
            unfold Hid
            rw [HIN.out k hk rfl]; exact hst.1
          have HB2 : Hid (Below w.heap.size w (wr.setCell ⟨w.heap.size, k, none⟩ (.bool true))) := HB.out.setCell (Nat.le_refl _) _
          have hck := HO.out.cellAt k (by omega)
          have hfk := HO.out.frozenAt k
          obtain ⟨u, hu⟩ : ∃ u, (mk l n j)[k]? = some u := ⟨_, List.getElem?_eq_getElem (by rw [mk_len]; exact hk)⟩
          rw [hu] at hck
          clear hst hu HIN HOUT
          go_wp2
          go_roundw
          case rel => exact ⟨j + 1, by omega, by go_num, HO2, HB2⟩
          case measure => simp [intOf]; omega
        · have t1 : decide (x < (n : Int)) = false := by simp; omega
          have HO2 : Hid (wr.ownsRow 0 4 1 (.slice (some ⟨w.heap.size, 0, none⟩) n n) n (mk l n (j + 1))) := by
            unfold Hid
            rw [HOUT.out (by omega)]; exact HO.out
          clear HIN HOUT h1
          go_wp2
          go_roundw
          case rel => exact ⟨j + 1, by omega, by go_num, HO2, HB⟩
          case measure => simp [intOf]; omega
      · have t1 : decide (0 ≤ x) = false := by simp; omega
        have HO2 : Hid (wr.ownsRow 0 4 1 (.slice (some ⟨w.heap.size, 0, none⟩) n n) n (mk l n (j + 1))) := by
          unfold Hid
          rw [HOUT.out (by omega)]; exact HO.out
        clear HIN HOUT h0
        go_wp2
        go_roundw
        case rel => exact ⟨j + 1, by omega, by go_num, HO2, HB⟩
        case measure => simp [intOf]; omega
    · have hjm : j = m := by omega
      subst hjm
      go_wp2
      go_ret
      exact ⟨n, rfl, HO.out, HB.out⟩

theorem mk_get (l : List Int) (n k : Nat) (hk : k < n) : (mk l n l.length)[k]? = some (.bool (keepF l k)) := by
  simp only [mk, List.getElem?_map, List.getElem?_range hk, Option.map_some, List.take_length]
  rfl
set_option maxHeartbeats 1000000 in
theorem crash16 {F : Nat → Prop} {b : Nat} {d : D} {w : World} (h : PAt w F b d) (hw : d.W.length ≤ 1000000) (l : List Int) (lv : Value) (hl : IntsAt w w.heap.size lv l) (hll : l.length ≤ 1000000) :
    Calls Tryz.prog 36 #[.pointer (some ⟨b, 0, none⟩), lv] w fun e w' => e = .returned (.int .i64 0) ∧ PAt w' F b (crashD d l) ∧ Turn F w w' := by
  have HE := Lib.hid (exists26 h)
  have HMK := Lib.hid (marks33 l lv d.W.length w hl hll hw)
  obtain ⟨r, hr⟩ : ∃ r, crashD d l = r := ⟨_, rfl⟩
  rw [hr]
  have HR := Lib.hid hr
  obtain ⟨g, c, v, hpw⟩ := h.pw
  have c1 := hpw.is.c1
  obtain ⟨a, cp, rfl⟩ := row_slice hpw.is.o2
  have HPW := Lib.hid hpw
  have HOK := Lib.hid h.ok
  have HNF : Hid (¬ F w.heap.size) := fun hf => by have := h.lt _ hf; omega
  have hblt := hpw.is.lt
  have hz := zero74.1
  have HZ : Hid (z65c.length = 65) := by unfold Hid; simp [z65c, z64c]
  generalize z65c = Z at hz HZ
  have HI74 := Lib.hid size74
  obtain ⟨lA, lC, rfl, -⟩ := hl
  obtain ⟨ln, hln⟩ : ∃ ln, l.length = ln := ⟨_, rfl⟩
  rw [hln] at HMK
  have HLN := Lib.hid hln
  obtain ⟨m, hm⟩ : ∃ m, d.W.length = m := ⟨_, rfl⟩
  rw [hm] at c1 HMK HPW hw
  have HM := Lib.hid hm
  rw [hln]
  clear hr h hpw hm hll hln
  go_enter Tryz.func36, Tryz.ntmps36
  go_wp2_with fail
  refine HE.out.mono ?_
  rintro e w' ⟨rfl, rfl⟩
  go_wp2_with fail
  refine HMK.out.mono ?_
  rintro e w1 ⟨kc, rfl, ho1, hb1⟩
  have HPW1 : Hid (PW w1 F b { d with S := ap (keepF l) d.S d.W 0 } g c (.slice a m cp)) := HPW.out.below hb1
  have HO1 := Lib.hid ho1
  have HT1 : Hid (Turn F w w1) := Turn.of_below hb1
  have c1' := HPW1.out.is.c1
  have hkb := row_lt ho1 rfl
  clear c1 HPW HE HMK ho1 hb1
  go_wp2
  clear c1'
  go_loopw [23] (fun s23 wr => ∃ k : Nat, k ≤ m ∧ s23 = .int .i64 k ∧ Hid (PW wr F b { d with S := ap (keepF l) d.S d.W k } g c (.slice a m cp)) ∧ Hid (Turn F w wr) ∧ Hid (wr.ownsRow 0 4 1 (.slice (some ⟨w.heap.size, 0, none⟩) m kc) m (mk l m ln))) (fun s23 _ => m - (intOf s23).toNat)
  case atStart => exact ⟨0, by omega, rfl, HPW1, HT1, HO1⟩
  case round =>
    obtain ⟨k, hk, rfl, HP, HT, HO⟩ := hrel
    by_cases hlt : k < m
    · have hk' : k < d.W.length := by rw [HM.out]; exact hlt
      obtain ⟨gp, cp', hv⟩ := row_some HP.out.is.o2 (by show 0 < d.W.length; omega)
      injection hv with hv1 hv2 hv3
      subst hv1
      have HPEN : Hid (wr.rangeAt gp (k * 65) (penC (pw d.W k))) := HP.out.is.pen HM.out.symm HP.out.ok hk'
      have hp64 := HOK.out.w64 _ (pw_mem hk')
      have hb2 : Below wr.heap.size wr ((wr.alloc (.cells Z.toArray 146)).setRow wr.heap.size (penC (pw d.W k)).toArray) := below_setRow ((Below.refl _ _).alloc (Nat.le_refl _) _) (Nat.le_refl _) _
      have hkr : w.heap.size < wr.heap.size := row_lt HO.out rfl
      have hck : wr.cell? ⟨w.heap.size, k, none⟩ = some (.bool (keepF l k)) := by
        rw [HO.out.cellAt k (by omega), ← HLN.out, mk_get l m k hlt]
      have hck2 := (hb2.cell (p := ⟨w.heap.size, k, none⟩) hkr).trans hck
      have HPK := Lib.hid (HP.out.below hb2)
      have HT2 : Hid (Turn F w ((wr.alloc (.cells Z.toArray 146)).setRow wr.heap.size (penC (pw d.W k)).toArray)) := HT.out.trans (Turn.of_below (F := F) hb2) (fun i h => .inl h)
      have HO2 : Hid (((wr.alloc (.cells Z.toArray 146)).setRow wr.heap.size (penC (pw d.W k)).toArray).ownsRow 0 4 1 (.slice (some ⟨w.heap.size, 0, none⟩) m kc) m (mk l m ln)) := row_keep HO.out (fun i hi => by rw [← own_some hi]; exact hb2.block _ hkr)
      have HL : Hid ((penC (pw d.W k)).length = 65) := pens_len HOK.out.w64 _ (pw_mem hk')
      have H1 := Lib.hid (penC_oneCell (pw d.W k))
      have HG2 : Hid (((wr.alloc (.cells Z.toArray 146)).setRow wr.heap.size (penC (pw d.W k)).toArray).heap[wr.heap.size]? = some (.cells (penC (pw d.W k)).toArray 146 (0, 0))) := setRow_heap _ _ _ _ _ _ (heap_alloc_new _ _)
      have HKR : Hid (w.heap.size < ((wr.alloc (.cells Z.toArray 146)).setRow wr.heap.size (penC (pw d.W k)).toArray).heap.size) := Nat.lt_of_lt_of_le hkr hb2.size
      cases hkf : keepF l k with
      | true =>
        rw [hkf] at hck2
        have hset : ({ d with S := ap (keepF l) d.S d.W (k + 1) } : D) = { ({ d with S := ap (keepF l) d.S d.W k } : D) with S := (ap (keepF l) d.S d.W k).set (pw d.W k).1 (pw d.W k).2 } := by
          show (⟨ap (keepF l) d.S d.W (k + 1), _, _, _⟩ : D) = _
          rw [L6.ap, if_pos hkf]
        have hlen : (pw d.W k).1 < ({ d with S := ap (keepF l) d.S d.W k } : D).S.length := by
          show _ < (ap (keepF l) d.S d.W k).length
          rw [ap_length]; exact hp64.1
        have HST := Lib.hid (store34 HPK.out (pw d.W k) hlen hp64.2)
        have HSET := Lib.hid hset
        generalize penC (pw d.W k) = X at HPEN HST HT2 HL H1 HG2 HO2 hck2 HKR
        clear hset hlen hb2 hp64 hk' hv2 hv3 hck HPK hkf
        go_wp2_with (first | (refine wpList_load_mid rfl 146 _ rfl gp (k * 65) rfl X _ HPEN.out Tryz.underlying146 rfl (by rw [HL.out]; exact HI74.out) ?_) | (refine wpList_store_row rfl 146 _ _ rfl wr.heap.size _ rfl rfl 146 _ (heap_alloc_new _ _) (by simpa [HL.out] using HI74.out) (by simp [HL.out, HZ.out]) H1.out ?_) | (refine wpList_load_row rfl 146 _ rfl wr.heap.size rfl 146 _ (0, 0) _ HG2.out Tryz.underlying146 rfl (by simpa [HL.out] using HI74.out) ?_))
        refine HST.out.mono ?_
        rintro e w5 ⟨rfl, hP5, hT5⟩
        rw [← HSET.out] at hP5
        have HP5 := Lib.hid hP5
        have HT5 := Lib.hid (HT2.out.trans hT5 (fun i h => .inl h))
        have HO5 : Hid (w5.ownsRow 0 4 1 (.slice (some ⟨w.heap.size, 0, none⟩) m kc) m (mk l m ln)) := row_keep HO2.out (fun i hi => (own_some hi) ▸ hT5.block _ HKR.out HNF.out)
        clear hP5 hT5
        go_wp2
        go_roundw
        case rel => exact ⟨k + 1, by omega, by go_num, HP5, HT5, HO5⟩
        case measure => simp [intOf]; omega
      | false =>
        rw [hkf] at hck2
        have hset : ({ d with S := ap (keepF l) d.S d.W (k + 1) } : D) = { d with S := ap (keepF l) d.S d.W k } := by
          show (⟨ap (keepF l) d.S d.W (k + 1), _, _, _⟩ : D) = _
          rw [L6.ap, if_neg (by rw [hkf]; exact Bool.false_ne_true)]
        rw [← hset] at HPK
        generalize penC (pw d.W k) = X at HPEN HPK HT2 HL H1 HG2 HO2 hck2 HKR
        clear hset hb2 hp64 hk' hv2 hv3 hck hkf HG2
        go_wp2_with (first | (refine wpList_load_mid rfl 146 _ rfl gp (k * 65) rfl X _ HPEN.out Tryz.underlying146 rfl (by rw [HL.out]; exact HI74.out) ?_) | (refine wpList_store_row rfl 146 _ _ rfl wr.heap.size _ rfl rfl 146 _ (heap_alloc_new _ _) (by simpa [HL.out] using HI74.out) (by simp [HL.out, HZ.out]) H1.out ?_))
        go_roundw
        case rel => exact ⟨k + 1, by omega, by go_num, HPK, HT2, HO2⟩
        case measure => simp [intOf]; omega
    · have hkm : k = m := by omega
      subst hkm
      have c1 := HP.out.is.c1
      have c2 := HP.out.is.c2
      have c3 := HP.out.is.c3
      have f1 := HP.out.is.fr 1
      have f2 := HP.out.is.fr 2
      have f3 := HP.out.is.fr 3
      have HFIN : Hid (PAt (((wr.setCell ⟨b, 1, none⟩ (.slice none 0 0)).setCell ⟨b, 2, none⟩ (.int .i64 (-1))).setCell ⟨b, 3, none⟩ (.bool false)) F b r ∧ Turn F w (((wr.setCell ⟨b, 1, none⟩ (.slice none 0 0)).setCell ⟨b, 2, none⟩ (.int .i64 (-1))).setCell ⟨b, 3, none⟩ (.bool false))) := by
        have g1 := heap_setCell_same wr b 1 _ _ (.slice none 0 0) HP.out.is.row
        have g2 := heap_setCell_same _ b 2 _ _ (.int .i64 (-1)) g1
        have g3 := heap_setCell_same _ b 3 _ _ (.bool false) g2
        have er : r = ⟨ap (keepF l) d.S d.W k, [], -1, false⟩ := by rw [← HR.out, crashD, HM.out]
        refine ⟨⟨⟨g, c, .slice none 0 0, ?_⟩, ?_, fun i hi => by simpa [World.setCell] using HP.out.lt i hi⟩, ((HT.out.setCell _ _ (.inl HP.out.is.fb)).setCell _ _ (.inl HP.out.is.fb)).setCell _ _ (.inl HP.out.is.fb)⟩
        · rw [er]
          refine HP.out.is.wipe (-1) false ?_ (fun i hi => by rw [Below.heap_setCell _ _ _ _ hi, Below.heap_setCell _ _ _ _ hi, Below.heap_setCell _ _ _ _ hi])
          rw [g3]; rfl
        · rw [er]
          have ho := HP.out.ok
          exact ⟨ho.n1, ho.n2, ho.s64, fun p hp => by simp at hp, by simp, by simp, fun h => by cases h⟩
      clear HP HT HO hlt
      go_wp2
      go_ret
      exact ⟨rfl, HFIN.out.1, HFIN.out.2⟩
end Go.Proofs.YtjanddnlhaionaaGreatDoor.L6
namespace Go.Proofs.YtjanddnlhaionaaGreatDoor.L6
open Go.RowKit

theorem built74 (parts : List (Nat × Value)) : Tryz.prog.built 146 parts = Instr.fill (#[(0, 1), (1, 64)][·]?) z65c.toArray parts := by kernel_rfl
theorem fill_two (x : Int) (X : Array Value) (hX : X.size = 64) : Instr.fill (#[(0, 1), (1, 64)][·]?) z65c.toArray [(0, .int .i64 x), (1, .agg X)] = some (#[.int .i64 x] ++ X) := by
  have hz : z65c.toArray.size = 65 := by simp [z65c, z64c]
  have h0 : (Value.int .i64 x).cells = #[.int .i64 x] := rfl
  have h1 : (Value.agg X).cells = X := rfl
  have e1 : ((Value.int .i64 x).cells.zipIdx.foldl (fun cs (c, j) => cs.setIfInBounds (0 + j) c) z65c.toArray) = z65c.toArray.setIfInBounds 0 (.int .i64 x) := by
    rw [h0]; rfl
  rw [Instr.fill]
  simp only [show (#[(0, 1), (1, 64)] : Array (Nat × Nat))[0]? = some (0, 1) from rfl]
  rw [if_neg (by rw [h0, hz]; simp), e1, Instr.fill]
  simp only [show (#[(0, 1), (1, 64)] : Array (Nat × Nat))[1]? = some (1, 64) from rfl]
  rw [if_neg (by rw [h1, hX, Array.size_setIfInBounds, hz]; decide), Instr.fill, h1]
  congr 1
  rw [← Array.foldl_toList, Array.toList_zipIdx]
  obtain ⟨k1, k2⟩ := Great.foldl_set 1 X.toList 0 (z65c.toArray.setIfInBounds 0 (.int .i64 x))
  apply Array.ext_getElem?
  intro k
  rw [k2 k, Array.size_setIfInBounds, hz, Array.length_toList, hX]
  rw [Array.getElem?_append]
  by_cases hk0 : k = 0
  · subst hk0
    rw [if_neg (by omega), if_pos (by simp)]
    rfl
  · by_cases hk : k < 65
    · rw [if_pos (by omega), if_neg (by simp; omega)]
      simp
    · rw [if_neg (by omega), if_neg (by simp; omega)]
      rw [Array.getElem?_eq_none (by rw [Array.size_setIfInBounds, hz]; omega), Array.getElem?_eq_none (by simp; omega)]

theorem penC_arr (k : Nat) (s : ByteArray) : (penC (k, s)).toArray = #[.int .i64 (k : Int)] ++ (secC s).toArray := by simp [penC]
theorem run_build74 (k : Nat) (s : ByteArray) (hs : s.size = 64) (w : World) : (Instr.build 146 #[(0, .int .i64 (k : Int)), (1, .agg (secC s).toArray)]).run Tryz.prog w = .ok (.agg (penC (k, s)).toArray) w := by
  refine run_build w 146 _ _ ?_
  rw [built74, penC_arr]
  exact fill_two _ _ (by simp [secC_len, hs])
theorem Tryz.info146 : (Tryz.prog.info? 146).map (fun i => (i.zero, i.size, i.bytes)) = some (some (.agg z65c.toArray), 65, 72) := by kernel_rfl
theorem info74 : ∃ i, Tryz.prog.info? 146 = some i ∧ i.zero = some (.agg z65c.toArray) ∧ i.size = 65 ∧ i.bytes = 72 := by
  have h := Tryz.info146
  cases hq : Tryz.prog.info? 146 with
  | none => simp [hq] at h
  | some i =>
    simp [hq] at h
    exact ⟨i, rfl, h.1, h.2.1, h.2.2⟩
theorem run_lit56 (Y : Array Value) (hY : Y.size = 65) (w : World) : (Instr.buildSlice 118 1 #[(0, .agg Y)]).run Tryz.prog w = .ok (.slice (some ⟨w.heap.size, 0, none⟩) 1 1) (w.alloc (.cells Y 146)) := by
  obtain ⟨i, hi, hz, hsz, _⟩ := info74
  refine run_buildSlice w 118 146 1 _ Y i _ Tryz.underlying118 hi hz (by rw [hsz]; decide) (by rw [hsz]; decide) ?_
  rw [hsz]
  have := Great.fill_whole (s := 65) (by omega) [.agg Y] ((Array.range (1 * 65)).map ((Value.agg z65c.toArray).cells[· % (Value.agg z65c.toArray).cells.size]!)) (fun v hv => by
    have : v = .agg Y := by simpa using hv
    subst this; exact hY) (by simp)
  have e : (([Value.agg Y]).flatMap fun v => v.cells.toList).toArray = Y := by
    show (Y.toList ++ []).toArray = Y
    simp
  rw [e] at this
  exact this

/-- One pending write more. -/
theorem PIs.more1 {w w' : World} {F G : Nat → Prop} {b : Nat} {d : D} {g c : Nat} {v v' : Value} (h : PIs w F b d g c v) (p : Nat × ByteArray)
    (hr : w'.heap[b]? = some (.cells #[.slice (some ⟨g, 0, none⟩) d.S.length c, v', .int .i64 d.fuse, .bool d.gone] 120 (0, 0)))
    (ho : w'.ownsRow 0 146 65 v' (d.W.length + 1) (penCells d.W ++ penC p)) (hk : w'.heap[g]? = w.heap[g]?) (hG : ∀ k, F k → G k) (hv : ∀ k, v'.ownBlock = some k → G k) (n2 : v'.ownBlock ≠ some b) (n12 : v'.ownBlock ≠ some g) : PIs w' G b { d with W := d.W ++ [p] } g c v' := by
  refine ⟨hr, row_keep h.o1 (fun k hk' => own_some hk' ▸ hk), ?_, h.n1, n2, n12, hG _ h.fb, hG _ h.f1, hv⟩
  show w'.ownsRow 0 146 65 v' (d.W ++ [p]).length (penCells (d.W ++ [p]))
  have e : penCells (d.W ++ [p]) = penCells d.W ++ penC p := by simp [penCells]
  rw [List.length_append, e]
  exact ho

theorem fold74 (k : Nat) (X : Array Value) (hX : X.size = 64) : Array.foldl (fun cs (x : Value × Nat) => cs.setIfInBounds (1 + x.2) x.1) (z65c.toArray.setIfInBounds 0 (.int .i64 (k : Int))) X.zipIdx 0 64 = #[.int .i64 (k : Int)] ++ X := by
  have hz : z65c.toArray.size = 65 := by simp [z65c, z64c]
  have e : Array.foldl (fun cs (x : Value × Nat) => cs.setIfInBounds (1 + x.2) x.1) (z65c.toArray.setIfInBounds 0 (.int .i64 (k : Int))) X.zipIdx 0 64 = Array.foldl (fun cs (x : Value × Nat) => cs.setIfInBounds (1 + x.2) x.1) (z65c.toArray.setIfInBounds 0 (.int .i64 (k : Int))) X.zipIdx := by
    rw [show (64 : Nat) = X.zipIdx.size by simp [hX]]
  rw [e, ← Array.foldl_toList, Array.toList_zipIdx]
  obtain ⟨k1, k2⟩ := Great.foldl_set 1 X.toList 0 (z65c.toArray.setIfInBounds 0 (.int .i64 (k : Int)))
  apply Array.ext_getElem?
  intro j
  rw [k2 j, Array.size_setIfInBounds, hz, Array.length_toList, hX, Array.getElem?_append]
  by_cases hk0 : j = 0
  · subst hk0
    rw [if_neg (by omega), if_pos (by simp)]
    rfl
  · by_cases hk : j < 65
    · rw [if_pos (by omega), if_neg (by simp; omega)]
      simp
    · rw [if_neg (by omega), if_neg (by simp; omega)]
      rw [Array.getElem?_eq_none (by rw [Array.size_setIfInBounds, hz]; omega), Array.getElem?_eq_none (by simp; omega)]
theorem fold_all (Y : Array Value) (hY : Y.size = 65) (cs : Array Value) (hc : cs.size = 65) : Array.foldl (fun cs (x : Value × Nat) => cs.setIfInBounds x.2 x.1) cs Y.zipIdx 0 65 = Y := by
  have e : Array.foldl (fun cs (x : Value × Nat) => cs.setIfInBounds x.2 x.1) cs Y.zipIdx 0 65 = Array.foldl (fun cs (x : Value × Nat) => cs.setIfInBounds (0 + x.2) x.1) cs Y.zipIdx := by
    rw [show (65 : Nat) = Y.zipIdx.size by simp [hY]]
    simp
  rw [e, ← Array.foldl_toList, Array.toList_zipIdx]
  obtain ⟨k1, k2⟩ := Great.foldl_set 0 Y.toList 0 cs
  apply Array.ext_getElem?
  intro j
  rw [k2 j, Array.length_toList, hY, hc]
  by_cases hk : j < 65
  · rw [if_pos (by omega)]
    simp
  · rw [if_neg (by omega), Array.getElem?_eq_none (by omega), Array.getElem?_eq_none (by omega)]
set_option maxHeartbeats 1000000 in
theorem write18_go {F : Nat → Prop} {b : Nat} {d : D} {w : World} (h : PAt w F b d) (k : Nat) (s : ByteArray) (hw : d.W.length ≤ 1000000) (hok : writeOk d (k : Int) s = true) (hgo : (burn d).gone = false) :
    Calls Tryz.prog 199 #[.pointer (some ⟨b, 0, none⟩), .int .i64 (k : Int), .string s] w fun e w' => e = .returned (.int .i64 0) ∧ PAt w' (Up F w w') b { burn d with W := d.W ++ [(k, s)] } ∧ Turn F w w' := by
  have HE := Lib.hid (exists26 h)
  have HH := Lib.hid (has35 h (k : Int))
  have HSP := Lib.hid (spend37 h)
  rw [hgo] at HSP
  have hok' := hok
  unfold writeOk at hok'
  rw [Bool.and_eq_true, decide_eq_true_eq] at hok'
  obtain ⟨hk, hs⟩ := hok'
  rw [hk] at HH
  have hkr := hasB_iff.1 hk
  have HK : Hid (k < d.S.length) := by unfold Hid; omega
  have t64 : ((s.size : Int) != 64) = false := by simp [hs]
  have HOKB := Lib.hid (h.ok.write (k : Int) s)
  have HWD : Hid (writeD d (k : Int) s = { burn d with W := d.W ++ [(k, s)] }) := by
    unfold Hid writeD
    rw [if_pos hok, if_neg (by rw [hgo]; exact Bool.false_ne_true)]
    simp
  have HBW := Lib.hid (burn_W d)
  have HBS := Lib.hid (burn_S d)
  have HS := Lib.hid hs
  obtain ⟨d1, hd1⟩ : ∃ d1, burn d = d1 := ⟨_, rfl⟩
  rw [hd1] at HSP HWD HBW HBS ⊢
  have HSO := Lib.hid (sectorOf38 s hs)
  have hb74 := run_build74 k s hs
  have hl56 := run_lit56 (penC (k, s)).toArray (by simp [penC, secC_len, hs])
  have HONE : Hid (∀ u ∈ penC (k, s), u.oneCell' = true) := by
    intro u hu
    rcases List.mem_cons.1 hu with rfl | hu
    · rfl
    · exact bytes_oneCell _ u hu
  have HPL : Hid ((penC (k, s)).length = 65) := by unfold Hid; simp [penC, secC_len, hs]
  have hX : (secC s).toArray.size = 64 := by simp [secC_len, hs]
  have hz := zero74.1
  have hZs : z65c.toArray.size = 65 := by simp [z65c, z64c]
  have hZn : ¬ z65c.toArray = #[] := by intro h; rw [h] at hZs; simp at hZs
  have hfold := fold74 k (secC s).toArray hX
  rw [← penC_arr] at hfold
  generalize z65c.toArray = Z at hz hZs hZn hfold
  generalize (secC s).toArray = X at HSO hb74 hX hfold
  have hY : (penC (k, s)).toArray.size = 65 := by simpa using HPL.out
  have hfold2 := fold_all (penC (k, s)).toArray hY
  obtain ⟨Y, hYe⟩ : ∃ Y, (penC (k, s)).toArray = Y := ⟨_, rfl⟩
  rw [hYe] at hfold hfold2 hY
  have HYE := Lib.hid hYe
  clear hb74 hl56 hYe
  have hf : s.size = 64 := hs
  clear hd1 hkr hk hs hok hgo h hf
  go_enter Tryz.func199, Tryz.ntmps199
  go_wp2_with (first | (go_at_call 80; refine HE.out.mono ?_; rintro e w' ⟨rfl, rfl⟩) | (go_at_call 207; refine HH.out.mono ?_; rintro e w' ⟨rfl, rfl⟩))
  refine HSP.out.mono ?_
  rintro e w1 ⟨rfl, hP, hT, hsz⟩
  obtain ⟨g, c, v, hpw⟩ := hP.pw
  have c1 : w1.drew.cell? ⟨b, 1, none⟩ = some v := hpw.is.c1
  have f1 : w1.drew.frozen? ⟨b, 1, none⟩ = false := hpw.is.fr 1
  have hblt : b < w1.drew.heap.size := hpw.is.lt
  have HPW : Hid (PW w1.drew F b d1 g c v) := ⟨hpw.is.keep (fun _ _ => rfl), hpw.ok, hpw.lt⟩
  have HT : Hid (Turn F w w1.drew) := hT.drew
  have HSZ : Hid (w1.drew.heap.size = w.heap.size) := hsz
  have HLT := Lib.hid hpw.lt
  obtain ⟨vA, vc, rfl⟩ := row_slice hpw.is.o2
  obtain ⟨i0, hi, hz0, hz1, hz2⟩ := info74
  have HOW : Hid (∀ w3, Below w1.drew.heap.size w1.drew w3 → (w3.alloc (.cells Y 146)).ownsRow 0 146 65 (.slice vA d1.W.length vc) d1.W.length (penCells d1.W)) := by
    intro w3 hb3
    exact World.ownsRow.alloc (row_keep HPW.out.is.o2 (fun i hi => hb3.block i (row_lt HPW.out.is.o2 hi))) _
  have HC3 : Hid (∀ w3, Below w1.drew.heap.size w1.drew w3 → w3.cell? ⟨b, 1, none⟩ = some (.slice vA d1.W.length vc) ∧ w3.frozen? ⟨b, 1, none⟩ = false ∧ b < w3.heap.size) := by
    intro w3 hb3
    exact ⟨(hb3.cell (p := ⟨b, 1, none⟩) hblt).trans c1, (hb3.frozen (p := ⟨b, 1, none⟩) hblt).trans f1, Nat.lt_of_lt_of_le hblt hb3.size⟩
  have hwl : d1.W.length ≤ 1000000 := by rw [HBW.out]; exact hw
  have HNEW : Hid (∀ w3 : World, ∀ j u, (penC (k, s))[j]? = some u → (w3.alloc (.cells Y 146)).cell? ((⟨w3.heap.size, 0, none⟩ : Addr).add j) = some u) := fun w3 j u hu => World.news_of_block (heap_alloc_new w3 _) j u (by rw [← HYE.out]; exact hu)
  have HC4 : Hid (∀ w3 w4, Below w1.drew.heap.size w1.drew w3 → (w3.alloc (.cells Y 146)).grownBy w4 (Value.ownBlock (.slice vA d1.W.length vc)) → w4.cell? ⟨b, 1, none⟩ = some (.slice vA d1.W.length vc) ∧ w4.frozen? ⟨b, 1, none⟩ = false) := by
    intro w3 w4 hb3 hg4
    obtain ⟨q1, q2, q3⟩ := HC3.out w3 hb3
    have hb' : Below w3.heap.size w3 (w3.alloc (.cells Y 146)) := (Below.refl _ _).alloc (Nat.le_refl _) _
    have q3' := Nat.lt_of_lt_of_le q3 hb'.size
    exact ⟨(hg4.cell_far ⟨b, 1, none⟩ q3' (Ne.symm HPW.out.is.n2)).trans ((hb'.cell (p := ⟨b, 1, none⟩) q3).trans q1), (hg4.frozen_far ⟨b, 1, none⟩ q3' (Ne.symm HPW.out.is.n2)).trans ((hb'.frozen (p := ⟨b, 1, none⟩) q3).trans q2)⟩
  have HFIN : Hid (∀ w3 w4 g' cap, Below w1.drew.heap.size w1.drew w3 → w4.ownsRow 0 146 65 (.slice (some ⟨g', 0, none⟩) (d1.W.length + 1) cap) (d1.W.length + 1) (penCells d1.W ++ penC (k, s)) → (w3.alloc (.cells Y 146)).grownBy w4 (Value.ownBlock (.slice vA d1.W.length vc)) → (Value.ownBlock (.slice vA d1.W.length vc) = some g' ∨ g' = (w3.alloc (.cells Y 146)).heap.size) → g' < w4.heap.size →
      PAt (w4.setCell ⟨b, 1, none⟩ (.slice (some ⟨g', 0, none⟩) (d1.W.length + 1) cap)) (Up F w (w4.setCell ⟨b, 1, none⟩ (.slice (some ⟨g', 0, none⟩) (d1.W.length + 1) cap))) b { d1 with W := d.W ++ [(k, s)] } ∧ Turn F w (w4.setCell ⟨b, 1, none⟩ (.slice (some ⟨g', 0, none⟩) (d1.W.length + 1) cap))) := by
    intro w3 w4 g' cap hb3 ho4 hg4 hat hlt
    have hb' : Below w1.drew.heap.size w1.drew (w3.alloc (.cells Y 146)) := hb3.alloc hb3.size _
    have hn2 := HPW.out.is.n2
    have hn12 := HPW.out.is.n12
    have hgb : g' ≠ b := by
      rcases hat with h | h
      · intro e; exact hn2 (by rw [h, e])
      · have := hb'.size; omega
    have hglt : g < w1.drew.heap.size := HPW.out.is.sub
    have hgg : g' ≠ g := by
      rcases hat with h | h
      · intro e; exact hn12 (by rw [h, e])
      · have := hb'.size; omega
    have hsz4 : w.heap.size ≤ w4.heap.size := by have := HSZ.out; have := hb'.size; have := hg4.size; omega
    have hTT : Turn F w w4 := (HT.out.trans (Turn.of_below (F := F) (a := w1.drew) hb') (fun i h => .inl h)).trans (Turn.of_grown (F := F) hg4 (fun i e => HPW.out.is.f2 i e)) (fun i h => .inl h)
    have hrow : w4.heap[b]? = some (.cells #[.slice (some ⟨g, 0, none⟩) d1.S.length c, .slice vA d1.W.length vc, .int .i64 d1.fuse, .bool d1.gone] 120 (0, 0)) := by
      rw [hg4.block b (Nat.lt_of_lt_of_le hblt hb'.size) (Ne.symm hn2), hb'.block b hblt]
      exact HPW.out.is.row
    have hgk : w4.heap[g]? = w1.drew.heap[g]? := by
      rw [hg4.block g (Nat.lt_of_lt_of_le hglt hb'.size) (Ne.symm hn12), hb'.block g hglt]
    refine ⟨⟨⟨g, c, .slice (some ⟨g', 0, none⟩) (d1.W.length + 1) cap, ?_⟩, ?_, fun i hi => ?_⟩, hTT.setCell _ _ (.inl HPW.out.is.fb)⟩
    · rw [← HBW.out]
      refine HPW.out.is.more1 (k, s) ?_ ?_ ?_ (fun i h => .inl h) (fun i h => ?_) (by simpa [Value.ownBlock] using hgb) (by simpa [Value.ownBlock] using hgg)
      · rw [heap_setCell_same _ _ _ _ _ _ hrow]; rfl
      · exact row_keep ho4 (fun i h => Below.heap_setCell _ _ _ _ (by rw [← own_some h]; exact hgb))
      · rw [Below.heap_setCell _ _ _ _ (HPW.out.is.n1)]; exact hgk
      · rw [← own_some h]
        rcases hat with h1 | h1
        · exact .inl (HPW.out.is.f2 g' h1)
        · right
          have := HSZ.out
          have := hb'.size
          refine ⟨by omega, by simpa [World.setCell] using hlt⟩
    · rw [← HWD.out]; exact HOKB.out
    · rcases hi with hi | hi
      · have := HLT.out i hi
        have : i < w1.drew.heap.size := this
        have := HSZ.out
        simpa [World.setCell] using (show i < w4.heap.size by omega)
      · exact hi.2
  clear hP hT hsz hpw HSP HE HH hw
  go_wp2_with fail
  go_region_law (first | (go_simp; go_at_call 214; (with_reducible refine (HSO.out _).mono ?_); rintro e w3 ⟨rfl, hb3⟩; have HB3 := Lib.hid hb3; obtain ⟨q1, q2, q3⟩ := HC3.out w3 hb3; clear hb3) | (refine step_append_lies _ rfl (.tmp 26) (.tmp 31) 118 rfl 0 146 i0 _ 65 72 Tryz.underlying118 hi hz0 hz1 hz2 rfl (by omega) _ _ (penCells d1.W) (by simp [Act.eval]) (HOW.out _ HB3.out) _ 1 1 (penC (k, s)) (by simp [Act.eval]) (by rw [HPL.out]) (HNEW.out w3) HONE.out (by omega) (by unfold maxLen; omega) (by omega) (Nat.zero_le _) _ rfl ?_; intro g' cap w4 ho4 hg4 hat4 hlt4; obtain ⟨r1, r2⟩ := HC4.out _ _ HB3.out hg4; have HF := Lib.hid (HFIN.out _ _ _ _ HB3.out ho4 hg4 hat4 hlt4); clear ho4 hg4 hat4 hlt4))
  all_goals
    go_wp2
    go_ret
    exact ⟨rfl, HF.out.1, HF.out.2⟩
end Go.Proofs.YtjanddnlhaionaaGreatDoor.L6
namespace Go.Proofs.YtjanddnlhaionaaGreatDoor.L6
open Go.RowKit

set_option maxHeartbeats 1000000 in
theorem write18 {F : Nat → Prop} {b : Nat} {d : D} {w : World} (h : PAt w F b d) (i : Int) (s : ByteArray) (hw : d.W.length ≤ 1000000) :
    Calls Tryz.prog 199 #[.pointer (some ⟨b, 0, none⟩), .int .i64 i, .string s] w fun e w' => e = .returned (.int .i64 (writeE d i s)) ∧ PAt w' (Up F w w') b (writeD d i s) ∧ Turn F w w' := by
  cases hok : writeOk d i s with
  | false =>
    have e1 : writeE d i s = 2 := by simp [writeE, hok]
    have e2 : writeD d i s = d := by simp [writeD, hok]
    rw [e1, e2]
    have HE := Lib.hid (exists26 h)
    have HH := Lib.hid (has35 h i)
    have HP := Lib.hid h
    unfold writeOk at hok
    rw [Bool.and_eq_false_iff] at hok
    cases hb : hasB d i with
    | false =>
      rw [hb] at HH
      clear e1 e2 h hb hok hw
      go_enter Tryz.func199, Tryz.ntmps199
      go_wp2_with (first | (go_at_call 80; refine HE.out.mono ?_; rintro e w' ⟨rfl, rfl⟩) | (go_at_call 207; refine HH.out.mono ?_; rintro e w' ⟨rfl, rfl⟩))
      go_ret
      exact ⟨rfl, HP.out.up _, Turn.refl _ _⟩
    | true =>
      rw [hb] at HH
      have t64 : ((s.size : Int) != 64) = true := by
        rcases hok with h1 | h1
        · rw [hb] at h1; cases h1
        · have : ¬ s.size = 64 := by simpa using h1
          rw [bne_iff_ne]; omega
      clear e1 e2 h hb hok hw
      go_enter Tryz.func199, Tryz.ntmps199
      go_wp2_with (first | (go_at_call 80; refine HE.out.mono ?_; rintro e w' ⟨rfl, rfl⟩) | (go_at_call 207; refine HH.out.mono ?_; rintro e w' ⟨rfl, rfl⟩))
      go_ret
      exact ⟨rfl, HP.out.up _, Turn.refl _ _⟩
  | true =>
    have hok' := hok
    unfold writeOk at hok'
    rw [Bool.and_eq_true, decide_eq_true_eq] at hok'
    obtain ⟨hb, hs⟩ := hok'
    have hr := hasB_iff.1 hb
    obtain ⟨k, rfl⟩ : ∃ k : Nat, i = (k : Int) := ⟨i.toNat, by omega⟩
    cases hg : (burn d).gone with
    | false =>
      have e1 : writeE d (k : Int) s = 0 := by simp [writeE, hok, hg]
      have e2 : writeD d (k : Int) s = { burn d with W := d.W ++ [(k, s)] } := by simp [writeD, hok, hg]
      rw [e1, e2]
      exact write18_go h k s hw hok hg
    | true =>
      have e1 : writeE d (k : Int) s = 9 := by simp [writeE, hok, hg]
      have e2 : writeD d (k : Int) s = burn d := by simp [writeD, hok, hg]
      rw [e1, e2]
      have HE := Lib.hid (exists26 h)
      have HH := Lib.hid (has35 h (k : Int))
      have HSP := Lib.hid (spend37 h)
      rw [hg] at HSP
      rw [hb] at HH
      have t64 : ((s.size : Int) != 64) = false := by simp [hs]
      clear e1 e2 h hb hok hw hr hg hs
      go_enter Tryz.func199, Tryz.ntmps199
      go_wp2_with (first | (go_at_call 80; refine HE.out.mono ?_; rintro e w' ⟨rfl, rfl⟩) | (go_at_call 207; refine HH.out.mono ?_; rintro e w' ⟨rfl, rfl⟩))
      refine HSP.out.mono ?_
      rintro e w1 ⟨rfl, hP, hT, -⟩
      have HP1 := Lib.hid (hP.up w)
      have HT1 := Lib.hid hT
      clear hP hT
      go_wp2
      go_ret
      exact ⟨rfl, HP1.out, HT1.out⟩

/-! ### New -/
def New (w w' : World) : Nat → Prop := fun k => w.heap.size ≤ k ∧ k < w'.heap.size
theorem Tryz.info144 : (Tryz.prog.info? 144).map (fun i => (i.zero, i.size, i.bytes)) = some (some (.agg z64c.toArray), 64, 64) := by kernel_rfl
theorem info72 : ∃ i, Tryz.prog.info? 144 = some i ∧ i.zero = some (.agg z64c.toArray) ∧ i.size = 64 ∧ i.bytes = 64 := by
  have h := Tryz.info144
  cases hq : Tryz.prog.info? 144 with
  | none => simp [hq] at h
  | some i =>
    simp [hq] at h
    exact ⟨i, rfl, h.1, h.2.1, h.2.2⟩
theorem secC_z64 : secC z64 = z64c := by simp [secC, z64, z64c, bytesV]
theorem made72 (n : Nat) : (madeCells (Value.agg z64c.toArray).cells (n * 64)).toList = secCells (List.replicate n z64) := by
  have hz : (Value.agg z64c.toArray).cells = z64c.toArray := rfl
  have hzl : z64c.length = 64 := by simp [z64c]
  have hall : ∀ x ∈ List.replicate n z64, (secC x).length = 64 := fun x hx => by rw [List.eq_of_mem_replicate hx, secC_len]; rfl
  apply List.ext_getElem?
  intro i
  by_cases hi : i < n * 64
  · have hk : i / 64 < n := by omega
    have hj : i % 64 < 64 := by omega
    have hd : i = i / 64 * 64 + i % 64 := by omega
    have h2 := fm_get secC 64 (List.replicate n z64) hall (i / 64) z64 (by rw [List.getElem?_replicate]; simp [hk]) (i % 64) hj
    rw [← hd] at h2
    unfold secCells
    rw [h2, secC_z64]
    unfold madeCells
    rw [hz]
    simp only [Array.toList_map, Array.toList_range, List.getElem?_map, List.getElem?_range hi, Option.map_some, List.size_toArray, hzl]
    rw [List.getElem?_eq_getElem (by rw [hzl]; exact hj)]
    congr 1
    rw [getElem!_pos z64c.toArray (i % 64) (by simpa [hzl] using hj)]
    simp
  · rw [List.getElem?_eq_none (by simp [madeCells]; omega), List.getElem?_eq_none (by unfold secCells; rw [fm_len secC 64 _ hall]; simp; omega)]

set_option maxHeartbeats 1000000 in
theorem new9 (n : Nat) (h1 : 1 ≤ n) (h2 : n ≤ 4096) (w : World) :
    Calls Tryz.prog 28 #[.int .i64 (n : Int)] w fun e w' => e = .returned (.tuple #[.pointer (some ⟨w.heap.size + 1, 0, none⟩), .int .i64 0]) ∧ PAt w' (New w w') (w.heap.size + 1) (newD n) ∧ Below w.heap.size w w' := by
  obtain ⟨i0, hi, hz0, hz1, hz2⟩ := info72
  obtain ⟨w1, hm, ho, hg⟩ := run_make_full (P := Tryz.prog) w 0 117 144 i0 _ 64 Tryz.underlying117 hi hz0 hz1 .i64 .i64 n (by rw [hz2]; omega) (by unfold maxLen; omega) (Nat.zero_le _)
  rw [made72] at ho
  have hb1 : Below w.heap.size w w1 := (Below.refl _ _).grown hg (Nat.le_refl _) (fun k hk => by cases hk)
  have hg1 : w.heap.size < w1.heap.size := row_lt ho rfl
  have hs1 : w1.heap.size = w.heap.size + 1 := by
    have := run_make (P := Tryz.prog) w 117 144 i0 _ Tryz.underlying117 hi hz0 .i64 .i64 n n (by omega) (Int.le_refl _) (by rw [hz2]; omega) (by omega)
    rw [this] at hm
    injection hm with _ hw
    rw [← hw]
    simp
  have HFIN : Hid (PAt (w1.alloc (.cells #[.slice (some ⟨w.heap.size, 0, none⟩) n n, .slice none 0 0, .int .i64 (-1), .bool false] 120)) (New w (w1.alloc (.cells #[.slice (some ⟨w.heap.size, 0, none⟩) n n, .slice none 0 0, .int .i64 (-1), .bool false] 120))) (w.heap.size + 1) (newD n) ∧ Below w.heap.size w (w1.alloc (.cells #[.slice (some ⟨w.heap.size, 0, none⟩) n n, .slice none 0 0, .int .i64 (-1), .bool false] 120))) := by
    refine ⟨⟨⟨w.heap.size, n, .slice none 0 0, ?_⟩, Ok.new n h1 h2, fun k hk => hk.2⟩, hb1.alloc hb1.size _⟩
    have hl : (newD n).S.length = n := by simp [newD]
    refine ⟨?_, ?_, World.ownsRow_nil _ _ _ _, by omega, by simp [Value.ownBlock], by simp [Value.ownBlock], ⟨by omega, by simp; omega⟩, ⟨Nat.le_refl _, by simp; omega⟩, by simp [Value.ownBlock]⟩
    · rw [hl, ← hs1]
      exact heap_alloc_new _ _
    · rw [hl]
      exact World.ownsRow.alloc ho _
  have t1 : decide ((n : Int) < 1) = false := by simp; omega
  have t2 : decide ((4096 : Int) < (n : Int)) = false := by simp; omega
  have HS1 := Lib.hid hs1
  clear ho hg hb1 hi hz0 hz1 hz2 hg1 hs1
  go_enter Tryz.func28, Tryz.ntmps28
  go_wp2
  go_ret2
  refine ⟨?_, HFIN.out.1, HFIN.out.2⟩
  rw [← HS1.out]; rfl
end Go.Proofs.YtjanddnlhaionaaGreatDoor.L6
namespace Go.Proofs.YtjanddnlhaionaaGreatDoor.L6
open Go.RowKit

theorem row_base {w : World} {B B' : Nat} {e : TypeId} {m : Nat} {v : Value} {n : Nat} {xs : List Value} (h : w.ownsRow B e m v n xs) (hB : B' ≤ B) : w.ownsRow B' e m v n xs := by
  refine ⟨h.1, ?_⟩
  rcases h.2 with h0 | ⟨g, cap, cur, hv, hb, r⟩
  · exact .inl h0
  · exact .inr ⟨g, cap, cur, hv, Nat.le_trans hB hb, r⟩
theorem row_ge {w : World} {B : Nat} {e : TypeId} {m : Nat} {v : Value} {n : Nat} {xs : List Value} (h : w.ownsRow B e m v n xs) {k : Nat} (hk : v.ownBlock = some k) : B ≤ k := (h.lt k hk).1
def z58 : Array Value := #[.slice none 0 0, .slice none 0 0, .int .i64 0, .bool false]
end Go.Proofs.YtjanddnlhaionaaGreatDoor.L6
namespace Go.Proofs.YtjanddnlhaionaaGreatDoor.L6
open Go.RowKit

/-- A drum whose blocks all lie from w0's end on; nothing of w0 has turned. -/
def PN (w0 w : World) (b : Nat) (d : D) : Prop := ∃ F, PAt w F b d ∧ (∀ k, F k → w0.heap.size ≤ k) ∧ Below w0.heap.size w0 w
theorem PN.old {w0 w : World} {b : Nat} {d : D} (h : PN w0 w b d) : Below w0.heap.size w0 w := by
  obtain ⟨F, _, _, hB⟩ := h
  exact hB
theorem PN.turn {w0 w w' : World} {F : Nat → Prop} {b : Nat} {d' : D} (hF : ∀ k, F k → w0.heap.size ≤ k) (hB : Below w0.heap.size w0 w) (hP : PAt w' F b d') (hT : Turn F w w') : PN w0 w' b d' :=
  ⟨F, hP, hF, hB.trans (hT.below _ hB.size hF)⟩
theorem newN (n : Nat) (h1 : 1 ≤ n) (h2 : n ≤ 4096) (w : World) :
    Calls Tryz.prog 28 #[.int .i64 (n : Int)] w fun e w' => ∃ b, e = .returned (.tuple #[.pointer (some ⟨b, 0, none⟩), .int .i64 0]) ∧ PN w w' b (newD n) :=
  (new9 n h1 h2 w).mono fun _ _ ⟨he, hP, hB⟩ => ⟨_, he, _, hP, fun _ hk => hk.1, hB⟩
end Go.Proofs.YtjanddnlhaionaaGreatDoor.L6
namespace Go.Proofs.YtjanddnlhaionaaGreatDoor.L6
open Go.RowKit

def putC (p : Nat × ByteArray) : List Value := [.int .i64 (p.1 : Int), .string p.2]
def putCells (W : List (Nat × ByteArray)) : List Value := W.flatMap putC
def strs (S : List ByteArray) : List Value := S.map Value.string
structure RIs (w : World) (F : Nat → Prop) (b : Nat) (d : D) (v1 v2 : Value) : Prop where
  row : w.heap[b]? = some (.cells #[v1, v2, .int .i64 d.fuse, .bool d.gone] 123 (0, 0))
  o1 : w.ownsRow 0 9 1 v1 d.S.length (strs d.S)
  o2 : w.ownsRow 0 102 2 v2 d.W.length (putCells d.W)
  n1 : v1.ownBlock ≠ some b
  n2 : v2.ownBlock ≠ some b
  n12 : ∀ k, v1.ownBlock = some k → v2.ownBlock ≠ some k
  fb : F b
  f1 : ∀ k, v1.ownBlock = some k → F k
  f2 : ∀ k, v2.ownBlock = some k → F k
structure RW (w : World) (F : Nat → Prop) (b : Nat) (d : D) (v1 v2 : Value) : Prop where
  is : RIs w F b d v1 v2
  ok : Ok d
  lt : ∀ k, F k → k < w.heap.size
def RAt (w : World) (F : Nat → Prop) (b : Nat) (d : D) : Prop := ∃ v1 v2, RW w F b d v1 v2

theorem Tryz.info9 : (Tryz.prog.info? 9).map (fun i => (i.zero, i.size, i.bytes)) = some (some (.string ByteArray.empty), 1, 16) := by kernel_rfl
theorem info9 : ∃ i, Tryz.prog.info? 9 = some i ∧ i.zero = some (.string ByteArray.empty) ∧ i.size = 1 ∧ i.bytes = 16 := by
  have h := Tryz.info9
  cases hq : Tryz.prog.info? 9 with
  | none => simp [hq] at h
  | some i =>
    simp [hq] at h
    exact ⟨i, rfl, h.1, h.2.1, h.2.2⟩
end Go.Proofs.YtjanddnlhaionaaGreatDoor.L6
namespace Go.Proofs.YtjanddnlhaionaaGreatDoor.L6
open Go.RowKit

theorem row_ty {w : World} {B : Nat} {e : TypeId} {m : Nat} {v : Value} {n : Nat} {xs : List Value} (h : w.ownsRow B e m v n xs) {k : Nat} (hk : v.ownBlock = some k) : ∃ cs, w.heap[k]? = some (.cells cs e (0, 0)) := by
  rcases h.2 with ⟨e1, e2⟩ | ⟨g, cap, cur, hv, hb, hg, r⟩
  · rw [e1] at hk; cases hk
  · rw [hv] at hk
    have : g = k := by simpa [Value.ownBlock] using hk
    subst this
    exact ⟨_, hg⟩
theorem ty_ne {w : World} {j k : Nat} {a b : Array Value} {t u : TypeId} {f g : Nat × Nat} (h1 : w.heap[j]? = some (.cells a t f)) (h2 : w.heap[k]? = some (.cells b u g)) (h : t ≠ u) : j ≠ k := by
  intro e
  subst e
  rw [h1] at h2
  injection h2 with h2
  injection h2 with _ h2
  exact h h2

def rdRow (rd : Rd) (v1 v2 : Value) : Array Value := #[v1, .int .i64 (rd.occ : Int), .int .i64 (rd.great : Int), .int .i64 (rd.vis : Int), .bool rd.ended, .int .i64 (rd.life : Int), .int .i64 (rd.parts : Int), v2]
structure QIs (w : World) (B r : Nat) (rd : Rd) (v1 v2 : Value) : Prop where
  row : w.heap[r]? = some (.cells (rdRow rd v1 v2) 248 (0, 0))
  o1 : w.ownsRow B 9 1 v1 rd.recs.length (strs rd.recs)
  o2 : w.ownsRow B 5 1 v2 rd.data.length (bytesV rd.data)
  br : B ≤ r
def RF (r : Nat) (v1 v2 : Value) (k : Nat) : Prop := k = r ∨ v1.ownBlock = some k ∨ v2.ownBlock = some k
theorem QIs.ne1 {w : World} {B r : Nat} {rd : Rd} {v1 v2 : Value} (h : QIs w B r rd v1 v2) {k : Nat} (hk : v1.ownBlock = some k) : k ≠ r := by
  obtain ⟨cs, hc⟩ := row_ty h.o1 hk
  exact ty_ne hc h.row (by decide)
theorem QIs.ne2 {w : World} {B r : Nat} {rd : Rd} {v1 v2 : Value} (h : QIs w B r rd v1 v2) {k : Nat} (hk : v2.ownBlock = some k) : k ≠ r := by
  obtain ⟨cs, hc⟩ := row_ty h.o2 hk
  exact ty_ne hc h.row (by decide)
theorem QIs.ne12 {w : World} {B r : Nat} {rd : Rd} {v1 v2 : Value} (h : QIs w B r rd v1 v2) {j k : Nat} (hj : v1.ownBlock = some j) (hk : v2.ownBlock = some k) : j ≠ k := by
  obtain ⟨cs, hc⟩ := row_ty h.o1 hj
  obtain ⟨ds, hd⟩ := row_ty h.o2 hk
  exact ty_ne hc hd (by decide)
theorem QIs.cells {w : World} {B r : Nat} {rd : Rd} {v1 v2 : Value} (h : QIs w B r rd v1 v2) {k : Nat} (hk : RF r v1 v2 k) : ∃ cs t, w.heap[k]? = some (.cells cs t (0, 0)) ∧ (t = 248 ∨ t = 9 ∨ t = 5) := by
  rcases hk with rfl | hk | hk
  · exact ⟨_, _, h.row, .inl rfl⟩
  · obtain ⟨cs, hc⟩ := row_ty h.o1 hk; exact ⟨_, _, hc, .inr (.inl rfl)⟩
  · obtain ⟨cs, hc⟩ := row_ty h.o2 hk; exact ⟨_, _, hc, .inr (.inr rfl)⟩
theorem QIs.ge {w : World} {B r : Nat} {rd : Rd} {v1 v2 : Value} (h : QIs w B r rd v1 v2) {k : Nat} (hk : RF r v1 v2 k) : B ≤ k := by
  rcases hk with rfl | hk | hk
  · exact h.br
  · exact row_ge h.o1 hk
  · exact row_ge h.o2 hk
theorem QIs.lt {w : World} {B r : Nat} {rd : Rd} {v1 v2 : Value} (h : QIs w B r rd v1 v2) {k : Nat} (hk : RF r v1 v2 k) : k < w.heap.size := by
  obtain ⟨cs, t, hc, -⟩ := h.cells hk
  exact (Array.getElem?_eq_some_iff.1 hc).1
/-- The row of the reader turned. -/
theorem QIs.turn {w w' : World} {B r : Nat} {rd rd' : Rd} {v1 v2 : Value} (h : QIs w B r rd v1 v2) (hr : rd'.recs = rd.recs) (hd : rd'.data = rd.data)
    (row : w'.heap[r]? = some (.cells (rdRow rd' v1 v2) 248 (0, 0))) (hk : ∀ k, k ≠ r → w'.heap[k]? = w.heap[k]?) : QIs w' B r rd' v1 v2 :=
  ⟨row, by rw [hr]; exact row_keep h.o1 (fun k e => hk k (h.ne1 e)), by rw [hd]; exact row_keep h.o2 (fun k e => hk k (h.ne2 e)), h.br⟩
theorem QIs.keep {w w' : World} {B r : Nat} {rd : Rd} {v1 v2 : Value} (h : QIs w B r rd v1 v2) (hk : ∀ k, RF r v1 v2 k → w'.heap[k]? = w.heap[k]?) : QIs w' B r rd v1 v2 :=
  ⟨by rw [hk r (.inl rfl)]; exact h.row, row_keep h.o1 (fun k e => hk k (.inr (.inl e))), row_keep h.o2 (fun k e => hk k (.inr (.inr e))), h.br⟩
theorem QIs.below {w w' : World} {B r : Nat} {rd : Rd} {v1 v2 : Value} (h : QIs w B r rd v1 v2) (hb : Below w.heap.size w w') : QIs w' B r rd v1 v2 := h.keep fun k hk => hb.block k (h.lt hk)

/-- One of the reader's own cells set. -/
theorem QIs.set {w : World} {B r : Nat} {rd rd' : Rd} {v1 v2 : Value} (h : QIs w B r rd v1 v2) (j : Nat) (u : Value) (hr : rd'.recs = rd.recs) (hd : rd'.data = rd.data) (hu : (rdRow rd v1 v2).setIfInBounds j u = rdRow rd' v1 v2) : QIs (w.setCell ⟨r, j, none⟩ u) B r rd' v1 v2 :=
  h.turn hr hd (by rw [setCell_eq_setRow w r j _ _ _ u h.row, hu]; exact setRow_heap w r _ _ _ _ h.row) (fun k hk => Below.heap_setCell _ _ _ _ hk)
/-- The data's row, and the cell that holds it. -/
theorem QIs.data' {w w4 : World} {B r : Nat} {rd rd' : Rd} {v1 v2 u2 : Value} (h : QIs w B r rd v1 v2) (hg : w.grownBy w4 v2.ownBlock) (ho : w4.ownsRow B 5 1 u2 rd'.data.length (bytesV rd'.data)) (hr : rd'.recs = rd.recs) (hu : (rdRow rd v1 v2).setIfInBounds 7 u2 = rdRow rd' v1 u2) : QIs (w4.setCell ⟨r, 7, none⟩ u2) B r rd' v1 u2 := by
  have hlt : r < w.heap.size := h.lt (.inl rfl)
  have hrow : w4.heap[r]? = some (.cells (rdRow rd v1 v2) 248 (0, 0)) := by rw [hg.block r hlt (fun e => h.ne2 e.symm rfl)]; exact h.row
  refine ⟨by rw [setCell_eq_setRow w4 r 7 _ _ _ u2 hrow, hu]; exact setRow_heap w4 r _ _ _ _ hrow, ?_, ?_, h.br⟩
  · rw [hr]
    refine row_keep h.o1 fun k e => ?_
    rw [Below.heap_setCell _ _ _ _ (h.ne1 e), hg.block k (row_lt h.o1 e) (fun e2 => h.ne12 e e2.symm rfl)]
  · refine row_keep ho fun k e => Below.heap_setCell _ _ _ _ ?_
    obtain ⟨cs, hc⟩ := row_ty ho e
    exact ty_ne hc hrow (by decide)
theorem QIs.recs' {w w4 : World} {B r : Nat} {rd rd' : Rd} {v1 v2 u1 : Value} (h : QIs w B r rd v1 v2) (hg : w.grownBy w4 v1.ownBlock) (ho : w4.ownsRow B 9 1 u1 rd'.recs.length (strs rd'.recs)) (hd : rd'.data = rd.data) (hu : (rdRow rd v1 v2).setIfInBounds 0 u1 = rdRow rd' u1 v2) : QIs (w4.setCell ⟨r, 0, none⟩ u1) B r rd' u1 v2 := by
  have hlt : r < w.heap.size := h.lt (.inl rfl)
  have hrow : w4.heap[r]? = some (.cells (rdRow rd v1 v2) 248 (0, 0)) := by rw [hg.block r hlt (fun e => h.ne1 e.symm rfl)]; exact h.row
  refine ⟨by rw [setCell_eq_setRow w4 r 0 _ _ _ u1 hrow, hu]; exact setRow_heap w4 r _ _ _ _ hrow, ?_, ?_, h.br⟩
  · refine row_keep ho fun k e => Below.heap_setCell _ _ _ _ ?_
    obtain ⟨cs, hc⟩ := row_ty ho e
    exact ty_ne hc hrow (by decide)
  · rw [hd]
    refine row_keep h.o2 fun k e => ?_
    rw [Below.heap_setCell _ _ _ _ (h.ne2 e), hg.block k (row_lt h.o2 e) (fun e2 => h.ne12 e2.symm e rfl)]

theorem Tryz.under9 : Tryz.prog.underlying 9 = some .string := by kernel_rfl

theorem rd_cells {W : World} {r : Nat} {rd : Rd} {v1 v2 : Value} (h : W.heap[r]? = some (.cells (rdRow rd v1 v2) 248 (0, 0))) :
    W.cell? ⟨r, 0, none⟩ = some v1 ∧ W.cell? ⟨r, 1, none⟩ = some (.int .i64 (rd.occ : Int)) ∧ W.cell? ⟨r, 2, none⟩ = some (.int .i64 (rd.great : Int)) ∧ W.cell? ⟨r, 3, none⟩ = some (.int .i64 (rd.vis : Int)) ∧
    W.cell? ⟨r, 4, none⟩ = some (.bool rd.ended) ∧ W.cell? ⟨r, 5, none⟩ = some (.int .i64 (rd.life : Int)) ∧ W.cell? ⟨r, 6, none⟩ = some (.int .i64 (rd.parts : Int)) ∧ W.cell? ⟨r, 7, none⟩ = some v2 ∧ ∀ j, W.frozen? ⟨r, j, none⟩ = false :=
  ⟨cell_row h rfl, cell_row h rfl, cell_row h rfl, cell_row h rfl, cell_row h rfl, cell_row h rfl, cell_row h rfl, cell_row h rfl, fun j => frozen_of_row W r j _ _ h⟩
theorem sec_cells {W : World} {k : Nat} {s : Sec} (h : W.heap[k]? = some (.cells (secV s) 289 (0, 0))) :
    W.cell? ⟨k, 0, none⟩ = some (.int .i64 (s.life : Int)) ∧ W.cell? ⟨k, 1, none⟩ = some (.int .i64 (s.record : Int)) ∧ W.cell? ⟨k, 2, none⟩ = some (.int .i64 (s.part : Int)) ∧ W.cell? ⟨k, 3, none⟩ = some (.bool s.last) ∧ W.cell? ⟨k, 4, none⟩ = some (.string (mkB s.data)) :=
  ⟨cell_row h rfl, cell_row h rfl, cell_row h rfl, cell_row h rfl, cell_row h rfl⟩

structure OkRd (rd : Rd) : Prop where
  r : rd.recs.length ≤ 1000000
  d : rd.data.length ≤ 1000000000
  p : rd.parts ≤ 1000000
  v : rd.vis ≤ 1000000

set_option maxHeartbeats 1000000 in
theorem expects60 {w : World} {B r : Nat} {rd : Rd} {v1 v2 : Value} (h : QIs w B r rd v1 v2) (hok : OkRd rd) (s : Sec) :
    Calls Tryz.prog 195 #[.pointer (some ⟨r, 0, none⟩), .agg (secV s)] w fun e w' => e = .returned (.bool (expects rd s)) ∧ Below w.heap.size w w' := by
  obtain ⟨ans, hans⟩ : ∃ ans, expects rd s = ans := ⟨_, rfl⟩
  rw [hans]
  unfold expects at hans
  obtain ⟨sl, sr, sp, sla, sd⟩ := s
  have hrr := hok.r
  have hrlt : r < w.heap.size := h.lt (.inl rfl)
  obtain ⟨a, c, rfl⟩ := row_slice h.o1
  obtain ⟨n, hn⟩ : ∃ n, rd.recs.length = n := ⟨_, rfl⟩
  have hb : Below w.heap.size w (w.alloc (.cells (secV ⟨sl, sr, sp, sla, sd⟩) 289)) := (Below.refl _ _).alloc (Nat.le_refl _) _
  have hr1 : (w.alloc (.cells (secV ⟨sl, sr, sp, sla, sd⟩) 289)).heap[r]? = _ := (hb.block r hrlt).trans h.row
  have hs1 := heap_alloc_new w (.cells (secV ⟨sl, sr, sp, sla, sd⟩) 289)
  have HB := Lib.hid hb
  obtain ⟨a0, -, -, -, -, a5, a6, -, -⟩ := rd_cells hr1
  obtain ⟨b0, b1, b2, -, -⟩ := sec_cells hs1
  obtain ⟨pl, hpl⟩ : ∃ pl, rd.life = pl := ⟨_, rfl⟩
  obtain ⟨pp, hpp⟩ : ∃ pp, rd.parts = pp := ⟨_, rfl⟩
  rw [hn] at a0 hans hrr
  rw [hpl] at a5 hans
  rw [hpp] at a6 hans
  simp only at b0 b1 b2 hans
  have hw1 : IntKind.i64.wrap ((n : Int) + 1) = (n : Int) + 1 := by rw [IntKind.wrap_i64]; omega
  generalize hX : secV ⟨sl, sr, sp, sla, sd⟩ = X at a0 a5 a6 b0 b1 b2 HB ⊢
  clear h hok hb hr1 hs1 hX hn hpl hpp
  have HA := Lib.hid hans
  clear hans
  by_cases h1 : sr = n + 1
  · have e1 : ((sr : Int) != (n : Int) + 1) = false := by rw [h1]; simp
    by_cases h2 : sp = pp
    · have e2 : ((sp : Int) != (pp : Int)) = false := by rw [h2]; simp
      by_cases h3 : sl = pl
      · have e3 : ((sl : Int) == (pl : Int)) = true := by rw [h3]; simp
        have e : ans = true := by rw [← HA.out]; simp [h1, h2, h3]
        subst e
        clear HA h1 h2 h3
        go_enter Tryz.func195, Tryz.ntmps195
        go_wp2_with fail
        go_quiet (fail)
        go_wp2
        go_quiet (fail)
        go_wp2
        go_ret
        exact ⟨rfl, below_drewN (below_drewN HB.out _) _⟩
      · have e3 : ((sl : Int) == (pl : Int)) = false := by rw [beq_eq_false_iff_ne]; omega
        by_cases h4 : pl < sl
        · have e4 : decide ((pl : Int) < (sl : Int)) = true := decide_eq_true (by omega)
          have e4' : decide (pl < sl) = true := decide_eq_true h4
          by_cases h0 : sp = 0
          · have e5 : ((sp : Int) == 0) = true := by rw [h0]; rfl
            have e : ans = true := by rw [← HA.out, ← h1, ← h2]; simp [h4, h0]
            subst e
            clear HA h1 h2 h3 h4 h0
            go_enter Tryz.func195, Tryz.ntmps195
            go_wp2_with fail
            go_quiet (fail)
            go_wp2
            go_quiet (fail)
            go_wp2
            go_ret
            exact ⟨rfl, below_drewN (below_drewN HB.out _) _⟩
          · have e5 : ((sp : Int) == 0) = false := by rw [beq_eq_false_iff_ne]; omega
            have e : ans = false := by rw [← HA.out]; simp [h3, h0]
            subst e
            clear HA h1 h2 h3 h4 h0
            go_enter Tryz.func195, Tryz.ntmps195
            go_wp2_with fail
            go_quiet (fail)
            go_wp2
            go_quiet (fail)
            go_wp2
            go_ret
            exact ⟨rfl, below_drewN (below_drewN HB.out _) _⟩
        · have e4 : decide ((pl : Int) < (sl : Int)) = false := decide_eq_false (by omega)
          have e4' : decide (pl < sl) = false := decide_eq_false h4
          have e : ans = false := by rw [← HA.out]; simp [h3, h4]
          subst e
          clear HA h1 h2 h3 h4
          go_enter Tryz.func195, Tryz.ntmps195
          go_wp2_with fail
          go_quiet (fail)
          go_wp2
          go_quiet (fail)
          go_wp2
          go_ret
          exact ⟨rfl, below_drewN (below_drewN HB.out _) _⟩
    · have e2 : ((sp : Int) != (pp : Int)) = true := by rw [bne, Bool.not_eq_true', beq_eq_false_iff_ne]; omega
      have e : ans = false := by rw [← HA.out]; simp [h2]
      subst e
      clear HA h1 h2
      go_enter Tryz.func195, Tryz.ntmps195
      go_wp2_with fail
      go_quiet (fail)
      go_wp2
      go_ret
      exact ⟨rfl, below_drewN HB.out _⟩
  · have e1 : ((sr : Int) != (n : Int) + 1) = true := by rw [bne, Bool.not_eq_true', beq_eq_false_iff_ne]; omega
    have e : ans = false := by rw [← HA.out]; simp [h1]
    subst e
    clear HA h1
    go_enter Tryz.func195, Tryz.ntmps195
    go_wp2_with fail
    go_quiet (fail)
    go_wp2
    go_ret
    exact ⟨rfl, below_drewN HB.out _⟩
end Go.Proofs.YtjanddnlhaionaaGreatDoor.L6
