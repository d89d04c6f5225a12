/-
  The contract of ObjectRows. No condition but the package's tables.
-/
import Derived.Test.YtmnknijjjicdbaaDoorQA
import Derived.Test.YtmnknijjjicdbaaDoorPH
namespace Go.Proofs.YtmnknijjjicdbaaDoor
open Go.RowKit
open L4 (C LAt okC)
open L2 (Row Vl RowsAt rowsOK valOK)
open L3 (St Tabs digestM)

def rowsNode (l : List Row) : Ob := ⟨1, ⟨#[]⟩, l, [], [], 0, ⟨#[]⟩, ⟨#[]⟩⟩
theorem rowsNode_inj {l l' : List Row} (hn : ∀ r ∈ l, NumB r) (hn' : ∀ r ∈ l', NumB r) (h : objE (rowsNode l) = 0) (h' : objE (rowsNode l') = 0) :
    ((objS (rowsNode l)).toList == (objS (rowsNode l')).toList) = decide (l = l') := by
  have ok : ∀ m, objE (rowsNode m) = 0 → objOK (rowsNode m) = true := by
    intro m hm
    unfold objE at hm
    cases hok : objOK (rowsNode m) with
    | true => rfl
    | false => rw [hok] at hm; simp at hm
  have t1 := obj_take (ok l h) hn (by intro k hk; cases hk)
  have t2 := obj_take (ok l' h') hn' (by intro k hk; cases hk)
  by_cases e : l = l'
  · subst e; simp
  · rw [decide_eq_false e]
    cases hq : ((objS (rowsNode l)).toList == (objS (rowsNode l')).toList) with
    | false => rfl
    | true =>
      exfalso
      apply e
      have hs : objS (rowsNode l) = objS (rowsNode l') := by
        exact L4.bytes_ext (eq_of_beq hq)
      rw [hs, t2] at t1
      have := congrArg (fun x => x.1.rows) t1
      exact this.symm

theorem two_rows (wa : World) (a b : Array Value) :
    (((wa.alloc (.cells a 27)).alloc (.cells b 27)).drew).heap[wa.heap.size]? = some (.cells a 27 (0, 0)) ∧ (((wa.alloc (.cells a 27)).alloc (.cells b 27)).drew).heap[wa.heap.size + 1]? = some (.cells b 27 (0, 0)) ∧
    Below wa.heap.size wa (((wa.alloc (.cells a 27)).alloc (.cells b 27)).drew) ∧ (((wa.alloc (.cells a 27)).alloc (.cells b 27)).drew).heap.size = wa.heap.size + 2 := by
  have h1 := heap_alloc_new wa (.cells a 27)
  have h2 := heap_alloc_new (wa.alloc (.cells a 27)) (.cells b 27)
  have hs : (wa.alloc (.cells a 27)).heap.size = wa.heap.size + 1 := by simp
  rw [hs] at h2
  exact ⟨(Below.heap_alloc (wa.alloc (.cells a 27)) _ _ (by rw [hs]; omega)).trans h1, h2, (((Below.refl _ wa).alloc (Nat.le_refl _) _).alloc (by simp) _).drew, by show ((wa.alloc (.cells a 27)).alloc (.cells b 27)).heap.size = _; simp⟩

set_option maxRecDepth 100000 in
set_option maxHeartbeats 20000000 in
theorem rows4 (K : List Int) (I : St) (l : List Row) (v : Value) (kd : Int) (label : ByteArray) (rows : List Row) (kids : List Kd) (parents : List ByteArray) (stamp : Int) (note root : ByteArray) (r k p : Value) (w : World) (h : ObAt w r k p ⟨kd, label, rows, kids, parents, stamp, note, root⟩) (hl : RowsAt w w.heap.size v l) (hn : ∀ r ∈ l, NumB r) (hT : Tabs K I w) :
    Calls Tryd.prog 4 #[v, .agg #[.int .i64 kd, .string label, r, k, p, .int .i64 stamp, .string note, .string root]] w fun e w' => e = .returned (.bool true) ∧ Below w.heap.size w w' := by
  have h2 := hT.two
  have HO := Lib.hid (Obj1.start w ⟨kd, label, rows, kids, parents, stamp, note, root⟩ r k p)
  have hB := HO.out.below
  have HSM := Lib.hid (small5 kd label rows kids parents stamp note root r k p (w.alloc (.cells #[.int .i64 kd, .string label, r, k, p, .int .i64 stamp, .string note, .string root] 27)) (h.step hB))
  have HLV := Lib.hid (fun w2 (hb : Below w.heap.size w w2) => lives6 K I w2 (hT.below hb h2))
  have HPR := Lib.hid (fun w2 (hb : Below w.heap.size w w2) => putRows13 l v w2 (hl.step hb) hn)
  have HTR : Hid (rowsOK l = true → ∀ d A n c w2, LAt w2 w2.heap.size d (.slice A n c) (l.map rowCl) → Calls Tryd.prog 14 #[.agg #[.int .i64 3, .int .i64 0, .string ⟨#[]⟩, .slice A n c]] w2 (TRTo w2 (l, 0))) := by
    intro hok d A n c w2 hla
    have := takeRows14 d 3 0 ⟨#[]⟩ (l.map rowCl) A n c w2 hla (by rw [List.length_map]; have := (rows_all hok).1; omega)
    rw [take_rows hok] at this
    exact this
  have HSAME : Hid (∀ w2 l' v', Below w.heap.size w w2 → RowsAt w2 w2.heap.size v' l' → Calls Tryd.prog 15 #[v, v'] w2 fun e w' => e = .returned (.bool (decide (l = l'))) ∧ Below w2.heap.size w2 w') := fun w2 l' v' hb h' => L2.same17 l l' v v' w2 (hl.step hb) h'
  have HSR : Hid (∀ w2, Below w.heap.size w w2 → RowsAt w2 w2.heap.size r rows) := fun w2 hb => h.rows.step hb
  have HP1 : Hid (∀ w2, Below w.heap.size w w2 → Calls Tryd.prog 7 #[.agg #[.int .i64 1, .string ⟨#[]⟩, v, .slice none 0 0, .slice none 0 0, .int .i64 0, .string ⟨#[]⟩, .string ⟨#[]⟩]] w2 fun e w' => e = .returned (.tuple #[.string (objS (rowsNode l)), .int .i64 (objE (rowsNode l))]) ∧ Below w2.heap.size w2 w') :=
    fun w2 hb => put7 1 ⟨#[]⟩ l [] [] 0 ⟨#[]⟩ ⟨#[]⟩ v _ _ w2 ⟨hl.step hb, KidsAt.nil _ _, TxtsAt.nil _ _, by show (-9223372036854775808 : Int) ≤ 0; omega, by show (0 : Int) ≤ _; omega, hn⟩
  have HP2 : Hid (∀ w2, Below w.heap.size w w2 → Calls Tryd.prog 7 #[.agg #[.int .i64 1, .string ⟨#[]⟩, r, .slice none 0 0, .slice none 0 0, .int .i64 0, .string ⟨#[]⟩, .string ⟨#[]⟩]] w2 fun e w' => e = .returned (.tuple #[.string (objS (rowsNode rows)), .int .i64 (objE (rowsNode rows))]) ∧ Below w2.heap.size w2 w') :=
    fun w2 hb => put7 1 ⟨#[]⟩ rows [] [] 0 ⟨#[]⟩ ⟨#[]⟩ r _ _ w2 ⟨h.rows.step hb, KidsAt.nil _ _, TxtsAt.nil _ _, by show (-9223372036854775808 : Int) ≤ 0; omega, by show (0 : Int) ≤ _; omega, h.num⟩
  have HEQ := Lib.hid (rowsNode_inj (l := l) (l' := rows) hn h.num)
  obtain ⟨A0, c0, rfl, g1, g2, g3⟩ := hl
  obtain ⟨A1, c1, e1, -, -, -⟩ := h.rows
  obtain ⟨A2, c2, e2, -, -, -⟩ := h.kids
  obtain ⟨A3, c3, e3, -, -, -⟩ := h.parents
  simp only at e1 e2 e3
  subst e1 e2 e3
  unfold maxLen at g2
  have HG := Lib.hid g3
  have HX : Hid (∀ b : Bool, (b == b) = true) := fun b => by simp
  unfold obVs at HO
  simp only at HO
  generalize objS (rowsNode l) = S1 at HP1 HEQ
  generalize objE (rowsNode l) = E1 at HP1 HEQ
  generalize objS (rowsNode rows) = S2 at HP2 HEQ
  generalize objE (rowsNode rows) = E2 at HP2 HEQ
  have hwb : Below w.heap.size w (w.alloc (.cells #[.int .i64 kd, .string label, .slice A1 rows.length c1, .slice A2 kids.length c2, .slice A3 parents.length c3, .int .i64 stamp, .string note, .string root] 27)) := hB
  have HB := Lib.hid hwb
  clear h hT h2 hB g3 hn hwb
  cases t1 : decide ((80 : Int) < (l.length : Int)) with
  | true =>
    go_enter Tryd.func4, Tryd.ntmps4
    go_wp2_with fail
    refine (HLV.out _ HB.out).mono ?_
    rintro _ w2 ⟨rfl, hb⟩
    have HB2 := Lib.hid (HB.out.trans (hb.mono HB.out.size))
    clear hb
    go_wp2
    go_ret
    exact ⟨rfl, HB2.out⟩
  | false =>
  obtain ⟨d0, d1, d2, d3, d4, d5, d6, d7, -, -⟩ := HO.out
  simp only at d0 d1 d5 d6 d7
  go_enter Tryd.func4, Tryd.ntmps4
  go_wp2_with fail
  refine HSM.out.mono ?_
  rintro _ w2 ⟨q, rfl, hb⟩
  have HO2 := Lib.hid (HO.out.step hb)
  have HB2 := Lib.hid (HB.out.trans (hb.mono HB.out.size))
  clear hb HO HB HSM d0 d1 d2 d3 d4 d5 d6 d7
  cases q with
  | false =>
    go_wp2_with fail
    refine (HLV.out _ HB2.out).mono ?_
    rintro _ w3 ⟨rfl, hb⟩
    have HB3 := Lib.hid (HB2.out.trans (hb.mono HB2.out.size))
    clear hb
    go_wp2
    go_ret
    exact ⟨rfl, HB3.out⟩
  | true =>
  go_wp2_with fail
  go_loop [5] (fun i => ∃ k : Nat, k ≤ l.length ∧ i = .int .i64 k) (fun i => l.length - (intOf i).toNat)
  case atStart => exact ⟨0, Nat.zero_le _, rfl⟩
  case round =>
    obtain ⟨j, hj, rfl⟩ := hrel
    by_cases hlt : j < l.length
    · obtain ⟨b, o, rfl, hb, hr⟩ := HG.out (by omega)
      have c4 := (HB2.out.cell (p := ⟨b, o + j * 5 + 4, none⟩) hb).trans (hr j hlt).c4
      generalize l[j].2.2.2.2 = s at c4
      clear hr
      cases hs : decide ((200 : Int) < (s.size : Int)) with
      | true =>
        go_wp2_with fail
        refine (HLV.out _ HB2.out).mono ?_
        rintro _ w3 ⟨rfl, hb3⟩
        have HB3 := Lib.hid (HB2.out.trans (hb3.mono HB2.out.size))
        clear hb3
        go_wp2
        go_ret
        exact ⟨rfl, HB3.out⟩
      | false =>
        go_wp2
        go_round
        case rel => exact ⟨j + 1, by omega, by go_num⟩
        case measure => simp [intOf]; omega
    · have hjl : j = l.length := by omega
      subst hjl
      go_wp2_with fail
      refine (HPR.out _ HB2.out).mono ?_
      rintro _ w3 ⟨hb3, A4, n4, c4, d4, rfl, hla⟩
      cases hok : rowsOK l with
      | false =>
        rw [hok] at hla
        have HO3 := Lib.hid ((HO2.out.step hb3).step ((Below.refl _ w3).alloc (Nat.le_refl _) (.cells #[.int .i64 0, .int .i64 0, .string ⟨#[]⟩, .slice A4 n4 c4] 47)))
        have HBA := Lib.hid ((HB2.out.trans (hb3.mono HB2.out.size)).alloc (HB2.out.trans (hb3.mono HB2.out.size)).size (.cells #[.int .i64 0, .int .i64 0, .string ⟨#[]⟩, .slice A4 n4 c4] 47))
        clear hb3 hla HPR HTR HO2 HB2
        simp only [Bool.false_eq_true, if_false]
        go_wp2_with fail
        generalize w3.alloc (.cells #[.int .i64 0, .int .i64 0, .string ⟨#[]⟩, .slice A4 n4 c4] 47) = wa at HO3 HBA ⊢
        obtain ⟨d0, d1, d2, d3, d4', d5, d6, d7, hz, -⟩ := HO3.out
        simp only at d0 d1 d2 d5 d6 d7
        clear d0 d1 d3 d4' d5 d6 d7
        go_region
        all_goals
          clear d2
          first
            | (obtain ⟨q1, q2, q3, q4⟩ := two_rows wa #[.int .i64 1, .string ⟨#[]⟩, .slice A0 l.length c0, .slice none 0 0, .slice none 0 0, .int .i64 0, .string ⟨#[]⟩, .string ⟨#[]⟩] #[.int .i64 1, .string ⟨#[]⟩, .slice A1 rows.length c1, .slice none 0 0, .slice none 0 0, .int .i64 0, .string ⟨#[]⟩, .string ⟨#[]⟩]
               obtain ⟨wb, hwb⟩ : ∃ wb, ((wa.alloc (.cells #[.int .i64 1, .string ⟨#[]⟩, .slice A0 l.length c0, .slice none 0 0, .slice none 0 0, .int .i64 0, .string ⟨#[]⟩, .string ⟨#[]⟩] 27)).alloc (.cells #[.int .i64 1, .string ⟨#[]⟩, .slice A1 rows.length c1, .slice none 0 0, .slice none 0 0, .int .i64 0, .string ⟨#[]⟩, .string ⟨#[]⟩] 27)).drew = wb := ⟨_, rfl⟩
               rw [hwb] at q1 q2 q3 q4 ⊢
               clear hwb
               obtain ⟨pa, hpa⟩ : ∃ pa, wa.heap.size = pa := ⟨_, rfl⟩
               obtain ⟨pb, hpb⟩ : ∃ pb, wa.heap.size + 1 = pb := ⟨_, rfl⟩
               have HR1 : Hid (wb.heap[pa]? = some (.cells #[.int .i64 1, .string ⟨#[]⟩, .slice A0 l.length c0, .slice none 0 0, .slice none 0 0, .int .i64 0, .string ⟨#[]⟩, .string ⟨#[]⟩] 27 (0, 0))) := by rw [← hpa]; exact q1
               have HR2 : Hid (wb.heap[pb]? = some (.cells #[.int .i64 1, .string ⟨#[]⟩, .slice A1 rows.length c1, .slice none 0 0, .slice none 0 0, .int .i64 0, .string ⟨#[]⟩, .string ⟨#[]⟩] 27 (0, 0))) := by rw [← hpb]; exact q2
               have HPB : Hid (pb < wb.heap.size) := by unfold Hid; omega
               rw [hpb, hpa])
            | (obtain ⟨q1, q2, q3, q4⟩ := two_rows wa #[.int .i64 1, .string ⟨#[]⟩, .slice A1 rows.length c1, .slice none 0 0, .slice none 0 0, .int .i64 0, .string ⟨#[]⟩, .string ⟨#[]⟩] #[.int .i64 1, .string ⟨#[]⟩, .slice A0 l.length c0, .slice none 0 0, .slice none 0 0, .int .i64 0, .string ⟨#[]⟩, .string ⟨#[]⟩]
               obtain ⟨wb, hwb⟩ : ∃ wb, ((wa.alloc (.cells #[.int .i64 1, .string ⟨#[]⟩, .slice A1 rows.length c1, .slice none 0 0, .slice none 0 0, .int .i64 0, .string ⟨#[]⟩, .string ⟨#[]⟩] 27)).alloc (.cells #[.int .i64 1, .string ⟨#[]⟩, .slice A0 l.length c0, .slice none 0 0, .slice none 0 0, .int .i64 0, .string ⟨#[]⟩, .string ⟨#[]⟩] 27)).drew = wb := ⟨_, rfl⟩
               rw [hwb] at q1 q2 q3 q4 ⊢
               clear hwb
               obtain ⟨pa, hpa⟩ : ∃ pa, wa.heap.size + 1 = pa := ⟨_, rfl⟩
               obtain ⟨pb, hpb⟩ : ∃ pb, wa.heap.size = pb := ⟨_, rfl⟩
               have HR1 : Hid (wb.heap[pa]? = some (.cells #[.int .i64 1, .string ⟨#[]⟩, .slice A0 l.length c0, .slice none 0 0, .slice none 0 0, .int .i64 0, .string ⟨#[]⟩, .string ⟨#[]⟩] 27 (0, 0))) := by rw [← hpa]; exact q2
               have HR2 : Hid (wb.heap[pb]? = some (.cells #[.int .i64 1, .string ⟨#[]⟩, .slice A1 rows.length c1, .slice none 0 0, .slice none 0 0, .int .i64 0, .string ⟨#[]⟩, .string ⟨#[]⟩] 27 (0, 0))) := by rw [← hpb]; exact q1
               have HPB : Hid (pb < wb.heap.size) := by unfold Hid; omega
               rw [hpa, hpb])
          have HOW := Lib.hid (HO3.out.step q3)
          have HBW := Lib.hid (HBA.out.trans (q3.mono HBA.out.size))
          clear q1 q2 q3 q4 hz hpa hpb HO3 HBA
          obtain ⟨x0, x1, x2, x3, x4, x5, x6, x7⟩ := obj_cells HR1.out
          go_wp2_with fail
          refine (HP1.out wb HBW.out).mono ?_
          rintro _ wc ⟨rfl, hbc⟩
          have HRC := Lib.hid ((hbc.block _ HPB.out).trans HR2.out)
          have HOC := Lib.hid (HOW.out.step hbc)
          have HBC := Lib.hid (HBW.out.trans (hbc.mono HBW.out.size))
          clear x0 x1 x2 x3 x4 x5 x6 x7 hbc HR1 HR2 HPB HOW HBW HP1
          obtain ⟨x0, x1, x2, x3, x4, x5, x6, x7⟩ := obj_cells HRC.out
          go_wp2_with fail
          refine (HP2.out wc HBC.out).mono ?_
          rintro _ wd ⟨rfl, hbd⟩
          have HOD := Lib.hid (HOC.out.step hbd)
          have HBD := Lib.hid (HBC.out.trans (hbd.mono HBC.out.size))
          clear x0 x1 x2 x3 x4 x5 x6 x7 hbd HRC HOC HBC HP2
          cases b1 : (E1 != 0) with
          | true =>
            go_wp2_with fail
            refine (HLV.out wd HBD.out).mono ?_
            rintro _ we ⟨rfl, hbe⟩
            have HBE := Lib.hid (HBD.out.trans (hbe.mono HBD.out.size))
            clear hbe
            go_wp2
            go_ret
            exact ⟨rfl, HBE.out⟩
          | false =>
            cases b2 : (E2 != 0) with
            | true =>
              go_wp2_with fail
              refine (HLV.out wd HBD.out).mono ?_
              rintro _ we ⟨rfl, hbe⟩
              have HBE := Lib.hid (HBD.out.trans (hbe.mono HBD.out.size))
              clear hbe
              go_wp2
              go_ret
              exact ⟨rfl, HBE.out⟩
            | false =>
              have heq := HEQ.out (by simpa using b1) (by simpa using b2)
              have HSD := Lib.hid (HSAME.out wd rows _ HBD.out (HSR.out wd HBD.out))
              rw [← heq] at HSD
              have HXX := Lib.hid (HX.out (S1.toList == S2.toList))
              clear heq HEQ
              have d2 := HOD.out.c2
              generalize hgen : (S1.toList == S2.toList) = g at HSD HXX
              go_wp2_with fail
              refine HSD.out.mono ?_
              rintro _ we ⟨rfl, hbe⟩
              have HBE := Lib.hid (HBD.out.trans (hbe.mono HBD.out.size))
              clear hbe HSD
              have hxx := HXX.out
              go_wp2_with fail
              refine (HLV.out we HBE.out).mono ?_
              rintro _ wf ⟨rfl, hbf⟩
              have HBF := Lib.hid (HBE.out.trans (hbf.mono HBE.out.size))
              clear hbf
              go_wp2
              go_ret
              exact ⟨rfl, HBF.out⟩
      | true =>
        rw [hok] at hla
        have HB3 := Lib.hid (HB2.out.trans (hb3.mono HB2.out.size))
        have hba : Below w3.heap.size w3 (w3.alloc (.cells #[.int .i64 3, .int .i64 0, .string ⟨#[]⟩, .slice A4 n4 c4] 47)) := (Below.refl _ w3).alloc (Nat.le_refl _) _
        have HBB := Lib.hid (HB3.out.trans (hba.mono HB3.out.size))
        have HOB := Lib.hid ((HO2.out.step hb3).step hba)
        have HT3 : Hid (Calls Tryd.prog 14 #[.agg #[.int .i64 3, .int .i64 0, .string ⟨#[]⟩, .slice A4 n4 c4]] (w3.alloc (.cells #[.int .i64 3, .int .i64 0, .string ⟨#[]⟩, .slice A4 n4 c4] 47)) (TRTo (w3.alloc (.cells #[.int .i64 3, .int .i64 0, .string ⟨#[]⟩, .slice A4 n4 c4] 47)) (l, 0))) := HTR.out hok d4 A4 n4 c4 _ (hla.step hba)
        clear hb3 hla hba HPR HTR HO2 HB2 HB3
        simp only [if_true]
        go_wp2_with fail
        refine HT3.out.mono ?_
        rintro _ w4 ⟨hb4, A5, n5, c5, rfl, hr5⟩
        have HB4 := Lib.hid (HBB.out.trans (hb4.mono HBB.out.size))
        have HO4 := Lib.hid (HOB.out.step hb4)
        have hs5 := HSAME.out w4 l _ HB4.out hr5
        rw [show decide (l = l) = true from decide_eq_true rfl] at hs5
        have HS5 := Lib.hid hs5
        clear hb4 hr5 hs5 HT3 HBB HOB
        go_wp2_with fail
        refine HS5.out.mono ?_
        rintro _ wa ⟨rfl, hb5⟩
        have HBA := Lib.hid (HB4.out.trans (hb5.mono HB4.out.size))
        have HO3 := Lib.hid (HO4.out.step hb5)
        clear hb5 HS5 HO4 HB4
        go_wp2_with fail
        obtain ⟨d0, d1, d2, d3, d4', d5, d6, d7, hz, -⟩ := HO3.out
        simp only at d0 d1 d2 d5 d6 d7
        clear d0 d1 d3 d4' d5 d6 d7
        go_region
        all_goals
          clear d2
          first
            | (obtain ⟨q1, q2, q3, q4⟩ := two_rows wa #[.int .i64 1, .string ⟨#[]⟩, .slice A0 l.length c0, .slice none 0 0, .slice none 0 0, .int .i64 0, .string ⟨#[]⟩, .string ⟨#[]⟩] #[.int .i64 1, .string ⟨#[]⟩, .slice A1 rows.length c1, .slice none 0 0, .slice none 0 0, .int .i64 0, .string ⟨#[]⟩, .string ⟨#[]⟩]
               obtain ⟨wb, hwb⟩ : ∃ wb, ((wa.alloc (.cells #[.int .i64 1, .string ⟨#[]⟩, .slice A0 l.length c0, .slice none 0 0, .slice none 0 0, .int .i64 0, .string ⟨#[]⟩, .string ⟨#[]⟩] 27)).alloc (.cells #[.int .i64 1, .string ⟨#[]⟩, .slice A1 rows.length c1, .slice none 0 0, .slice none 0 0, .int .i64 0, .string ⟨#[]⟩, .string ⟨#[]⟩] 27)).drew = wb := ⟨_, rfl⟩
               rw [hwb] at q1 q2 q3 q4 ⊢
               clear hwb
               obtain ⟨pa, hpa⟩ : ∃ pa, wa.heap.size = pa := ⟨_, rfl⟩
               obtain ⟨pb, hpb⟩ : ∃ pb, wa.heap.size + 1 = pb := ⟨_, rfl⟩
               have HR1 : Hid (wb.heap[pa]? = some (.cells #[.int .i64 1, .string ⟨#[]⟩, .slice A0 l.length c0, .slice none 0 0, .slice none 0 0, .int .i64 0, .string ⟨#[]⟩, .string ⟨#[]⟩] 27 (0, 0))) := by rw [← hpa]; exact q1
               have HR2 : Hid (wb.heap[pb]? = some (.cells #[.int .i64 1, .string ⟨#[]⟩, .slice A1 rows.length c1, .slice none 0 0, .slice none 0 0, .int .i64 0, .string ⟨#[]⟩, .string ⟨#[]⟩] 27 (0, 0))) := by rw [← hpb]; exact q2
               have HPB : Hid (pb < wb.heap.size) := by unfold Hid; omega
               rw [hpb, hpa])
            | (obtain ⟨q1, q2, q3, q4⟩ := two_rows wa #[.int .i64 1, .string ⟨#[]⟩, .slice A1 rows.length c1, .slice none 0 0, .slice none 0 0, .int .i64 0, .string ⟨#[]⟩, .string ⟨#[]⟩] #[.int .i64 1, .string ⟨#[]⟩, .slice A0 l.length c0, .slice none 0 0, .slice none 0 0, .int .i64 0, .string ⟨#[]⟩, .string ⟨#[]⟩]
               obtain ⟨wb, hwb⟩ : ∃ wb, ((wa.alloc (.cells #[.int .i64 1, .string ⟨#[]⟩, .slice A1 rows.length c1, .slice none 0 0, .slice none 0 0, .int .i64 0, .string ⟨#[]⟩, .string ⟨#[]⟩] 27)).alloc (.cells #[.int .i64 1, .string ⟨#[]⟩, .slice A0 l.length c0, .slice none 0 0, .slice none 0 0, .int .i64 0, .string ⟨#[]⟩, .string ⟨#[]⟩] 27)).drew = wb := ⟨_, rfl⟩
               rw [hwb] at q1 q2 q3 q4 ⊢
               clear hwb
               obtain ⟨pa, hpa⟩ : ∃ pa, wa.heap.size + 1 = pa := ⟨_, rfl⟩
               obtain ⟨pb, hpb⟩ : ∃ pb, wa.heap.size = pb := ⟨_, rfl⟩
               have HR1 : Hid (wb.heap[pa]? = some (.cells #[.int .i64 1, .string ⟨#[]⟩, .slice A0 l.length c0, .slice none 0 0, .slice none 0 0, .int .i64 0, .string ⟨#[]⟩, .string ⟨#[]⟩] 27 (0, 0))) := by rw [← hpa]; exact q2
               have HR2 : Hid (wb.heap[pb]? = some (.cells #[.int .i64 1, .string ⟨#[]⟩, .slice A1 rows.length c1, .slice none 0 0, .slice none 0 0, .int .i64 0, .string ⟨#[]⟩, .string ⟨#[]⟩] 27 (0, 0))) := by rw [← hpb]; exact q1
               have HPB : Hid (pb < wb.heap.size) := by unfold Hid; omega
               rw [hpa, hpb])
          have HOW := Lib.hid (HO3.out.step q3)
          have HBW := Lib.hid (HBA.out.trans (q3.mono HBA.out.size))
          clear q1 q2 q3 q4 hz hpa hpb HO3 HBA
          obtain ⟨x0, x1, x2, x3, x4, x5, x6, x7⟩ := obj_cells HR1.out
          go_wp2_with fail
          refine (HP1.out wb HBW.out).mono ?_
          rintro _ wc ⟨rfl, hbc⟩
          have HRC := Lib.hid ((hbc.block _ HPB.out).trans HR2.out)
          have HOC := Lib.hid (HOW.out.step hbc)
          have HBC := Lib.hid (HBW.out.trans (hbc.mono HBW.out.size))
          clear x0 x1 x2 x3 x4 x5 x6 x7 hbc HR1 HR2 HPB HOW HBW HP1
          obtain ⟨x0, x1, x2, x3, x4, x5, x6, x7⟩ := obj_cells HRC.out
          go_wp2_with fail
          refine (HP2.out wc HBC.out).mono ?_
          rintro _ wd ⟨rfl, hbd⟩
          have HOD := Lib.hid (HOC.out.step hbd)
          have HBD := Lib.hid (HBC.out.trans (hbd.mono HBC.out.size))
          clear x0 x1 x2 x3 x4 x5 x6 x7 hbd HRC HOC HBC HP2
          cases b1 : (E1 != 0) with
          | true =>
            go_wp2_with fail
            refine (HLV.out wd HBD.out).mono ?_
            rintro _ we ⟨rfl, hbe⟩
            have HBE := Lib.hid (HBD.out.trans (hbe.mono HBD.out.size))
            clear hbe
            go_wp2
            go_ret
            exact ⟨rfl, HBE.out⟩
          | false =>
            cases b2 : (E2 != 0) with
            | true =>
              go_wp2_with fail
              refine (HLV.out wd HBD.out).mono ?_
              rintro _ we ⟨rfl, hbe⟩
              have HBE := Lib.hid (HBD.out.trans (hbe.mono HBD.out.size))
              clear hbe
              go_wp2
              go_ret
              exact ⟨rfl, HBE.out⟩
            | false =>
              have heq := HEQ.out (by simpa using b1) (by simpa using b2)
              have HSD := Lib.hid (HSAME.out wd rows _ HBD.out (HSR.out wd HBD.out))
              rw [← heq] at HSD
              have HXX := Lib.hid (HX.out (S1.toList == S2.toList))
              clear heq HEQ
              have d2 := HOD.out.c2
              generalize hgen : (S1.toList == S2.toList) = g at HSD HXX
              go_wp2_with fail
              refine HSD.out.mono ?_
              rintro _ we ⟨rfl, hbe⟩
              have HBE := Lib.hid (HBD.out.trans (hbe.mono HBD.out.size))
              clear hbe HSD
              have hxx := HXX.out
              go_wp2_with fail
              refine (HLV.out we HBE.out).mono ?_
              rintro _ wf ⟨rfl, hbf⟩
              have HBF := Lib.hid (HBE.out.trans (hbf.mono HBE.out.size))
              clear hbf
              go_wp2
              go_ret
              exact ⟨rfl, HBF.out⟩
end Go.Proofs.YtmnknijjjicdbaaDoor
