/-
  The contract of readNode. No condition but that the cell is right.
-/
import Derived.Test.YtjanddnlhaionaaGreatDoorOZ
namespace Go.Proofs.YtjanddnlhaionaaGreatDoor
open Go.RowKit
open L4 (C LAt okC)
open L2 (Row Vl RowsAt rowsOK valOK)

set_option maxRecDepth 100000 in
theorem nodeM_eq {c : C} {a b x y : Sh} (h : fieldsM c 4 = some [a, b, x, y]) : nodeM c = if (isNum a && (numV a == 1)) = true then (if isTxt b = true then (listM rowM x).bind fun r => (listM kidM y).bind fun k => some ⟨1, txtV b, r, k, [], 0, ⟨#[]⟩, ⟨#[]⟩⟩ else none) else none := by
  unfold nodeM
  rw [h]
  cases a <;> cases b <;> simp [numM, txtM, isNum, isTxt, numV, txtV]

set_option maxRecDepth 100000 in
set_option maxHeartbeats 8000000 in
theorem readNode40 (d : Nat) (ck cn : Int) (cs : ByteArray) (cl : List C) (u : Value) (w : World) (h : LAt w w.heap.size d u cl) (hok : okC 16 (.mk ck cn cs cl) = true) :
    Calls Tryz.prog 116 #[.agg #[.int .i64 ck, .int .i64 cn, .string cs, u]] w (ObTo w (nodeM (.mk ck cn cs cl))) := by
  have hB : Below w.heap.size w ((w.alloc (.cells #[.int .i64 ck, .int .i64 cn, .string cs, u] 38)).alloc (.cells #[.int .i64 0, .string ⟨#[]⟩, .slice none 0 0, .slice none 0 0, .slice none 0 0, .int .i64 0, .string ⟨#[]⟩, .string ⟨#[]⟩] 27)) := ((Below.refl _ _).alloc (Nat.le_refl _) _).alloc (by simp) _
  have HB := Lib.hid hB
  have HF : Hid (Calls Tryz.prog 119 #[.agg #[.int .i64 ck, .int .i64 cn, .string cs, u], .int .i64 4] ((w.alloc (.cells #[.int .i64 ck, .int .i64 cn, .string cs, u] 38)).alloc (.cells #[.int .i64 0, .string ⟨#[]⟩, .slice none 0 0, .slice none 0 0, .slice none 0 0, .int .i64 0, .string ⟨#[]⟩, .string ⟨#[]⟩] 27)) (FieldsTo ((w.alloc (.cells #[.int .i64 ck, .int .i64 cn, .string cs, u] 38)).alloc (.cells #[.int .i64 0, .string ⟨#[]⟩, .slice none 0 0, .slice none 0 0, .slice none 0 0, .int .i64 0, .string ⟨#[]⟩, .string ⟨#[]⟩] 27)) (fieldsM (.mk ck cn cs cl) 4))) := readFields53 d ck cn cs cl u 4 (by omega) _ (h.step hB)
  have HP0 : Hid (((w.alloc (.cells #[.int .i64 ck, .int .i64 cn, .string cs, u] 38)).alloc (.cells #[.int .i64 0, .string ⟨#[]⟩, .slice none 0 0, .slice none 0 0, .slice none 0 0, .int .i64 0, .string ⟨#[]⟩, .string ⟨#[]⟩] 27)).heap[w.heap.size + 1]? = some (.cells #[.int .i64 0, .string ⟨#[]⟩, .slice none 0 0, .slice none 0 0, .slice none 0 0, .int .i64 0, .string ⟨#[]⟩, .string ⟨#[]⟩] 27 (0, 0))) := by
    unfold Hid
    have := heap_alloc_new (w.alloc (.cells #[.int .i64 ck, .int .i64 cn, .string cs, u] 38)) (.cells #[.int .i64 0, .string ⟨#[]⟩, .slice none 0 0, .slice none 0 0, .slice none 0 0, .int .i64 0, .string ⟨#[]⟩, .string ⟨#[]⟩] 27)
    simpa using this
  obtain ⟨c, hc⟩ : ∃ c, C.mk ck cn cs cl = c := ⟨_, rfl⟩
  rw [hc] at HF hok ⊢
  have HOK := Lib.hid hok
  obtain ⟨r, hr⟩ : ∃ r, nodeM c = r := ⟨_, rfl⟩
  rw [hr]
  have HR := Lib.hid hr
  obtain ⟨f, hf⟩ : ∃ f, fieldsM c 4 = f := ⟨_, rfl⟩
  rw [hf] at HF
  have HFM := Lib.hid hf
  have HSS : Hid (∀ (k : Int) (label : ByteArray) (A1 : Option Addr) (n1 c1 : Nat) (A2 : Option Addr) (n2 c2 : Nat) (A3 : Option Addr) (n3 c3 : Nat) (st : Int) (note root : ByteArray), (Tryz.prog.info? 27).map (·.size) = some (#[Value.int .i64 k, .string label, .slice A1 n1 c1, .slice A2 n2 c2, .slice A3 n3 c3, .int .i64 st, .string note, .string root]).size) := fun _ _ _ _ _ _ _ _ _ _ _ _ _ _ => size27
  have HA0 := Lib.hid (one8 0 ⟨#[]⟩ none 0 0 none 0 0 none 0 0 0 ⟨#[]⟩ ⟨#[]⟩)
  obtain ⟨A0, c0, rfl⟩ := h.slice
  clear hr hf hc h hB hok
  go_enter Tryz.func116, Tryz.ntmps116
  go_wp2_with fail
  refine HF.out.mono ?_
  rintro e w2 ⟨hb2, he⟩
  have HP2 : Hid (w2.heap[w.heap.size + 1]? = some (.cells #[.int .i64 0, .string ⟨#[]⟩, .slice none 0 0, .slice none 0 0, .slice none 0 0, .int .i64 0, .string ⟨#[]⟩, .string ⟨#[]⟩] 27 (0, 0))) := (hb2.block _ (by simp)).trans HP0.out
  have HZ : Hid (w.heap.size + 1 < w2.heap.size) := by have := hb2.size; simp at this; unfold Hid; omega
  have HB2 := Lib.hid (HB.out.trans (hb2.mono HB.out.size))
  clear hb2 HF HB HP0
  cases f with
  | none =>
    subst he
    have hr : r = none := by rw [← HR.out]; unfold nodeM; rw [HFM.out]
    subst hr
    clear HR HFM
    go_wp2_with (refine wpList_store_row (P := Tryz.prog) rfl 27 _ _ rfl (w.heap.size + 1) #[.int .i64 0, .string ⟨#[]⟩, .slice none 0 0, .slice none 0 0, .slice none 0 0, .int .i64 0, .string ⟨#[]⟩, .string ⟨#[]⟩] rfl rfl 27 _ HP2.out (HSS.out _ _ _ _ _ _ _ _ _ _ _ _ _ _) rfl HA0.out ?_)
    refine bodyPost_ret (results_ob Tryz.f116 rfl _ _ (w.heap.size + 1) 0 ⟨#[]⟩ none 0 0 none 0 0 none 0 0 0 ⟨#[]⟩ ⟨#[]⟩ false ?h2 ?h3 (setRow_heap _ (w.heap.size + 1) _ _ 27 (0, 0) HP2.out)) rfl ?_
    case h2 => rfl
    case h3 => rfl
    exact ⟨below_row HB2.out (by omega), _, _, _, _, _, _, _, _, _, _, _, _, _, _, _, rfl, rfl⟩
  | some L =>
    obtain ⟨v, d2, rfl, hv⟩ := he
    obtain ⟨l, -, hL, hl, hall⟩ := fields_some HFM.out
    match L, (show L.length = 4 by rw [hL, List.length_map, hl]) with
    | [a, b, x, y], hLl =>
      have HSH := Lib.hid (short_lists HOK.out HFM.out)
      have HKM := Lib.hid (nodeM_eq HFM.out)
      obtain ⟨bb, oo, cc, rfl, hbb, hg⟩ := shs_get hv rfl (by omega)
      obtain ⟨ua, ca, ha⟩ := hg 0 (by omega)
      obtain ⟨ub, cb, hb⟩ := hg 1 (by omega)
      obtain ⟨ux, cx, hx⟩ := hg 2 (by omega)
      obtain ⟨uy, cy, hy⟩ := hg 3 (by omega)
      rw [Nat.add_zero] at ca
      have htb := as_txt hb
      simp only [List.getElem_cons_zero, List.getElem_cons_succ] at htb ha hx hy
      have HKD := Lib.hid (isKind61 ha 1)
      have HRW := Lib.hid (readList28 d2 ux x w2 hx (HSH.out x (by simp)))
      have HKI := Lib.hid (fun w3 (hb3 : Below w2.heap.size w2 w3) => readList62 d2 uy y w3 (hy.keep hb3 hb3.size) (HSH.out y (by simp)))
      have HR2 : Hid ((if (isNum a && (numV a == 1)) = true then (if isTxt b = true then (listM rowM x).bind fun r => (listM kidM y).bind fun k => some (Ob.mk 1 (txtV b) r k [] 0 ⟨#[]⟩ ⟨#[]⟩) else none) else none) = r) := by unfold Hid; rw [← HKM.out]; exact HR.out
      clear ha hb hx hy hg hv hL hl HFM hLl hall HSH HR HKM
      generalize (isNum a && (numV a == 1)) = qa at HKD HR2
      generalize isTxt b = qb at htb HR2
      generalize txtV b = t at htb HR2
      generalize listM rowM x = r1 at HRW HR2
      generalize listM kidM y = r2 at HKI HR2
      cases qa with
      | false =>
        have hr : r = none := by rw [← HR2.out, if_neg (by simp)]
        subst hr
        clear HR2 HRW HKI
        go_wp2_with (first | (go_at_call 155; refine (HKD.out _).mono ?_; rintro _ w3 ⟨rfl, rfl⟩) | (refine wpList_store_row (P := Tryz.prog) rfl 27 _ _ rfl (w.heap.size + 1) #[.int .i64 0, .string ⟨#[]⟩, .slice none 0 0, .slice none 0 0, .slice none 0 0, .int .i64 0, .string ⟨#[]⟩, .string ⟨#[]⟩] rfl rfl 27 _ HP2.out (HSS.out _ _ _ _ _ _ _ _ _ _ _ _ _ _) rfl HA0.out ?_))
        refine bodyPost_ret (results_ob Tryz.f116 rfl _ _ (w.heap.size + 1) 0 ⟨#[]⟩ none 0 0 none 0 0 none 0 0 0 ⟨#[]⟩ ⟨#[]⟩ false ?h2 ?h3 (setRow_heap _ (w.heap.size + 1) _ _ 27 (0, 0) HP2.out)) rfl ?_
        case h2 => rfl
        case h3 => rfl
        exact ⟨below_row HB2.out (by omega), _, _, _, _, _, _, _, _, _, _, _, _, _, _, _, rfl, rfl⟩
      | true =>
        go_wp2_with (go_at_call 155; refine (HKD.out _).mono ?_; rintro _ w3 ⟨rfl, rfl⟩)
        refine HRW.out.mono ?_
        intro e3 w3 h3
        obtain ⟨hb3, A1, n1, c1, q1, rfl, hr1⟩ := rows_norm h3
        have cy3 := (hb3.cell (p := ⟨bb, oo + 3, none⟩) hbb).trans cy
        have HKI3 := Lib.hid (HKI.out w3 hb3)
        have HB3 := Lib.hid (HB2.out.trans (hb3.mono HB2.out.size))
        have HP3 := Lib.hid ((hb3.block _ HZ.out).trans HP2.out)
        have HZ3' : Hid (w.heap.size + 1 < w2.heap.size ∧ w.heap.size + 1 < w3.heap.size) := by have := hb3.size; have := HZ.out; unfold Hid; omega
        have HZ3 : Hid (w.heap.size + 1 < w3.heap.size) := by have := hb3.size; have := HZ.out; unfold Hid; omega
        have HR1 := Lib.hid hr1
        clear h3 hb3 HKI HRW HB2 HP2 HZ HKD hr1 ca cb cx cy
        go_wp2_with fail
        refine HKI3.out.mono ?_
        intro e4 w4 h4
        obtain ⟨hb4, A2, n2, c2, q2, rfl, hr2⟩ := kids_norm h4
        have HB4 := Lib.hid (HB3.out.trans (hb4.mono HB3.out.size))
        have HBA := Lib.hid ((hb4.mono (Nat.le_refl _)).trans ((Below.refl _ w4).alloc (Nat.le_refl _) (.cells #[.int .i64 1, .string t, .slice A1 n1 c1, .slice A2 n2 c2, .slice none 0 0, .int .i64 0, .string ⟨#[]⟩, .string ⟨#[]⟩] 27) |>.mono hb4.size))
        have HB5 := Lib.hid (HB4.out.alloc HB4.out.size (.cells #[.int .i64 1, .string t, .slice A1 n1 c1, .slice A2 n2 c2, .slice none 0 0, .int .i64 0, .string ⟨#[]⟩, .string ⟨#[]⟩] 27))
        have HP4 := Lib.hid ((HBA.out.block _ HZ3.out).trans HP3.out)
        have HA1 := Lib.hid (one8 1 t A1 n1 c1 A2 n2 c2 none 0 0 0 ⟨#[]⟩ ⟨#[]⟩)
        have HR2' := Lib.hid hr2
        have HB43 := Lib.hid hb4
        clear h4 hb4 HKI3 HB3 HP3 HZ3 hr2 cy3
        have fin : ∀ q, q = (qb && (q1 && q2)) → ObTo w r (.returned (.tuple #[.agg #[.int .i64 1, .string t, .slice A1 n1 c1, .slice A2 n2 c2, .slice none 0 0, .int .i64 0, .string ⟨#[]⟩, .string ⟨#[]⟩], .bool q])) ((w4.alloc (.cells #[.int .i64 1, .string t, .slice A1 n1 c1, .slice A2 n2 c2, .slice none 0 0, .int .i64 0, .string ⟨#[]⟩, .string ⟨#[]⟩] 27)).setRow (w.heap.size + 1) #[.int .i64 1, .string t, .slice A1 n1 c1, .slice A2 n2 c2, .slice none 0 0, .int .i64 0, .string ⟨#[]⟩, .string ⟨#[]⟩]) := by
          intro q hq
          subst hq
          refine ⟨below_row HB5.out (by omega), _, _, _, _, _, _, _, _, _, _, _, _, _, _, _, rfl, ?_⟩
          have h1 := HR1.out
          have h2 := HR2'.out
          rw [← HR2.out, if_pos (by trivial)]
          cases qb with
          | false => rw [if_neg (by decide)]; exact Bool.false_and _
          | true =>
            rw [if_pos rfl, Bool.true_and]
            cases r1 with
            | none => have h1 : q1 = false := h1; rw [h1]; exact Bool.false_and _
            | some l1 =>
              cases r2 with
              | none => have h2 : q2 = false := h2; rw [h2]; exact Bool.and_false _
              | some l2 =>
                obtain ⟨k1, k2, k3, k4⟩ := h1
                obtain ⟨m1, m2, m3⟩ := h2
                rw [k1, m1]
                have hz4 := HB43.out.size
                have hz3 := HZ3'.out
                refine ⟨rfl, ⟨_, _, _, rfl⟩, ⟨?_, ?_, TxtsAt.nil _ _, by show (-9223372036854775808 : Int) ≤ 0; omega, by show (0 : Int) ≤ _; omega, k4⟩, k3.mono (by omega), m3.mono (by omega), FreshV.nil _ _ _⟩
                · rw [setRow_size]
                  refine rows_same ((k2.below HB43.out).more hz4 |>.below ((Below.refl _ w4).alloc (Nat.le_refl _) _) |>.more ((Below.refl _ w4).alloc (Nat.le_refl _) _).size) fun b o n c e o' => L4.cell_same (setRow_other _ _ _ _ ?_) o'
                  have := k3 b o n c e
                  omega
                · rw [setRow_size]
                  refine kids_same ((m2.below ((Below.refl _ w4).alloc (Nat.le_refl _) _)).more ((Below.refl _ w4).alloc (Nat.le_refl _) _).size) fun b o n c e o' => L4.cell_same (setRow_other _ _ _ _ ?_) o'
                  have := m3 b o n c e
                  omega
        have FIN := Lib.hid fin
        clear fin
        cases qb with
        | false =>
          go_wp2_with (refine wpList_store_row (P := Tryz.prog) rfl 27 _ _ rfl (w.heap.size + 1) #[.int .i64 1, .string t, .slice A1 n1 c1, .slice A2 n2 c2, .slice none 0 0, .int .i64 0, .string ⟨#[]⟩, .string ⟨#[]⟩] rfl rfl 27 _ HP4.out (HSS.out _ _ _ _ _ _ _ _ _ _ _ _ _ _) rfl HA1.out ?_)
          refine bodyPost_ret (results_ob Tryz.f116 rfl _ _ (w.heap.size + 1) 1 t A1 n1 c1 A2 n2 c2 none 0 0 0 ⟨#[]⟩ ⟨#[]⟩ false ?h2 ?h3 (setRow_heap _ (w.heap.size + 1) _ _ 27 (0, 0) HP4.out)) rfl ?_
          case h2 => rfl
          case h3 => rfl
          exact FIN.out _ (by simp)
        | true =>
          cases q1 with
          | false =>
            go_wp2_with (refine wpList_store_row (P := Tryz.prog) rfl 27 _ _ rfl (w.heap.size + 1) #[.int .i64 1, .string t, .slice A1 n1 c1, .slice A2 n2 c2, .slice none 0 0, .int .i64 0, .string ⟨#[]⟩, .string ⟨#[]⟩] rfl rfl 27 _ HP4.out (HSS.out _ _ _ _ _ _ _ _ _ _ _ _ _ _) rfl HA1.out ?_)
            refine bodyPost_ret (results_ob Tryz.f116 rfl _ _ (w.heap.size + 1) 1 t A1 n1 c1 A2 n2 c2 none 0 0 0 ⟨#[]⟩ ⟨#[]⟩ false ?h2 ?h3 (setRow_heap _ (w.heap.size + 1) _ _ 27 (0, 0) HP4.out)) rfl ?_
            case h2 => rfl
            case h3 => rfl
            exact FIN.out _ (by simp)
          | true =>
            go_wp2_with (refine wpList_store_row (P := Tryz.prog) rfl 27 _ _ rfl (w.heap.size + 1) #[.int .i64 1, .string t, .slice A1 n1 c1, .slice A2 n2 c2, .slice none 0 0, .int .i64 0, .string ⟨#[]⟩, .string ⟨#[]⟩] rfl rfl 27 _ HP4.out (HSS.out _ _ _ _ _ _ _ _ _ _ _ _ _ _) rfl HA1.out ?_)
            refine bodyPost_ret (results_ob Tryz.f116 rfl _ _ (w.heap.size + 1) 1 t A1 n1 c1 A2 n2 c2 none 0 0 0 ⟨#[]⟩ ⟨#[]⟩ q2 ?h2 ?h3 (setRow_heap _ (w.heap.size + 1) _ _ 27 (0, 0) HP4.out)) rfl ?_
            case h2 => rfl
            case h3 => rfl
            exact FIN.out _ (by simp)
end Go.Proofs.YtjanddnlhaionaaGreatDoor
