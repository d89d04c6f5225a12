/-
  The contract of readNode. No condition but that the cell is right. The contract of readCommit. No condition but that the cell is right. The contracts of readObject and Take. No condition but on the length of the string. The contracts of Take and TakeRows. No condition but on lengths. The contract of Id; that of the law's small: it answers. No condition but the package's tables. The contract of the document's Same at two objects that are one as data. No condition. The round trip, plain; the contract of the law's lives. No condition but the package's tables.
-/
import Derived.Test.YtjanddnlhaionaaGreatDoorOx3
import Derived.Test.YtjanddnlhaionaaGreatDoorL4x3
import Derived.Test.YtjanddnlhaionaaGreatDoorL3x1
import Derived.Test.YtjanddnlhaionaaGreatDoorOx0
set_option maxRecDepth 100000
namespace Go.Proofs.YtjanddnlhaionaaGreatDoor
open Go.RowKit
open L4 (C LAt okC)
open L2 (Row Vl RowsAt rowsOK valOK)

theorem nodeM_eq {c : C} {a b x y : Sh} (h : fieldsM c 4 = some [a, b, x, y]) : nodeM c = if (isNum a && (numV a == 1)) = true then (if isTxt b = true then (listM rowM x).bind fun r => (listM kidM y).bind fun k => some ⟨1, txtV b, r, k, [], 0, ⟨#[]⟩, ⟨#[]⟩⟩ else none) else none := by
  unfold nodeM
  rw [h]
  cases a <;> cases b <;> simp [numM, txtM, isNum, isTxt, numV, txtV]

set_option maxHeartbeats 8000000 in
theorem readNode40 (d : Nat) (ck cn : Int) (cs : ByteArray) (cl : List C) (u : Value) (w : World) (h : LAt w w.heap.size d u cl) (hok : okC 16 (.mk ck cn cs cl) = true) :
    Calls Tryz.prog 116 #[.agg #[.int .i64 ck, .int .i64 cn, .string cs, u]] w (ObTo w (nodeM (.mk ck cn cs cl))) := by
  have hB : Below w.heap.size w ((w.alloc (.cells #[.int .i64 ck, .int .i64 cn, .string cs, u] 38)).alloc (.cells #[.int .i64 0, .string ⟨#[]⟩, .slice none 0 0, .slice none 0 0, .slice none 0 0, .int .i64 0, .string ⟨#[]⟩, .string ⟨#[]⟩] 27)) := ((Below.refl _ _).alloc (Nat.le_refl _) _).alloc (by simp) _
  have HB := Lib.hid hB
  have HF : Hid (Calls Tryz.prog 119 #[.agg #[.int .i64 ck, .int .i64 cn, .string cs, u], .int .i64 4] ((w.alloc (.cells #[.int .i64 ck, .int .i64 cn, .string cs, u] 38)).alloc (.cells #[.int .i64 0, .string ⟨#[]⟩, .slice none 0 0, .slice none 0 0, .slice none 0 0, .int .i64 0, .string ⟨#[]⟩, .string ⟨#[]⟩] 27)) (FieldsTo ((w.alloc (.cells #[.int .i64 ck, .int .i64 cn, .string cs, u] 38)).alloc (.cells #[.int .i64 0, .string ⟨#[]⟩, .slice none 0 0, .slice none 0 0, .slice none 0 0, .int .i64 0, .string ⟨#[]⟩, .string ⟨#[]⟩] 27)) (fieldsM (.mk ck cn cs cl) 4))) := readFields53 d ck cn cs cl u 4 (by omega) _ (h.step hB)
  have HP0 : Hid (((w.alloc (.cells #[.int .i64 ck, .int .i64 cn, .string cs, u] 38)).alloc (.cells #[.int .i64 0, .string ⟨#[]⟩, .slice none 0 0, .slice none 0 0, .slice none 0 0, .int .i64 0, .string ⟨#[]⟩, .string ⟨#[]⟩] 27)).heap[w.heap.size + 1]? = some (.cells #[.int .i64 0, .string ⟨#[]⟩, .slice none 0 0, .slice none 0 0, .slice none 0 0, .int .i64 0, .string ⟨#[]⟩, .string ⟨#[]⟩] 27 (0, 0))) := by
    unfold Hid
    have := heap_alloc_new (w.alloc (.cells #[.int .i64 ck, .int .i64 cn, .string cs, u] 38)) (.cells #[.int .i64 0, .string ⟨#[]⟩, .slice none 0 0, .slice none 0 0, .slice none 0 0, .int .i64 0, .string ⟨#[]⟩, .string ⟨#[]⟩] 27)
    simpa using this
  obtain ⟨c, hc⟩ : ∃ c, C.mk ck cn cs cl = c := ⟨_, rfl⟩
  rw [hc] at HF hok ⊢
  have HOK := Lib.hid hok
  obtain ⟨r, hr⟩ : ∃ r, nodeM c = r := ⟨_, rfl⟩
  rw [hr]
  have HR := Lib.hid hr
  obtain ⟨f, hf⟩ : ∃ f, fieldsM c 4 = f := ⟨_, rfl⟩
  rw [hf] at HF
  have HFM := Lib.hid hf
  have HSS : Hid (∀ (k : Int) (label : ByteArray) (A1 : Option Addr) (n1 c1 : Nat) (A2 : Option Addr) (n2 c2 : Nat) (A3 : Option Addr) (n3 c3 : Nat) (st : Int) (note root : ByteArray), (Tryz.prog.info? 27).map (·.size) = some (#[Value.int .i64 k, .string label, .slice A1 n1 c1, .slice A2 n2 c2, .slice A3 n3 c3, .int .i64 st, .string note, .string root]).size) := fun _ _ _ _ _ _ _ _ _ _ _ _ _ _ => size27
  have HA0 := Lib.hid (one8 0 ⟨#[]⟩ none 0 0 none 0 0 none 0 0 0 ⟨#[]⟩ ⟨#[]⟩)
  obtain ⟨A0, c0, rfl⟩ := h.slice
  clear hr hf hc h hB hok
  go_enter Tryz.func116, Tryz.ntmps116
  go_wp2_with fail
  refine HF.out.mono ?_
  rintro e w2 ⟨hb2, he⟩
  have HP2 : Hid (w2.heap[w.heap.size + 1]? = some (.cells #[.int .i64 0, .string ⟨#[]⟩, .slice none 0 0, .slice none 0 0, .slice none 0 0, .int .i64 0, .string ⟨#[]⟩, .string ⟨#[]⟩] 27 (0, 0))) := (hb2.block _ (by simp)).trans HP0.out
  have HZ : Hid (w.heap.size + 1 < w2.heap.size) := by have := hb2.size; simp at this; unfold Hid; omega
  have HB2 := Lib.hid (HB.out.trans (hb2.mono HB.out.size))
  clear hb2 HF HB HP0
  cases f with
  | none =>
    subst he
    have hr : r = none := by rw [← HR.out]; unfold nodeM; rw [HFM.out]
    subst hr
    clear HR HFM
    go_wp2_with (refine wpList_store_row (P := Tryz.prog) rfl 27 _ _ rfl (w.heap.size + 1) #[.int .i64 0, .string ⟨#[]⟩, .slice none 0 0, .slice none 0 0, .slice none 0 0, .int .i64 0, .string ⟨#[]⟩, .string ⟨#[]⟩] rfl rfl 27 _ HP2.out (HSS.out _ _ _ _ _ _ _ _ _ _ _ _ _ _) rfl HA0.out ?_)
    refine bodyPost_ret (results_ob Tryz.f116 rfl _ _ (w.heap.size + 1) 0 ⟨#[]⟩ none 0 0 none 0 0 none 0 0 0 ⟨#[]⟩ ⟨#[]⟩ false ?h2 ?h3 (setRow_heap _ (w.heap.size + 1) _ _ 27 (0, 0) HP2.out)) rfl ?_
    case h2 => rfl
    case h3 => rfl
    exact ⟨below_row HB2.out (by omega), _, _, _, _, _, _, _, _, _, _, _, _, _, _, _, rfl, rfl⟩
  | some L =>
    obtain ⟨v, d2, rfl, hv⟩ := he
    obtain ⟨l, -, hL, hl, hall⟩ := fields_some HFM.out
    match L, (show L.length = 4 by rw [hL, List.length_map, hl]) with
    | [a, b, x, y], hLl =>
      have HSH := Lib.hid (short_lists HOK.out HFM.out)
      have HKM := Lib.hid (nodeM_eq HFM.out)
      obtain ⟨bb, oo, cc, rfl, hbb, hg⟩ := shs_get hv rfl (by omega)
      obtain ⟨ua, ca, ha⟩ := hg 0 (by omega)
      obtain ⟨ub, cb, hb⟩ := hg 1 (by omega)
      obtain ⟨ux, cx, hx⟩ := hg 2 (by omega)
      obtain ⟨uy, cy, hy⟩ := hg 3 (by omega)
      rw [Nat.add_zero] at ca
      have htb := as_txt hb
      simp only [List.getElem_cons_zero, List.getElem_cons_succ] at htb ha hx hy
      have HKD := Lib.hid (isKind61 ha 1)
      have HRW := Lib.hid (readList28 d2 ux x w2 hx (HSH.out x (by simp)))
      have HKI := Lib.hid (fun w3 (hb3 : Below w2.heap.size w2 w3) => readList62 d2 uy y w3 (hy.keep hb3 hb3.size) (HSH.out y (by simp)))
      have HR2 : Hid ((if (isNum a && (numV a == 1)) = true then (if isTxt b = true then (listM rowM x).bind fun r => (listM kidM y).bind fun k => some (Ob.mk 1 (txtV b) r k [] 0 ⟨#[]⟩ ⟨#[]⟩) else none) else none) = r) := by unfold Hid; rw [← HKM.out]; exact HR.out
      clear ha hb hx hy hg hv hL hl HFM hLl hall HSH HR HKM
      generalize (isNum a && (numV a == 1)) = qa at HKD HR2
      generalize isTxt b = qb at htb HR2
      generalize txtV b = t at htb HR2
      generalize listM rowM x = r1 at HRW HR2
      generalize listM kidM y = r2 at HKI HR2
      cases qa with
      | false =>
        have hr : r = none := by rw [← HR2.out, if_neg (by simp)]
        subst hr
        clear HR2 HRW HKI
        go_wp2_with (first | (go_at_call 155; refine (HKD.out _).mono ?_; rintro _ w3 ⟨rfl, rfl⟩) | (refine wpList_store_row (P := Tryz.prog) rfl 27 _ _ rfl (w.heap.size + 1) #[.int .i64 0, .string ⟨#[]⟩, .slice none 0 0, .slice none 0 0, .slice none 0 0, .int .i64 0, .string ⟨#[]⟩, .string ⟨#[]⟩] rfl rfl 27 _ HP2.out (HSS.out _ _ _ _ _ _ _ _ _ _ _ _ _ _) rfl HA0.out ?_))
        refine bodyPost_ret (results_ob Tryz.f116 rfl _ _ (w.heap.size + 1) 0 ⟨#[]⟩ none 0 0 none 0 0 none 0 0 0 ⟨#[]⟩ ⟨#[]⟩ false ?h2 ?h3 (setRow_heap _ (w.heap.size + 1) _ _ 27 (0, 0) HP2.out)) rfl ?_
        case h2 => rfl
        case h3 => rfl
        exact ⟨below_row HB2.out (by omega), _, _, _, _, _, _, _, _, _, _, _, _, _, _, _, rfl, rfl⟩
      | true =>
        go_wp2_with (go_at_call 155; refine (HKD.out _).mono ?_; rintro _ w3 ⟨rfl, rfl⟩)
        refine HRW.out.mono ?_
        intro e3 w3 h3
        obtain ⟨hb3, A1, n1, c1, q1, rfl, hr1⟩ := rows_norm h3
        have cy3 := (hb3.cell (p := ⟨bb, oo + 3, none⟩) hbb).trans cy
        have HKI3 := Lib.hid (HKI.out w3 hb3)
        have HB3 := Lib.hid (HB2.out.trans (hb3.mono HB2.out.size))
        have HP3 := Lib.hid ((hb3.block _ HZ.out).trans HP2.out)
        have HZ3' : Hid (w.heap.size + 1 < w2.heap.size ∧ w.heap.size + 1 < w3.heap.size) := by have := hb3.size; have := HZ.out; unfold Hid; omega
        have HZ3 : Hid (w.heap.size + 1 < w3.heap.size) := by have := hb3.size; have := HZ.out; unfold Hid; omega
        have HR1 := Lib.hid hr1
        clear h3 hb3 HKI HRW HB2 HP2 HZ HKD hr1 ca cb cx cy
        go_wp2_with fail
        refine HKI3.out.mono ?_
        intro e4 w4 h4
        obtain ⟨hb4, A2, n2, c2, q2, rfl, hr2⟩ := kids_norm h4
        have HB4 := Lib.hid (HB3.out.trans (hb4.mono HB3.out.size))
        have HBA := Lib.hid ((hb4.mono (Nat.le_refl _)).trans ((Below.refl _ w4).alloc (Nat.le_refl _) (.cells #[.int .i64 1, .string t, .slice A1 n1 c1, .slice A2 n2 c2, .slice none 0 0, .int .i64 0, .string ⟨#[]⟩, .string ⟨#[]⟩] 27) |>.mono hb4.size))
        have HB5 := Lib.hid (HB4.out.alloc HB4.out.size (.cells #[.int .i64 1, .string t, .slice A1 n1 c1, .slice A2 n2 c2, .slice none 0 0, .int .i64 0, .string ⟨#[]⟩, .string ⟨#[]⟩] 27))
        have HP4 := Lib.hid ((HBA.out.block _ HZ3.out).trans HP3.out)
        have HA1 := Lib.hid (one8 1 t A1 n1 c1 A2 n2 c2 none 0 0 0 ⟨#[]⟩ ⟨#[]⟩)
        have HR2' := Lib.hid hr2
        have HB43 := Lib.hid hb4
        clear h4 hb4 HKI3 HB3 HP3 HZ3 hr2 cy3
        have fin : ∀ q, q = (qb && (q1 && q2)) → ObTo w r (.returned (.tuple #[.agg #[.int .i64 1, .string t, .slice A1 n1 c1, .slice A2 n2 c2, .slice none 0 0, .int .i64 0, .string ⟨#[]⟩, .string ⟨#[]⟩], .bool q])) ((w4.alloc (.cells #[.int .i64 1, .string t, .slice A1 n1 c1, .slice A2 n2 c2, .slice none 0 0, .int .i64 0, .string ⟨#[]⟩, .string ⟨#[]⟩] 27)).setRow (w.heap.size + 1) #[.int .i64 1, .string t, .slice A1 n1 c1, .slice A2 n2 c2, .slice none 0 0, .int .i64 0, .string ⟨#[]⟩, .string ⟨#[]⟩]) := by
          intro q hq
          subst hq
          refine ⟨below_row HB5.out (by omega), _, _, _, _, _, _, _, _, _, _, _, _, _, _, _, rfl, ?_⟩
          have h1 := HR1.out
          have h2 := HR2'.out
          rw [← HR2.out, if_pos (by trivial)]
          cases qb with
          | false => rw [if_neg (by decide)]; exact Bool.false_and _
          | true =>
            rw [if_pos rfl, Bool.true_and]
            cases r1 with
            | none => have h1 : q1 = false := h1; rw [h1]; exact Bool.false_and _
            | some l1 =>
              cases r2 with
              | none => have h2 : q2 = false := h2; rw [h2]; exact Bool.and_false _
              | some l2 =>
                obtain ⟨k1, k2, k3, k4⟩ := h1
                obtain ⟨m1, m2, m3⟩ := h2
                rw [k1, m1]
                have hz4 := HB43.out.size
                have hz3 := HZ3'.out
                refine ⟨rfl, ⟨_, _, _, rfl⟩, ⟨?_, ?_, TxtsAt.nil _ _, by show (-9223372036854775808 : Int) ≤ 0; omega, by show (0 : Int) ≤ _; omega, k4⟩, k3.mono (by omega), m3.mono (by omega), FreshV.nil _ _ _⟩
                · rw [setRow_size]
                  refine rows_same ((k2.below HB43.out).more hz4 |>.below ((Below.refl _ w4).alloc (Nat.le_refl _) _) |>.more ((Below.refl _ w4).alloc (Nat.le_refl _) _).size) fun b o n c e o' => L4.cell_same (setRow_other _ _ _ _ ?_) o'
                  have := k3 b o n c e
                  omega
                · rw [setRow_size]
                  refine kids_same ((m2.below ((Below.refl _ w4).alloc (Nat.le_refl _) _)).more ((Below.refl _ w4).alloc (Nat.le_refl _) _).size) fun b o n c e o' => L4.cell_same (setRow_other _ _ _ _ ?_) o'
                  have := m3 b o n c e
                  omega
        have FIN := Lib.hid fin
        clear fin
        cases qb with
        | false =>
          go_wp2_with (refine wpList_store_row (P := Tryz.prog) rfl 27 _ _ rfl (w.heap.size + 1) #[.int .i64 1, .string t, .slice A1 n1 c1, .slice A2 n2 c2, .slice none 0 0, .int .i64 0, .string ⟨#[]⟩, .string ⟨#[]⟩] rfl rfl 27 _ HP4.out (HSS.out _ _ _ _ _ _ _ _ _ _ _ _ _ _) rfl HA1.out ?_)
          refine bodyPost_ret (results_ob Tryz.f116 rfl _ _ (w.heap.size + 1) 1 t A1 n1 c1 A2 n2 c2 none 0 0 0 ⟨#[]⟩ ⟨#[]⟩ false ?h2 ?h3 (setRow_heap _ (w.heap.size + 1) _ _ 27 (0, 0) HP4.out)) rfl ?_
          case h2 => rfl
          case h3 => rfl
          exact FIN.out _ (by simp)
        | true =>
          cases q1 with
          | false =>
            go_wp2_with (refine wpList_store_row (P := Tryz.prog) rfl 27 _ _ rfl (w.heap.size + 1) #[.int .i64 1, .string t, .slice A1 n1 c1, .slice A2 n2 c2, .slice none 0 0, .int .i64 0, .string ⟨#[]⟩, .string ⟨#[]⟩] rfl rfl 27 _ HP4.out (HSS.out _ _ _ _ _ _ _ _ _ _ _ _ _ _) rfl HA1.out ?_)
            refine bodyPost_ret (results_ob Tryz.f116 rfl _ _ (w.heap.size + 1) 1 t A1 n1 c1 A2 n2 c2 none 0 0 0 ⟨#[]⟩ ⟨#[]⟩ false ?h2 ?h3 (setRow_heap _ (w.heap.size + 1) _ _ 27 (0, 0) HP4.out)) rfl ?_
            case h2 => rfl
            case h3 => rfl
            exact FIN.out _ (by simp)
          | true =>
            go_wp2_with (refine wpList_store_row (P := Tryz.prog) rfl 27 _ _ rfl (w.heap.size + 1) #[.int .i64 1, .string t, .slice A1 n1 c1, .slice A2 n2 c2, .slice none 0 0, .int .i64 0, .string ⟨#[]⟩, .string ⟨#[]⟩] rfl rfl 27 _ HP4.out (HSS.out _ _ _ _ _ _ _ _ _ _ _ _ _ _) rfl HA1.out ?_)
            refine bodyPost_ret (results_ob Tryz.f116 rfl _ _ (w.heap.size + 1) 1 t A1 n1 c1 A2 n2 c2 none 0 0 0 ⟨#[]⟩ ⟨#[]⟩ q2 ?h2 ?h3 (setRow_heap _ (w.heap.size + 1) _ _ 27 (0, 0) HP4.out)) rfl ?_
            case h2 => rfl
            case h3 => rfl
            exact FIN.out _ (by simp)
end Go.Proofs.YtjanddnlhaionaaGreatDoor
namespace Go.Proofs.YtjanddnlhaionaaGreatDoor
open Go.RowKit
open L4 (C LAt okC)
open L2 (Row Vl RowsAt rowsOK valOK)

theorem commitM_eq {c : C} {a p t n r : Sh} (h : fieldsM c 5 = some [a, p, t, n, r]) : commitM c = if (isNum a && (numV a == 2)) = true then ((listM textM p).bind fun x => if isNum t = true then (if isTxt n = true then (if isTxt r = true then some ⟨2, ⟨#[]⟩, [], [], x, numV t, txtV n, txtV r⟩ else none) else none) else none) else none := by
  unfold commitM
  rw [h]
  cases a <;> cases t <;> cases n <;> cases r <;> simp [numM, txtM, isNum, isTxt, numV, txtV]
theorem fields_num {c : C} {n : Nat} {L : List Sh} (h : fieldsM c n = some L) (hw : ∀ x ∈ c.l, L4.Wf x) : ∀ sh ∈ L, ∀ m, sh = .num m → -9223372036854775808 ≤ m ∧ m ≤ 9223372036854775807 := by
  obtain ⟨l, rfl, rfl, -, -⟩ := fields_some h
  intro sh hsh m e
  obtain ⟨x, hx, rfl⟩ := List.mem_map.1 hsh
  have hv := hw x (by simpa [listC, L4.l_mk] using hx)
  rw [sh_num.1 e] at hv
  exact ⟨hv.n0, hv.n1⟩

set_option maxHeartbeats 8000000 in
theorem readCommit41 (d : Nat) (ck cn : Int) (cs : ByteArray) (cl : List C) (u : Value) (w : World) (h : LAt w w.heap.size d u cl) (hok : okC 16 (.mk ck cn cs cl) = true) :
    Calls Tryz.prog 117 #[.agg #[.int .i64 ck, .int .i64 cn, .string cs, u]] w (ObTo w (commitM (.mk ck cn cs cl))) := by
  have hB : Below w.heap.size w ((w.alloc (.cells #[.int .i64 ck, .int .i64 cn, .string cs, u] 38)).alloc (.cells #[.int .i64 0, .string ⟨#[]⟩, .slice none 0 0, .slice none 0 0, .slice none 0 0, .int .i64 0, .string ⟨#[]⟩, .string ⟨#[]⟩] 27)) := ((Below.refl _ _).alloc (Nat.le_refl _) _).alloc (by simp) _
  have HB := Lib.hid hB
  have HF : Hid (Calls Tryz.prog 119 #[.agg #[.int .i64 ck, .int .i64 cn, .string cs, u], .int .i64 5] ((w.alloc (.cells #[.int .i64 ck, .int .i64 cn, .string cs, u] 38)).alloc (.cells #[.int .i64 0, .string ⟨#[]⟩, .slice none 0 0, .slice none 0 0, .slice none 0 0, .int .i64 0, .string ⟨#[]⟩, .string ⟨#[]⟩] 27)) (FieldsTo ((w.alloc (.cells #[.int .i64 ck, .int .i64 cn, .string cs, u] 38)).alloc (.cells #[.int .i64 0, .string ⟨#[]⟩, .slice none 0 0, .slice none 0 0, .slice none 0 0, .int .i64 0, .string ⟨#[]⟩, .string ⟨#[]⟩] 27)) (fieldsM (.mk ck cn cs cl) 5))) := readFields53 d ck cn cs cl u 5 (by omega) _ (h.step hB)
  have HP0 : Hid (((w.alloc (.cells #[.int .i64 ck, .int .i64 cn, .string cs, u] 38)).alloc (.cells #[.int .i64 0, .string ⟨#[]⟩, .slice none 0 0, .slice none 0 0, .slice none 0 0, .int .i64 0, .string ⟨#[]⟩, .string ⟨#[]⟩] 27)).heap[w.heap.size + 1]? = some (.cells #[.int .i64 0, .string ⟨#[]⟩, .slice none 0 0, .slice none 0 0, .slice none 0 0, .int .i64 0, .string ⟨#[]⟩, .string ⟨#[]⟩] 27 (0, 0))) := by
    unfold Hid
    have := heap_alloc_new (w.alloc (.cells #[.int .i64 ck, .int .i64 cn, .string cs, u] 38)) (.cells #[.int .i64 0, .string ⟨#[]⟩, .slice none 0 0, .slice none 0 0, .slice none 0 0, .int .i64 0, .string ⟨#[]⟩, .string ⟨#[]⟩] 27)
    simpa using this
  obtain ⟨c, hc⟩ : ∃ c, C.mk ck cn cs cl = c := ⟨_, rfl⟩
  rw [hc] at HF hok ⊢
  have HOK := Lib.hid hok
  have HWF : Hid (∀ x ∈ c.l, L4.Wf x) := by unfold Hid; rw [← hc]; exact lat_wf h
  obtain ⟨r, hr⟩ : ∃ r, commitM c = r := ⟨_, rfl⟩
  rw [hr]
  have HR := Lib.hid hr
  obtain ⟨f, hf⟩ : ∃ f, fieldsM c 5 = f := ⟨_, rfl⟩
  rw [hf] at HF
  have HFM := Lib.hid hf
  have HSS : Hid (∀ (k : Int) (label : ByteArray) (A1 : Option Addr) (n1 c1 : Nat) (A2 : Option Addr) (n2 c2 : Nat) (A3 : Option Addr) (n3 c3 : Nat) (st : Int) (note root : ByteArray), (Tryz.prog.info? 27).map (·.size) = some (#[Value.int .i64 k, .string label, .slice A1 n1 c1, .slice A2 n2 c2, .slice A3 n3 c3, .int .i64 st, .string note, .string root]).size) := fun _ _ _ _ _ _ _ _ _ _ _ _ _ _ => size27
  have HA0 := Lib.hid (one8 0 ⟨#[]⟩ none 0 0 none 0 0 none 0 0 0 ⟨#[]⟩ ⟨#[]⟩)
  obtain ⟨A0, c0, rfl⟩ := h.slice
  clear hr hf hc h hB hok
  go_enter Tryz.func117, Tryz.ntmps117
  go_wp2_with fail
  refine HF.out.mono ?_
  rintro e w2 ⟨hb2, he⟩
  have HP2 : Hid (w2.heap[w.heap.size + 1]? = some (.cells #[.int .i64 0, .string ⟨#[]⟩, .slice none 0 0, .slice none 0 0, .slice none 0 0, .int .i64 0, .string ⟨#[]⟩, .string ⟨#[]⟩] 27 (0, 0))) := (hb2.block _ (by simp)).trans HP0.out
  have HZ : Hid (w.heap.size + 1 < w2.heap.size) := by have := hb2.size; simp at this; unfold Hid; omega
  have HB2 := Lib.hid (HB.out.trans (hb2.mono HB.out.size))
  clear hb2 HF HB HP0
  cases f with
  | none =>
    subst he
    have hr : r = none := by rw [← HR.out]; unfold commitM; rw [HFM.out]
    subst hr
    clear HR HFM
    go_wp2_with (refine wpList_store_row (P := Tryz.prog) rfl 27 _ _ rfl (w.heap.size + 1) #[.int .i64 0, .string ⟨#[]⟩, .slice none 0 0, .slice none 0 0, .slice none 0 0, .int .i64 0, .string ⟨#[]⟩, .string ⟨#[]⟩] rfl rfl 27 _ HP2.out (HSS.out _ _ _ _ _ _ _ _ _ _ _ _ _ _) rfl HA0.out ?_)
    refine bodyPost_ret (results_ob Tryz.f117 rfl _ _ (w.heap.size + 1) 0 ⟨#[]⟩ none 0 0 none 0 0 none 0 0 0 ⟨#[]⟩ ⟨#[]⟩ false ?h2 ?h3 (setRow_heap _ (w.heap.size + 1) _ _ 27 (0, 0) HP2.out)) rfl ?_
    case h2 => rfl
    case h3 => rfl
    exact ⟨below_row HB2.out (by omega), _, _, _, _, _, _, _, _, _, _, _, _, _, _, _, rfl, rfl⟩
  | some L =>
    obtain ⟨v, d2, rfl, hv⟩ := he
    obtain ⟨l, -, hL, hl, hall⟩ := fields_some HFM.out
    match L, (show L.length = 5 by rw [hL, List.length_map, hl]) with
    | [a, b, x, y, z], hLl =>
      have HSH := Lib.hid (short_lists HOK.out HFM.out)
      have HKM := Lib.hid (commitM_eq HFM.out)
      have HNB := Lib.hid (fields_num HFM.out HWF.out)
      obtain ⟨bb, oo, cc, rfl, hbb, hg⟩ := shs_get hv rfl (by omega)
      obtain ⟨ua, ca, ha⟩ := hg 0 (by omega)
      obtain ⟨ub, cb, hb⟩ := hg 1 (by omega)
      obtain ⟨ux, cx, hx⟩ := hg 2 (by omega)
      obtain ⟨uy, cy, hy⟩ := hg 3 (by omega)
      obtain ⟨uz, cz, hz⟩ := hg 4 (by omega)
      rw [Nat.add_zero] at ca
      have htx := as_num hx
      have hty := as_txt hy
      have htz := as_txt hz
      simp only [List.getElem_cons_zero, List.getElem_cons_succ] at htx hty htz ha hb
      have HKD := Lib.hid (isKind61 ha 2)
      have HRW := Lib.hid (readList64 d2 ub b w2 hb (HSH.out b (by simp)))
      have HST : Hid (-9223372036854775808 ≤ numV x ∧ numV x ≤ 9223372036854775807) := by
        unfold Hid
        cases x with
        | num n => exact HNB.out _ (by simp) n rfl
        | _ => exact ⟨by show (-9223372036854775808 : Int) ≤ 0; omega, by show (0 : Int) ≤ _; omega⟩
      have HR2 : Hid ((if (isNum a && (numV a == 2)) = true then ((listM textM b).bind fun p => if isNum x = true then (if isTxt y = true then (if isTxt z = true then some (Ob.mk 2 ⟨#[]⟩ [] [] p (numV x) (txtV y) (txtV z)) else none) else none) else none) else none) = r) := by unfold Hid; rw [← HKM.out]; exact HR.out
      clear ha hb hx hy hz hg hv hL hl HFM hLl hall HSH HR HKM HNB
      generalize (isNum a && (numV a == 2)) = qa at HKD HR2
      generalize isNum x = qx at htx HR2
      generalize isTxt y = qy at hty HR2
      generalize isTxt z = qz at htz HR2
      generalize numV x = st at htx HR2 HST
      generalize txtV y = nt at hty HR2
      generalize txtV z = rt at htz HR2
      generalize listM textM b = r1 at HRW HR2
      cases qa with
      | false =>
        have hr : r = none := by rw [← HR2.out, if_neg (by simp)]
        subst hr
        clear HR2 HRW
        go_wp2_with (first | (go_at_call 155; refine (HKD.out _).mono ?_; rintro _ w3 ⟨rfl, rfl⟩) | (refine wpList_store_row (P := Tryz.prog) rfl 27 _ _ rfl (w.heap.size + 1) #[.int .i64 0, .string ⟨#[]⟩, .slice none 0 0, .slice none 0 0, .slice none 0 0, .int .i64 0, .string ⟨#[]⟩, .string ⟨#[]⟩] rfl rfl 27 _ HP2.out (HSS.out _ _ _ _ _ _ _ _ _ _ _ _ _ _) rfl HA0.out ?_))
        refine bodyPost_ret (results_ob Tryz.f117 rfl _ _ (w.heap.size + 1) 0 ⟨#[]⟩ none 0 0 none 0 0 none 0 0 0 ⟨#[]⟩ ⟨#[]⟩ false ?h2 ?h3 (setRow_heap _ (w.heap.size + 1) _ _ 27 (0, 0) HP2.out)) rfl ?_
        case h2 => rfl
        case h3 => rfl
        exact ⟨below_row HB2.out (by omega), _, _, _, _, _, _, _, _, _, _, _, _, _, _, _, rfl, rfl⟩
      | true =>
        go_wp2_with (go_at_call 155; refine (HKD.out _).mono ?_; rintro _ w3 ⟨rfl, rfl⟩)
        refine HRW.out.mono ?_
        intro e3 w3 h3
        obtain ⟨hb3, A3, n3, c3, q1, rfl, hr1⟩ := txts_norm h3
        have cx3 := (hb3.cell (p := ⟨bb, oo + 2, none⟩) hbb).trans cx
        have cy3 := (hb3.cell (p := ⟨bb, oo + 3, none⟩) hbb).trans cy
        have cz3 := (hb3.cell (p := ⟨bb, oo + 4, none⟩) hbb).trans cz
        have HB4 := Lib.hid (HB2.out.trans (hb3.mono HB2.out.size))
        have HB5 := Lib.hid (HB4.out.alloc HB4.out.size (.cells #[.int .i64 2, .string ⟨#[]⟩, .slice none 0 0, .slice none 0 0, .slice A3 n3 c3, .int .i64 st, .string nt, .string rt] 27))
        have HP4 : Hid ((w3.alloc (.cells #[.int .i64 2, .string ⟨#[]⟩, .slice none 0 0, .slice none 0 0, .slice A3 n3 c3, .int .i64 st, .string nt, .string rt] 27)).heap[w.heap.size + 1]? = some (.cells #[.int .i64 0, .string ⟨#[]⟩, .slice none 0 0, .slice none 0 0, .slice none 0 0, .int .i64 0, .string ⟨#[]⟩, .string ⟨#[]⟩] 27 (0, 0))) :=
          (Below.heap_alloc w3 _ _ (Nat.lt_of_lt_of_le HZ.out hb3.size)).trans ((hb3.block _ HZ.out).trans HP2.out)
        have HA1 := Lib.hid (one8 2 ⟨#[]⟩ none 0 0 none 0 0 A3 n3 c3 st nt rt)
        have HR1 := Lib.hid hr1
        have HB32 := Lib.hid hb3
        clear h3 hb3 HRW HB2 HP2 HKD hr1 ca cb cx cy cz
        have fin : ∀ q, q = (q1 && (qx && (qy && qz))) → ObTo w r (.returned (.tuple #[.agg #[.int .i64 2, .string ⟨#[]⟩, .slice none 0 0, .slice none 0 0, .slice A3 n3 c3, .int .i64 st, .string nt, .string rt], .bool q])) ((w3.alloc (.cells #[.int .i64 2, .string ⟨#[]⟩, .slice none 0 0, .slice none 0 0, .slice A3 n3 c3, .int .i64 st, .string nt, .string rt] 27)).setRow (w.heap.size + 1) #[.int .i64 2, .string ⟨#[]⟩, .slice none 0 0, .slice none 0 0, .slice A3 n3 c3, .int .i64 st, .string nt, .string rt]) := by
          intro q hq
          subst hq
          refine ⟨below_row HB5.out (by omega), _, _, _, _, _, _, _, _, _, _, _, _, _, _, _, rfl, ?_⟩
          have h1 := HR1.out
          rw [← HR2.out, if_pos (by trivial)]
          cases r1 with
          | none => have h1 : q1 = false := h1; rw [h1]; exact Bool.false_and _
          | some l1 =>
            obtain ⟨k1, k2, k3⟩ := h1
            rw [k1, Bool.true_and, Option.bind_some]
            cases qx with
            | false => rw [if_neg (by decide)]; exact Bool.false_and _
            | true =>
              rw [if_pos (by trivial), Bool.true_and]
              cases qy with
              | false => rw [if_neg (by decide)]; exact Bool.false_and _
              | true =>
                rw [if_pos (by trivial), Bool.true_and]
                cases qz with
                | false => rw [if_neg (by decide)]
                | true =>
                  rw [if_pos (by trivial)]
                  have hz2 := HZ.out
                  refine ⟨rfl, ⟨_, _, _, rfl⟩, ⟨rowsNil _ _, KidsAt.nil _ _, ?_, HST.out.1, HST.out.2, by intro r hr; cases hr⟩, FreshV.nil _ _ _, FreshV.nil _ _ _, k3.mono (by omega)⟩
                  rw [setRow_size]
                  refine txts_same ((k2.below ((Below.refl _ w3).alloc (Nat.le_refl _) _)).more ((Below.refl _ w3).alloc (Nat.le_refl _) _).size) fun b o n c e o' => L4.cell_same (setRow_other _ _ _ _ ?_) o'
                  have := k3 b o n c e
                  omega
        have FIN := Lib.hid fin
        clear fin
        cases q1 with
        | false =>
          go_wp2_with (refine wpList_store_row (P := Tryz.prog) rfl 27 _ _ rfl (w.heap.size + 1) #[.int .i64 2, .string ⟨#[]⟩, .slice none 0 0, .slice none 0 0, .slice A3 n3 c3, .int .i64 st, .string nt, .string rt] rfl rfl 27 _ HP4.out (HSS.out _ _ _ _ _ _ _ _ _ _ _ _ _ _) rfl HA1.out ?_)
          refine bodyPost_ret (results_ob Tryz.f117 rfl _ _ (w.heap.size + 1) 2 ⟨#[]⟩ none 0 0 none 0 0 A3 n3 c3 st nt rt false ?h2 ?h3 (setRow_heap _ (w.heap.size + 1) _ _ 27 (0, 0) HP4.out)) rfl ?_
          case h2 => rfl
          case h3 => rfl
          exact FIN.out _ (by simp)
        | true =>
          cases qx with
          | false =>
            go_wp2_with (refine wpList_store_row (P := Tryz.prog) rfl 27 _ _ rfl (w.heap.size + 1) #[.int .i64 2, .string ⟨#[]⟩, .slice none 0 0, .slice none 0 0, .slice A3 n3 c3, .int .i64 st, .string nt, .string rt] rfl rfl 27 _ HP4.out (HSS.out _ _ _ _ _ _ _ _ _ _ _ _ _ _) rfl HA1.out ?_)
            refine bodyPost_ret (results_ob Tryz.f117 rfl _ _ (w.heap.size + 1) 2 ⟨#[]⟩ none 0 0 none 0 0 A3 n3 c3 st nt rt false ?h2 ?h3 (setRow_heap _ (w.heap.size + 1) _ _ 27 (0, 0) HP4.out)) rfl ?_
            case h2 => rfl
            case h3 => rfl
            exact FIN.out _ (by simp)
          | true =>
            cases qy with
            | false =>
              go_wp2_with (refine wpList_store_row (P := Tryz.prog) rfl 27 _ _ rfl (w.heap.size + 1) #[.int .i64 2, .string ⟨#[]⟩, .slice none 0 0, .slice none 0 0, .slice A3 n3 c3, .int .i64 st, .string nt, .string rt] rfl rfl 27 _ HP4.out (HSS.out _ _ _ _ _ _ _ _ _ _ _ _ _ _) rfl HA1.out ?_)
              refine bodyPost_ret (results_ob Tryz.f117 rfl _ _ (w.heap.size + 1) 2 ⟨#[]⟩ none 0 0 none 0 0 A3 n3 c3 st nt rt false ?h2 ?h3 (setRow_heap _ (w.heap.size + 1) _ _ 27 (0, 0) HP4.out)) rfl ?_
              case h2 => rfl
              case h3 => rfl
              exact FIN.out _ (by simp)
            | true =>
              go_wp2_with (refine wpList_store_row (P := Tryz.prog) rfl 27 _ _ rfl (w.heap.size + 1) #[.int .i64 2, .string ⟨#[]⟩, .slice none 0 0, .slice none 0 0, .slice A3 n3 c3, .int .i64 st, .string nt, .string rt] rfl rfl 27 _ HP4.out (HSS.out _ _ _ _ _ _ _ _ _ _ _ _ _ _) rfl HA1.out ?_)
              refine bodyPost_ret (results_ob Tryz.f117 rfl _ _ (w.heap.size + 1) 2 ⟨#[]⟩ none 0 0 none 0 0 A3 n3 c3 st nt rt qz ?h2 ?h3 (setRow_heap _ (w.heap.size + 1) _ _ 27 (0, 0) HP4.out)) rfl ?_
              case h2 => rfl
              case h3 => rfl
              exact FIN.out _ (by simp)
end Go.Proofs.YtjanddnlhaionaaGreatDoor
namespace Go.Proofs.YtjanddnlhaionaaGreatDoor
open Go.RowKit
open L4 (C LAt okC Fit putS takeM nextM TakeTo)
open L2 (Row Vl RowsAt rowsOK valOK)

theorem ObAt.row {lo B : Nat} {w : World} {r k p : Value} {o : Ob} {cs : Array Value} (h : ObAt w r k p o) (hr : FreshV lo r) (hk : FreshV lo k) (hp : FreshV lo p) (hB : B < lo) : ObAt (w.setRow B cs) r k p o := by
  refine ⟨?_, ?_, ?_, h.s0, h.s1, h.num⟩
  · rw [setRow_size]
    exact rows_same h.rows fun b o n c e o' => L4.cell_same (setRow_other _ _ _ _ (by have := hr b o n c e; omega)) o'
  · rw [setRow_size]
    exact kids_same h.kids fun b o n c e o' => L4.cell_same (setRow_other _ _ _ _ (by have := hk b o n c e; omega)) o'
  · rw [setRow_size]
    exact txts_same h.parents fun b o n c e o' => L4.cell_same (setRow_other _ _ _ _ (by have := hp b o n c e; omega)) o'

theorem results_ob' (f : Func) (hf : f.results = #[.cell 2 27, .tmp 3]) (tmps : Array Value) (w : World) (P : Nat) (k : Int) (label : ByteArray) (A1 : Option Addr) (n1 c1 : Nat) (A2 : Option Addr) (n2 c2 : Nat) (A3 : Option Addr) (n3 c3 : Nat) (st : Int) (note root : ByteArray) (q : Int)
    (hp2 : tmps[2]?.getD undef = .pointer (some ⟨P, 0, none⟩)) (hp3 : tmps[3]?.getD undef = .int .i64 q) (h0 : w.heap[P]? = some (.cells #[.int .i64 k, .string label, .slice A1 n1 c1, .slice A2 n2 c2, .slice A3 n3 c3, .int .i64 st, .string note, .string root] 27 (0, 0))) :
    (results f tmps).run Tryz.prog w = .ok (.tuple #[.agg #[.int .i64 k, .string label, .slice A1 n1 c1, .slice A2 n2 c2, .slice A3 n3 c3, .int .i64 st, .string note, .string root], .int .i64 q]) w := by
  have p0 := cell_of_row w P 0 _ 27 (0, 0) h0
  have p1 := cell_of_row w P 1 _ 27 (0, 0) h0
  have p2 := cell_of_row w P 2 _ 27 (0, 0) h0
  have p3 := cell_of_row w P 3 _ 27 (0, 0) h0
  have p4 := cell_of_row w P 4 _ 27 (0, 0) h0
  have p5 := cell_of_row w P 5 _ 27 (0, 0) h0
  have p6 := cell_of_row w P 6 _ 27 (0, 0) h0
  have p7 := cell_of_row w P 7 _ 27 (0, 0) h0
  simp [results, hf, hp2, hp3, asAddr, go_sem, p0, p1, p2, p3, p4, p5, p6, p7]

/-- A cell and an object, each in a block of its own. -/
structure CO (w : World) (k n : Int) (s : ByteArray) (A : Option Addr) (l c : Nat) (W : World) : Prop where
  c0 : W.cell? ⟨w.heap.size, 0, none⟩ = some (.int .i64 k)
  c1 : W.cell? ⟨w.heap.size, 1, none⟩ = some (.int .i64 n)
  c2 : W.cell? ⟨w.heap.size, 2, none⟩ = some (.string s)
  c3 : W.cell? ⟨w.heap.size, 3, none⟩ = some (.slice A l c)
  row : W.heap[w.heap.size + 1]? = some (.cells #[.int .i64 0, .string ⟨#[]⟩, .slice none 0 0, .slice none 0 0, .slice none 0 0, .int .i64 0, .string ⟨#[]⟩, .string ⟨#[]⟩] 27 (0, 0))
  below : Below w.heap.size w W
  lt : w.heap.size + 1 < W.heap.size
theorem CO.start (w : World) (k n : Int) (s : ByteArray) (A : Option Addr) (l c : Nat) : CO w k n s A l c ((w.alloc (.cells #[.int .i64 k, .int .i64 n, .string s, .slice A l c] 38)).alloc (.cells #[.int .i64 0, .string ⟨#[]⟩, .slice none 0 0, .slice none 0 0, .slice none 0 0, .int .i64 0, .string ⟨#[]⟩, .string ⟨#[]⟩] 27)) :=
  ⟨by simp [go_sem], by simp [go_sem], by simp [go_sem], by simp [go_sem], by
    have := heap_alloc_new (w.alloc (.cells #[.int .i64 k, .int .i64 n, .string s, .slice A l c] 38)) (.cells #[.int .i64 0, .string ⟨#[]⟩, .slice none 0 0, .slice none 0 0, .slice none 0 0, .int .i64 0, .string ⟨#[]⟩, .string ⟨#[]⟩] 27)
    simpa using this, ((Below.refl _ _).alloc (Nat.le_refl _) _).alloc (by simp) _, by simp⟩
theorem CO.step {w : World} {k n : Int} {s : ByteArray} {A : Option Addr} {l c : Nat} {W W' : World} (h : CO w k n s A l c W) (hb : Below W.heap.size W W') : CO w k n s A l c W' := by
  have hl := h.lt
  have hq : ∀ j, W'.cell? ⟨w.heap.size, j, none⟩ = W.cell? ⟨w.heap.size, j, none⟩ := fun j => hb.cell (p := ⟨w.heap.size, j, none⟩) (show w.heap.size < _ by omega)
  exact ⟨(hq _).trans h.c0, (hq _).trans h.c1, (hq _).trans h.c2, (hq _).trans h.c3, (hb.block _ h.lt).trans h.row, h.below.trans (hb.mono (by omega)), Nat.lt_of_lt_of_le h.lt hb.size⟩

set_option maxHeartbeats 8000000 in
theorem readObject19 (d : Nat) (ck cn : Int) (cs : ByteArray) (cl : List C) (u : Value) (w : World) (h : LAt w w.heap.size d u cl) (hok : okC 16 (.mk ck cn cs cl) = true) :
    Calls Tryz.prog 60 #[.agg #[.int .i64 ck, .int .i64 cn, .string cs, u]] w (ObTo w (objM (.mk ck cn cs cl))) := by
  obtain ⟨A0, c0, rfl⟩ := h.slice
  have HCO := Lib.hid (CO.start w ck cn cs A0 cl.length c0)
  have HN : Hid (Calls Tryz.prog 116 #[.agg #[.int .i64 ck, .int .i64 cn, .string cs, .slice A0 cl.length c0]] ((w.alloc (.cells #[.int .i64 ck, .int .i64 cn, .string cs, .slice A0 cl.length c0] 38)).alloc (.cells #[.int .i64 0, .string ⟨#[]⟩, .slice none 0 0, .slice none 0 0, .slice none 0 0, .int .i64 0, .string ⟨#[]⟩, .string ⟨#[]⟩] 27)) (ObTo ((w.alloc (.cells #[.int .i64 ck, .int .i64 cn, .string cs, .slice A0 cl.length c0] 38)).alloc (.cells #[.int .i64 0, .string ⟨#[]⟩, .slice none 0 0, .slice none 0 0, .slice none 0 0, .int .i64 0, .string ⟨#[]⟩, .string ⟨#[]⟩] 27)) (nodeM (.mk ck cn cs cl)))) := readNode40 d ck cn cs cl _ _ (h.step HCO.out.below) hok
  have HC := Lib.hid (fun W (hb : Below w.heap.size w W) => readCommit41 d ck cn cs cl (.slice A0 cl.length c0) W (h.step hb) hok)
  have HSS : Hid (∀ (k : Int) (label : ByteArray) (A1 : Option Addr) (n1 c1 : Nat) (A2 : Option Addr) (n2 c2 : Nat) (A3 : Option Addr) (n3 c3 : Nat) (st : Int) (note root : ByteArray), (Tryz.prog.info? 27).map (·.size) = some (#[Value.int .i64 k, .string label, .slice A1 n1 c1, .slice A2 n2 c2, .slice A3 n3 c3, .int .i64 st, .string note, .string root]).size) := fun _ _ _ _ _ _ _ _ _ _ _ _ _ _ => size27
  obtain ⟨r, hr⟩ : ∃ r, objM (.mk ck cn cs cl) = r := ⟨_, rfl⟩
  rw [hr]
  have HR := Lib.hid hr
  clear hr h hok
  unfold objM at HR
  generalize nodeM (.mk ck cn cs cl) = r1 at HN HR
  generalize commitM (.mk ck cn cs cl) = r2 at HC HR
  go_enter Tryz.func60, Tryz.ntmps60
  go_wp2_with fail
  refine HN.out.mono ?_
  rintro e w2 ⟨hb2, k, label, A1, n1, c1, A2, n2, c2, A3, n3, c3, st, note, root, q, rfl, hm⟩
  have HCO2 := Lib.hid (HCO.out.step hb2)
  have HBZ := Lib.hid hb2
  have HM := Lib.hid hm
  have HCO3 := Lib.hid (HCO2.out.step ((Below.refl _ w2).alloc (Nat.le_refl _) (.cells #[.int .i64 k, .string label, .slice A1 n1 c1, .slice A2 n2 c2, .slice A3 n3 c3, .int .i64 st, .string note, .string root] 27)))
  have HBA : Hid (Below w2.heap.size w2 (w2.alloc (.cells #[.int .i64 k, .string label, .slice A1 n1 c1, .slice A2 n2 c2, .slice A3 n3 c3, .int .i64 st, .string note, .string root] 27))) := (Below.refl _ w2).alloc (Nat.le_refl _) _
  clear HN hb2 hm
  cases r1 with
  | some o =>
    obtain ⟨hq, ho, hat, f1, f2, f3⟩ := HM.out
    subst hq
    have hr : r = some o := HR.out.symm
    subst hr
    have HO := Lib.hid ho
    have HAT : Hid (ObAt ((w2.alloc (.cells #[.int .i64 k, .string label, .slice A1 n1 c1, .slice A2 n2 c2, .slice A3 n3 c3, .int .i64 st, .string note, .string root] 27)).setRow (w.heap.size + 1) #[.int .i64 k, .string label, .slice A1 n1 c1, .slice A2 n2 c2, .slice A3 n3 c3, .int .i64 st, .string note, .string root]) (.slice A1 n1 c1) (.slice A2 n2 c2) (.slice A3 n3 c3) o) :=
      (hat.step HBA.out).row f1 f2 f3 (by simp)
    have HF1 := Lib.hid (f1.mono (lo' := w.heap.size) (by simp; omega))
    have HF2 := Lib.hid (f2.mono (lo' := w.heap.size) (by simp; omega))
    have HF3 := Lib.hid (f3.mono (lo' := w.heap.size) (by simp; omega))
    have HA := Lib.hid (one8 k label A1 n1 c1 A2 n2 c2 A3 n3 c3 st note root)
    have HP := Lib.hid HCO3.out.row
    clear hat f1 f2 f3 HM HR HC ho
    go_wp2_with (refine wpList_store_row (P := Tryz.prog) rfl 27 _ _ rfl (w.heap.size + 1) #[.int .i64 k, .string label, .slice A1 n1 c1, .slice A2 n2 c2, .slice A3 n3 c3, .int .i64 st, .string note, .string root] rfl rfl 27 _ HP.out (HSS.out _ _ _ _ _ _ _ _ _ _ _ _ _ _) rfl HA.out ?_)
    refine bodyPost_ret (results_ob Tryz.f60 rfl _ _ (w.heap.size + 1) k label A1 n1 c1 A2 n2 c2 A3 n3 c3 st note root true ?h2 ?h3 (setRow_heap _ (w.heap.size + 1) _ _ 27 (0, 0) HP.out)) rfl ?_
    case h2 => rfl
    case h3 => rfl
    exact ⟨below_row HCO3.out.below (by omega), _, _, _, _, _, _, _, _, _, _, _, _, _, _, _, rfl, rfl, HO.out, HAT.out, HF1.out, HF2.out, HF3.out⟩
  | none =>
    have hq : q = false := HM.out
    subst hq
    have hr : r2 = r := HR.out
    subst hr
    obtain ⟨x0, x1, x2, x3, -, -, -⟩ := HCO3.out
    have HC3 := Lib.hid (HC.out _ HCO3.out.below)
    clear HM HR HC HCO HCO2 HBA HBZ
    go_wp2_with fail
    refine HC3.out.mono ?_
    rintro e w3 ⟨hb3, k', label', B1, m1, d1, B2, m2, d2, B3, m3, d3, st', note', root', q', rfl, hm⟩
    have HCO4 := Lib.hid (HCO3.out.step hb3)
    have HLT := Lib.hid HCO3.out.lt
    have HP := Lib.hid HCO4.out.row
    have HA := Lib.hid (one8 k' label' B1 m1 d1 B2 m2 d2 B3 m3 d3 st' note' root')
    have HM := Lib.hid hm
    clear hb3 hm HC3 HCO3 x0 x1 x2 x3
    go_wp2_with (refine wpList_store_row (P := Tryz.prog) rfl 27 _ _ rfl (w.heap.size + 1) #[.int .i64 k', .string label', .slice B1 m1 d1, .slice B2 m2 d2, .slice B3 m3 d3, .int .i64 st', .string note', .string root'] rfl rfl 27 _ HP.out (HSS.out _ _ _ _ _ _ _ _ _ _ _ _ _ _) rfl HA.out ?_)
    refine bodyPost_ret (results_ob Tryz.f60 rfl _ _ (w.heap.size + 1) k' label' B1 m1 d1 B2 m2 d2 B3 m3 d3 st' note' root' q' ?h2 ?h3 (setRow_heap _ (w.heap.size + 1) _ _ 27 (0, 0) HP.out)) rfl ?_
    case h2 => rfl
    case h3 => rfl
    refine ⟨below_row HCO4.out.below (by omega), _, _, _, _, _, _, _, _, _, _, _, _, _, _, _, rfl, ?_⟩
    have hm := HM.out
    have hlt := HLT.out
    cases r2 with
    | none => exact hm
    | some o =>
      obtain ⟨hq, ho, hat, f1, f2, f3⟩ := hm
      exact ⟨hq, ho, hat.row f1 f2 f3 (by omega), f1.mono (by omega), f2.mono (by omega), f3.mono (by omega)⟩
end Go.Proofs.YtjanddnlhaionaaGreatDoor
namespace Go.Proofs.YtjanddnlhaionaaGreatDoor
open Go.RowKit
open L4 (C LAt LIn okC Fit putS takeM nextM TakeTo)
open L2 (Row Vl RowsAt rowsOK valOK)

def zeroO : Ob := ⟨0, ⟨#[]⟩, [], [], [], 0, ⟨#[]⟩, ⟨#[]⟩⟩
def takeOM (s : ByteArray) : Ob × Int :=
  if (takeM s).2 = 0 then
    match objM (takeM s).1 with
    | some o => if objOK o then (o, 0) else (zeroO, 4)
    | none => (zeroO, 4)
  else (zeroO, (takeM s).2)
theorem cut_all (s : ByteArray) : L4.cutS s 0 s.size = s := by
  rw [← Nat.zero_add s.size, ← L4.cutS_extract]
  simp
theorem take_ok {s : ByteArray} {c : C} (h : takeM s = (c, 0)) : okC 16 c = true ∧ Fit 16 c ∧ putS c = s := by
  unfold takeM at h
  by_cases h1 : (nextM s 0).2.2 = 0 ∧ (nextM s 0).2.1 < (s.size : Int)
  · rw [if_pos h1] at h; injection h with _ h; cases h
  · rw [if_neg h1] at h
    injection h with h2 h3
    have hn : nextM s 0 = (c, (nextM s 0).2.1, 0) := Prod.ext h2 (Prod.ext rfl h3)
    obtain ⟨-, h5, h6, h7, h8, h9⟩ := L4.next_ok hn
    have h10 : (nextM s 0).2.1 = (s.size : Int) := by
      have : ¬ (nextM s 0).2.1 < (s.size : Int) := fun h => h1 ⟨h3, h⟩
      omega
    refine ⟨h7, h8, ?_⟩
    rw [h9, h10]
    exact cut_all s
def TakeOTo (w : World) (a : Ob × Int) (e : Ending) (w' : World) : Prop :=
  Below w.heap.size w w' ∧ ∃ A1 n1 c1 A2 n2 c2 A3 n3 c3, e = .returned (.tuple #[.agg #[.int .i64 a.1.k, .string a.1.label, .slice A1 n1 c1, .slice A2 n2 c2, .slice A3 n3 c3, .int .i64 a.1.stamp, .string a.1.note, .string a.1.root], .int .i64 a.2]) ∧ ObAt w' (.slice A1 n1 c1) (.slice A2 n2 c2) (.slice A3 n3 c3) a.1
theorem zero_at (w : World) : ObAt w (.slice none 0 0) (.slice none 0 0) (.slice none 0 0) zeroO :=
  ⟨rowsNil _ _, KidsAt.nil _ _, TxtsAt.nil _ _, by show (-9223372036854775808 : Int) ≤ 0; omega, by show (0 : Int) ≤ _; omega, by intro r hr; cases hr⟩

set_option maxHeartbeats 8000000 in
theorem take8 (s : ByteArray) (w : World) (hs : s.size ≤ 1000000000) : Calls Tryz.prog 20 #[.string s] w (TakeOTo w (takeOM s)) := by
  have hB : Below w.heap.size w (w.alloc (.cells #[.int .i64 0, .string ⟨#[]⟩, .slice none 0 0, .slice none 0 0, .slice none 0 0, .int .i64 0, .string ⟨#[]⟩, .string ⟨#[]⟩] 27)) := (Below.refl _ _).alloc (Nat.le_refl _) _
  have HB := Lib.hid hB
  have HT := Lib.hid (L4.take21 s (w.alloc (.cells #[.int .i64 0, .string ⟨#[]⟩, .slice none 0 0, .slice none 0 0, .slice none 0 0, .int .i64 0, .string ⟨#[]⟩, .string ⟨#[]⟩] 27)) hs)
  have HP0 := Lib.hid (heap_alloc_new w (.cells #[.int .i64 0, .string ⟨#[]⟩, .slice none 0 0, .slice none 0 0, .slice none 0 0, .int .i64 0, .string ⟨#[]⟩, .string ⟨#[]⟩] 27))
  have HSS : Hid (∀ (k : Int) (label : ByteArray) (A1 : Option Addr) (n1 c1 : Nat) (A2 : Option Addr) (n2 c2 : Nat) (A3 : Option Addr) (n3 c3 : Nat) (st : Int) (note root : ByteArray), (Tryz.prog.info? 27).map (·.size) = some (#[Value.int .i64 k, .string label, .slice A1 n1 c1, .slice A2 n2 c2, .slice A3 n3 c3, .int .i64 st, .string note, .string root]).size) := fun _ _ _ _ _ _ _ _ _ _ _ _ _ _ => size27
  have HA0 := Lib.hid (one8 0 ⟨#[]⟩ none 0 0 none 0 0 none 0 0 0 ⟨#[]⟩ ⟨#[]⟩)
  obtain ⟨a, ha⟩ : ∃ a, takeOM s = a := ⟨_, rfl⟩
  rw [ha]
  have HA := Lib.hid ha
  obtain ⟨⟨c, e⟩, ht⟩ : ∃ x, takeM s = x := ⟨_, rfl⟩
  have HTM := Lib.hid ht
  rw [ht] at HT
  clear ha ht hB
  have zend : ∀ (w2 : World) (er : Int), Below w.heap.size w w2 → a = (zeroO, er) → TakeOTo w a (.returned (.tuple #[.agg #[.int .i64 0, .string ⟨#[]⟩, .slice none 0 0, .slice none 0 0, .slice none 0 0, .int .i64 0, .string ⟨#[]⟩, .string ⟨#[]⟩], .int .i64 er])) (w2.setRow w.heap.size #[.int .i64 0, .string ⟨#[]⟩, .slice none 0 0, .slice none 0 0, .slice none 0 0, .int .i64 0, .string ⟨#[]⟩, .string ⟨#[]⟩]) := by
    intro w2 er hb h
    subst h
    exact ⟨below_row hb (Nat.le_refl _), _, _, _, _, _, _, _, _, _, rfl, zero_at _⟩
  have ZEND := Lib.hid zend
  clear zend
  go_enter Tryz.func20, Tryz.ntmps20
  go_wp2_with fail
  refine HT.out.mono ?_
  rintro _ w2 ⟨u, rfl, hl, hb2⟩
  have HB2 := Lib.hid (HB.out.trans (hb2.mono HB.out.size))
  have HP2 := Lib.hid ((hb2.block w.heap.size (by simp)).trans HP0.out)
  have HL : Hid (LAt w2 w2.heap.size 16 u c.l) := LIn.lat (fun b hb => hb.2.lt) hl
  have HLT : Hid (w.heap.size < w2.heap.size) := by have := hb2.size; simp at this; unfold Hid; omega
  clear hl hb2 HT HB HP0
  obtain ⟨ck, cn, cs, cl⟩ := c
  unfold L4.cellV
  simp only [L4.k_mk, L4.n_mk, L4.s_mk, L4.l_mk] at HL ⊢
  obtain ⟨Au, cu, rfl⟩ := HL.out.slice
  cases he : (e != 0) with
  | true =>
    have hz : a = (zeroO, e) := by
      rw [← HA.out]; unfold takeOM; rw [HTM.out]
      simp only
      rw [if_neg (by intro h; rw [h] at he; simp at he)]
    have HZ := Lib.hid hz
    clear hz HA HTM
    go_wp2_with (refine wpList_store_row (P := Tryz.prog) rfl 27 _ _ rfl w.heap.size #[.int .i64 0, .string ⟨#[]⟩, .slice none 0 0, .slice none 0 0, .slice none 0 0, .int .i64 0, .string ⟨#[]⟩, .string ⟨#[]⟩] rfl rfl 27 _ ((Below.heap_alloc w2 _ _ HLT.out).trans HP2.out) (HSS.out _ _ _ _ _ _ _ _ _ _ _ _ _ _) rfl HA0.out ?_)
    refine bodyPost_ret (results_ob' Tryz.f20 rfl _ _ w.heap.size 0 ⟨#[]⟩ none 0 0 none 0 0 none 0 0 0 ⟨#[]⟩ ⟨#[]⟩ e ?h2 ?h3 (setRow_heap _ w.heap.size _ _ 27 (0, 0) ((Below.heap_alloc w2 _ _ HLT.out).trans HP2.out))) rfl ?_
    case h2 => rfl
    case h3 => rfl
    exact ZEND.out _ _ (HB2.out.alloc HB2.out.size _) HZ.out
  | false =>
    have he0 : e = 0 := by simpa using he
    subst he0
    obtain ⟨hok, -, -⟩ := take_ok HTM.out
    have hba : Below w2.heap.size w2 (w2.alloc (.cells #[.int .i64 ck, .int .i64 cn, .string cs, .slice Au cl.length cu] 38)) := (Below.refl _ _).alloc (Nat.le_refl _) _
    have HRO := Lib.hid (readObject19 16 ck cn cs cl (.slice Au cl.length cu) (w2.alloc (.cells #[.int .i64 ck, .int .i64 cn, .string cs, .slice Au cl.length cu] 38)) (HL.out.step hba) hok)
    have HBA := Lib.hid (HB2.out.trans (hba.mono HB2.out.size))
    have HPA := Lib.hid ((hba.block _ HLT.out).trans HP2.out)
    have HLA : Hid (w.heap.size < (w2.alloc (.cells #[.int .i64 ck, .int .i64 cn, .string cs, .slice Au cl.length cu] 38)).heap.size) := Nat.lt_of_lt_of_le HLT.out hba.size
    have HA2 : Hid ((match objM (.mk ck cn cs cl) with | some o => if objOK o then (o, 0) else (zeroO, 4) | none => (zeroO, 4)) = a) := by
      unfold Hid; rw [← HA.out]; unfold takeOM; rw [HTM.out]; rfl
    clear hok hba HA HTM HL HB2 HP2 HLT
    generalize objM (.mk ck cn cs cl) = r at HRO HA2
    go_wp2_with fail
    refine HRO.out.mono ?_
    rintro _ w3 ⟨hb3, k, label, A1, n1, c1, A2, n2, c2, A3, n3, c3, st, note, root, q, rfl, hm⟩
    have HM := Lib.hid hm
    have HB3 := Lib.hid (HBA.out.trans (hb3.mono HBA.out.size))
    have HP3 := Lib.hid ((hb3.block _ HLA.out).trans HPA.out)
    have HL3 : Hid (w.heap.size < w3.heap.size) := Nat.lt_of_lt_of_le HLA.out hb3.size
    have HLS := Lib.hid HLA.out
    have hb4 : Below w3.heap.size w3 (w3.alloc (.cells #[.int .i64 k, .string label, .slice A1 n1 c1, .slice A2 n2 c2, .slice A3 n3 c3, .int .i64 st, .string note, .string root] 27)) := (Below.refl _ _).alloc (Nat.le_refl _) _
    have HB4 := Lib.hid hb4
    have HP4 := Lib.hid ((hb4.block _ HL3.out).trans HP3.out)
    have HBZ := Lib.hid (HB3.out.trans (hb4.mono HB3.out.size))
    clear hm hb3 HRO HBA HPA HLA hb4
    cases r with
    | none =>
      have hq : q = false := HM.out
      subst hq
      have HZ : Hid (a = (zeroO, 4)) := HA2.out.symm
      clear HM HA2
      go_wp2_with (refine wpList_store_row (P := Tryz.prog) rfl 27 _ _ rfl w.heap.size #[.int .i64 0, .string ⟨#[]⟩, .slice none 0 0, .slice none 0 0, .slice none 0 0, .int .i64 0, .string ⟨#[]⟩, .string ⟨#[]⟩] rfl rfl 27 _ HP4.out (HSS.out _ _ _ _ _ _ _ _ _ _ _ _ _ _) rfl HA0.out ?_)
      refine bodyPost_ret (results_ob' Tryz.f20 rfl _ _ w.heap.size 0 ⟨#[]⟩ none 0 0 none 0 0 none 0 0 0 ⟨#[]⟩ ⟨#[]⟩ 4 ?h2 ?h3 (setRow_heap _ w.heap.size _ _ 27 (0, 0) HP4.out)) rfl ?_
      case h2 => rfl
      case h3 => rfl
      exact ZEND.out _ _ HBZ.out HZ.out
    | some o =>
      obtain ⟨hq, ⟨rows, kids, parents, rfl⟩, hat, f1, f2, f3⟩ := HM.out
      subst hq
      have HCK := Lib.hid (check12 k label rows kids parents st note root _ _ _ _ (hat.step HB4.out))
      have HAT := Lib.hid (hat.step HB4.out)
      have HF := Lib.hid (And.intro f1 (And.intro f2 f3))
      have HA3 : Hid ((if objOK ⟨k, label, rows, kids, parents, st, note, root⟩ then ((⟨k, label, rows, kids, parents, st, note, root⟩ : Ob), (0 : Int)) else (zeroO, 4)) = a) := HA2.out
      clear HM hat f1 f2 f3 HA2
      obtain ⟨o, ho⟩ : ∃ o, (⟨k, label, rows, kids, parents, st, note, root⟩ : Ob) = o := ⟨_, rfl⟩
      have HOO := Lib.hid ho
      rw [ho] at HCK HAT HA3
      clear ho
      cases hok : objOK o with
      | false =>
        rw [hok] at HCK HA3
        have HZ : Hid (a = (zeroO, 4)) := HA3.out.symm
        clear hok HA3
        go_wp2_with fail
        refine HCK.out.mono ?_
        rintro _ w5 ⟨rfl, hb5⟩
        have HB5 := Lib.hid (HBZ.out.trans (hb5.mono HBZ.out.size))
        have HP5 := Lib.hid ((hb5.block _ (Nat.lt_of_lt_of_le HL3.out HB4.out.size)).trans HP4.out)
        clear hb5 HCK
        go_wp2_with (refine wpList_store_row (P := Tryz.prog) rfl 27 _ _ rfl w.heap.size #[.int .i64 0, .string ⟨#[]⟩, .slice none 0 0, .slice none 0 0, .slice none 0 0, .int .i64 0, .string ⟨#[]⟩, .string ⟨#[]⟩] rfl rfl 27 _ HP5.out (HSS.out _ _ _ _ _ _ _ _ _ _ _ _ _ _) rfl HA0.out ?_)
        refine bodyPost_ret (results_ob' Tryz.f20 rfl _ _ w.heap.size 0 ⟨#[]⟩ none 0 0 none 0 0 none 0 0 0 ⟨#[]⟩ ⟨#[]⟩ 4 ?h2 ?h3 (setRow_heap _ w.heap.size _ _ 27 (0, 0) HP5.out)) rfl ?_
        case h2 => rfl
        case h3 => rfl
        exact ZEND.out _ _ HB5.out HZ.out
      | true =>
        rw [hok] at HCK HA3
        have HZ : Hid (a = (o, 0)) := HA3.out.symm
        have HA1 := Lib.hid (one8 k label A1 n1 c1 A2 n2 c2 A3 n3 c3 st note root)
        clear hok HA3
        go_wp2_with fail
        refine HCK.out.mono ?_
        rintro _ w5 ⟨rfl, hb5⟩
        have HB5 := Lib.hid (HBZ.out.trans (hb5.mono HBZ.out.size))
        have HP5 := Lib.hid ((hb5.block _ (Nat.lt_of_lt_of_le HL3.out HB4.out.size)).trans HP4.out)
        have HC5 : Hid (∀ j, w5.cell? ⟨w3.heap.size, j, none⟩ = (w3.alloc (.cells #[.int .i64 k, .string label, .slice A1 n1 c1, .slice A2 n2 c2, .slice A3 n3 c3, .int .i64 st, .string note, .string root] 27)).cell? ⟨w3.heap.size, j, none⟩) := fun j => hb5.cell (p := ⟨w3.heap.size, j, none⟩) (by simp)
        have y0 : w5.cell? ⟨w3.heap.size, 0, none⟩ = some (.int .i64 k) := by rw [HC5.out]; simp [go_sem]
        have y1 : w5.cell? ⟨w3.heap.size, 1, none⟩ = some (.string label) := by rw [HC5.out]; simp [go_sem]
        have y2 : w5.cell? ⟨w3.heap.size, 2, none⟩ = some (.slice A1 n1 c1) := by rw [HC5.out]; simp [go_sem]
        have y3 : w5.cell? ⟨w3.heap.size, 3, none⟩ = some (.slice A2 n2 c2) := by rw [HC5.out]; simp [go_sem]
        have y4 : w5.cell? ⟨w3.heap.size, 4, none⟩ = some (.slice A3 n3 c3) := by rw [HC5.out]; simp [go_sem]
        have y5 : w5.cell? ⟨w3.heap.size, 5, none⟩ = some (.int .i64 st) := by rw [HC5.out]; simp [go_sem]
        have y6 : w5.cell? ⟨w3.heap.size, 6, none⟩ = some (.string note) := by rw [HC5.out]; simp [go_sem]
        have y7 : w5.cell? ⟨w3.heap.size, 7, none⟩ = some (.string root) := by rw [HC5.out]; simp [go_sem]
        have HAT5 := Lib.hid ((HAT.out.step hb5).row (cs := #[.int .i64 k, .string label, .slice A1 n1 c1, .slice A2 n2 c2, .slice A3 n3 c3, .int .i64 st, .string note, .string root]) HF.out.1 HF.out.2.1 HF.out.2.2 HLS.out)
        clear hb5 HCK HAT HF HC5
        go_wp2_with (refine wpList_store_row (P := Tryz.prog) rfl 27 _ _ rfl w.heap.size #[.int .i64 k, .string label, .slice A1 n1 c1, .slice A2 n2 c2, .slice A3 n3 c3, .int .i64 st, .string note, .string root] rfl rfl 27 _ HP5.out (HSS.out _ _ _ _ _ _ _ _ _ _ _ _ _ _) rfl HA1.out ?_)
        refine bodyPost_ret (results_ob' Tryz.f20 rfl _ _ w.heap.size k label A1 n1 c1 A2 n2 c2 A3 n3 c3 st note root 0 ?h2 ?h3 (setRow_heap _ w.heap.size _ _ 27 (0, 0) HP5.out)) rfl ?_
        case h2 => rfl
        case h3 => rfl
        refine ⟨below_row HB5.out (Nat.le_refl _), A1, n1, c1, A2, n2, c2, A3, n3, c3, ?_, ?_⟩
        · rw [HZ.out, ← HOO.out]
        · rw [HZ.out]; exact HAT5.out
end Go.Proofs.YtjanddnlhaionaaGreatDoor
namespace Go.Proofs.YtjanddnlhaionaaGreatDoor
open Go.RowKit
open L4 (C LAt putS)
open L2 (Row Vl RowsAt rowsOK valOK)
open L3 (St Tabs digestM)

def idOf (K : List Int) (I : St) (s : ByteArray) : ByteArray := ⟨(digestM K I s.data.toList).toArray⟩
def objI (K : List Int) (I : St) (o : Ob) : ByteArray := if objOK o then idOf K I (objS o) else ⟨#[]⟩

def AnyBool (w : World) (e : Ending) (w' : World) : Prop := ∃ q, e = .returned (.bool q) ∧ Below w.heap.size w w'
end Go.Proofs.YtjanddnlhaionaaGreatDoor
namespace Go.Proofs.YtjanddnlhaionaaGreatDoor
open Go.RowKit
open L4 (C LAt putS)
open L2 (Row Vl RowsAt rowsOK valOK)

/-- Two objects, each in a block of its own. -/
structure Two (w : World) (o : Ob) (r k p r' k' p' : Value) (W : World) : Prop where
  a : Obj1 w o r k p W
  c0 : W.cell? ⟨w.heap.size + 1, 0, none⟩ = some (.int .i64 o.k)
  c1 : W.cell? ⟨w.heap.size + 1, 1, none⟩ = some (.string o.label)
  c2 : W.cell? ⟨w.heap.size + 1, 2, none⟩ = some r'
  c3 : W.cell? ⟨w.heap.size + 1, 3, none⟩ = some k'
  c4 : W.cell? ⟨w.heap.size + 1, 4, none⟩ = some p'
  c5 : W.cell? ⟨w.heap.size + 1, 5, none⟩ = some (.int .i64 o.stamp)
  c6 : W.cell? ⟨w.heap.size + 1, 6, none⟩ = some (.string o.note)
  c7 : W.cell? ⟨w.heap.size + 1, 7, none⟩ = some (.string o.root)
  lt : w.heap.size + 1 < W.heap.size
theorem Two.start (w : World) (o : Ob) (r k p r' k' p' : Value) : Two w o r k p r' k' p' ((w.alloc (.cells (obVs o r k p) 27)).alloc (.cells (obVs o r' k' p') 27)) :=
  ⟨(Obj1.start w o r k p).step ((Below.refl _ _).alloc (Nat.le_refl _) _), by simp [obVs, go_sem], by simp [obVs, go_sem], by simp [obVs, go_sem], by simp [obVs, go_sem], by simp [obVs, go_sem], by simp [obVs, go_sem], by simp [obVs, go_sem], by simp [obVs, go_sem], by simp⟩
theorem Two.step {w : World} {o : Ob} {r k p r' k' p' : Value} {W W' : World} (h : Two w o r k p r' k' p' W) (hb : Below W.heap.size W W') : Two w o r k p r' k' p' W' := by
  have hq : ∀ j, W'.cell? ⟨w.heap.size + 1, j, none⟩ = W.cell? ⟨w.heap.size + 1, j, none⟩ := fun j => hb.cell (p := ⟨w.heap.size + 1, j, none⟩) h.lt
  exact ⟨h.a.step hb, (hq _).trans h.c0, (hq _).trans h.c1, (hq _).trans h.c2, (hq _).trans h.c3, (hq _).trans h.c4, (hq _).trans h.c5, (hq _).trans h.c6, (hq _).trans h.c7, Nat.lt_of_lt_of_le h.lt hb.size⟩

/-- A world from which draws were made, and no more. -/
def Drawn (w w' : World) : Prop := ∃ m, w' = w.drewN m
theorem Drawn.cell {w w' : World} (h : Drawn w w') (a : Addr) : w'.cell? a = w.cell? a := by obtain ⟨m, rfl⟩ := h; rfl
theorem Drawn.more {w w' : World} (h : Drawn w w') (n : Nat) : Drawn w (w'.drewN n) := by obtain ⟨m, rfl⟩ := h; exact ⟨m + n, World.drewN_drewN _ _ _⟩
theorem Drawn.below {w0 w w' : World} {B : Nat} (h : Drawn w w') (hb : Below B w0 w) : Below B w0 w' := by obtain ⟨m, rfl⟩ := h; exact L4.below_drewN hb _
theorem neqKid (f : Int) (id : ByteArray) (w : World) : (binOp .neq 95 (.agg #[.int .u8 f, .string id]) (.agg #[.int .u8 f, .string id])).run Tryz.prog w = .ok (.bool false) w := by simp [go_sem]

set_option maxHeartbeats 4000000 in
theorem same10 (kd : Int) (label : ByteArray) (rows : List Row) (kids : List Kd) (parents : List ByteArray) (stamp : Int) (note root : ByteArray) (r k p r' k' p' : Value) (w : World) (h : ObAt w r k p ⟨kd, label, rows, kids, parents, stamp, note, root⟩) (h' : ObAt w r' k' p' ⟨kd, label, rows, kids, parents, stamp, note, root⟩) :
    Calls Tryz.prog 22 #[.agg #[.int .i64 kd, .string label, r, k, p, .int .i64 stamp, .string note, .string root], .agg #[.int .i64 kd, .string label, r', k', p', .int .i64 stamp, .string note, .string root]] w fun e w' => e = .returned (.bool true) ∧ Below w.heap.size w w' := by
  have HT := Lib.hid (Two.start w ⟨kd, label, rows, kids, parents, stamp, note, root⟩ r k p r' k' p')
  have hb := HT.out.a.below
  have HS := Lib.hid (L2.same17 rows rows r r' _ (h.step hb).rows (h'.step hb).rows)
  have hd : decide (rows = rows) = true := decide_eq_true rfl
  rw [hd] at HS
  obtain ⟨A1, c1, e1, -, -, -⟩ := h.rows
  obtain ⟨A1', c1', e1', -, -, -⟩ := h'.rows
  obtain ⟨A2, c2, e2, k1, k2, k3⟩ := h.kids
  obtain ⟨A2', c2', e2', k1', k2', k3'⟩ := h'.kids
  obtain ⟨A3, c3, e3, p1, p2, p3⟩ := h.parents
  obtain ⟨A3', c3', e3', p1', p2', p3'⟩ := h'.parents
  simp only at e1 e1' e2 e2' e3 e3' k1 k1' k2 k2' k3 k3' p1 p1' p2 p2' p3 p3'
  subst e1 e1' e2 e2' e3 e3'
  unfold maxLen at k2 k2' p2 p2'
  have HK := Lib.hid k3
  have HK' := Lib.hid k3'
  have HP := Lib.hid p3
  have HP' := Lib.hid p3'
  unfold obVs at HT HS
  simp only at HT HS
  clear k3 k3' p3 p3' h h' hb hd
  go_enter Tryz.func22, Tryz.ntmps22
  go_wp2_with fail
  refine HS.out.mono ?_
  rintro _ w2 ⟨rfl, hb2⟩
  have HT2 := Lib.hid (HT.out.step hb2)
  obtain ⟨⟨a0, a1, a2, a3, a4, a5, a6, a7, -, -⟩, b0, b1, b2, b3, b4, b5, b6, b7, -⟩ := HT2.out
  simp only at a0 a1 a5 a6 a7 b0 b1 b5 b6 b7
  have HB2 := Lib.hid HT2.out.a.below
  clear hb2 HS HT a0 a1 a2 a5 a6 a7 b0 b1 b2 b5 b6 b7
  go_wp2_with fail
  go_loopw [5] (fun s5 wr => ∃ j : Nat, j ≤ kids.length ∧ s5 = .int .i64 j ∧ Drawn w2 wr) (fun s5 _ => kids.length - (intOf s5).toNat)
  case atStart => exact ⟨0, Nat.zero_le _, rfl, 0, rfl⟩
  case round =>
    obtain ⟨j, hj, rfl, hm⟩ := hrel
    have a3' := (hm.cell ⟨w.heap.size, 3, none⟩).trans a3
    have b3' := (hm.cell ⟨w.heap.size + 1, 3, none⟩).trans b3
    by_cases hlt : j < kids.length
    · obtain ⟨b, o, rfl, hb, hr⟩ := HK.out (by omega)
      obtain ⟨b', o', rfl, hb', hr'⟩ := HK'.out (by omega)
      have x0 := (hm.cell ⟨b, o + j * 2, none⟩).trans ((HB2.out.cell (p := ⟨b, o + j * 2, none⟩) hb).trans (hr j hlt).c0)
      have x1 := (hm.cell ⟨b, o + j * 2 + 1, none⟩).trans ((HB2.out.cell (p := ⟨b, o + j * 2 + 1, none⟩) hb).trans (hr j hlt).c1)
      have y0 := (hm.cell ⟨b', o' + j * 2, none⟩).trans ((HB2.out.cell (p := ⟨b', o' + j * 2, none⟩) hb').trans (hr' j hlt).c0)
      have y1 := (hm.cell ⟨b', o' + j * 2 + 1, none⟩).trans ((HB2.out.cell (p := ⟨b', o' + j * 2 + 1, none⟩) hb').trans (hr' j hlt).c1)
      clear hr hr'
      generalize kids[j].f = f at x0 y0
      generalize kids[j].id = id at x1 y1
      have hi0 : (0 : Int) ≤ (j : Int) := by omega
      have hi1 : (j : Int) < (kids.length : Int) := by omega
      have hne := neqKid f id
      go_wp2_with fail
      go_quiet (fail)
      go_wp2
      go_roundw
      case rel => exact ⟨j + 1, by omega, by go_num, hm.more _⟩
      case measure => simp [intOf]; omega
    · clear HK HK'
      have a4' := (hm.cell ⟨w.heap.size, 4, none⟩).trans a4
      go_wp2_with fail
      clear a3 b3 a3' b3' a4'
      go_loopw [6] (fun s6 wr => ∃ j : Nat, j ≤ parents.length ∧ s6 = .int .i64 j ∧ Drawn w2 wr) (fun s6 _ => parents.length - (intOf s6).toNat)
      case atStart => exact ⟨0, Nat.zero_le _, rfl, hm⟩
      case round =>
        obtain ⟨j2, hj2, rfl, hm2⟩ := hrel
        have a4' := (hm2.cell ⟨w.heap.size, 4, none⟩).trans a4
        have b4' := (hm2.cell ⟨w.heap.size + 1, 4, none⟩).trans b4
        by_cases hlt2 : j2 < parents.length
        · obtain ⟨b, o, rfl, hb, hr⟩ := HP.out (by omega)
          obtain ⟨b', o', rfl, hb', hr'⟩ := HP'.out (by omega)
          have x0 := (hm2.cell ⟨b, o + j2, none⟩).trans ((HB2.out.cell (p := ⟨b, o + j2, none⟩) hb).trans (hr j2 hlt2))
          have y0 := (hm2.cell ⟨b', o' + j2, none⟩).trans ((HB2.out.cell (p := ⟨b', o' + j2, none⟩) hb').trans (hr' j2 hlt2))
          clear hr hr'
          generalize parents[j2] = f at x0 y0
          have hi0 : (0 : Int) ≤ (j2 : Int) := by omega
          have hi1 : (j2 : Int) < (parents.length : Int) := by omega
          go_wp2_with fail
          go_quiet (fail)
          go_wp2
          go_roundw
          case rel => exact ⟨j2 + 1, by omega, by go_num, hm2.more _⟩
          case measure => simp [intOf]; omega
        · go_wp2
          go_ret
          exact ⟨rfl, hm2.below HB2.out⟩
end Go.Proofs.YtjanddnlhaionaaGreatDoor
namespace Go.Proofs.YtjanddnlhaionaaGreatDoor
open Go.RowKit
open L4 (C LAt putS takeM encC okC)
open L2 (Row Vl RowsAt rowsOK valOK)
open L3 (St Tabs digestM)

theorem obj_take {o : Ob} (hok : objOK o = true) (hn : ∀ r ∈ o.rows, -9223372036854775808 ≤ r.2.2.2.1 ∧ r.2.2.2.1 ≤ 9223372036854775807) (hf : ∀ k ∈ o.kids, 0 ≤ k.f ∧ k.f ≤ 255) : takeOM (objS o) = (o, 0) := by
  have hk : o.kids.length ≤ 500 := by
    rcases obj_p hok with q | q
    · have := kids_256 q.kids hf; omega
    · rw [q.kids]; simp
  have hg := obj_good hok hn hf hk
  have ht := L4.take_put hg.ok hg.fit
  unfold objS
  rw [hok]
  show takeOM (putS (cellOf o)) = (o, 0)
  unfold takeOM
  rw [ht]
  simp only
  rw [if_pos trivial, obj_read hok hf]
  simp only
  rw [hok]; rfl
theorem take_back {s : ByteArray} {p : Ob} (h : takeOM s = (p, 0)) : objOK p = true ∧ objS p = s := by
  unfold takeOM at h
  by_cases h1 : (takeM s).2 = 0
  · rw [if_pos h1] at h
    have ht : takeM s = ((takeM s).1, 0) := Prod.ext rfl h1
    obtain ⟨a, b, c⟩ := take_ok ht
    cases hm : objM (takeM s).1 with
    | none => rw [hm] at h; injection h with _ h; cases h
    | some o =>
      rw [hm] at h
      simp only at h
      cases hok : objOK o with
      | false => rw [hok] at h; injection h with _ h; cases h
      | true =>
        rw [hok] at h
        injection h with h _
        subst h
        refine ⟨hok, ?_⟩
        unfold objS
        rw [hok]
        show putS (cellOf o) = s
        rw [← (obj_back hm hok).1]
        exact c
  · rw [if_neg h1] at h
    injection h with _ h
    exact absurd h h1
theorem take_zero {s : ByteArray} {p : Ob} {e : Int} (h : takeOM s = (p, e)) (he : e ≠ 0) : p = zeroO := by
  unfold takeOM at h
  by_cases h1 : (takeM s).2 = 0
  · rw [if_pos h1] at h
    cases hm : objM (takeM s).1 with
    | none => rw [hm] at h; injection h with h _; exact h.symm
    | some o =>
      rw [hm] at h
      simp only at h
      cases hok : objOK o with
      | false => rw [hok] at h; injection h with h _; exact h.symm
      | true => rw [hok] at h; injection h with _ h; exact absurd h.symm he
  · rw [if_neg h1] at h
    injection h with h _
    exact h.symm

def exOb : Ob := ⟨1, ⟨#[]⟩, [], [], [], 0, ⟨#[]⟩, ⟨#[]⟩⟩
end Go.Proofs.YtjanddnlhaionaaGreatDoor
