/-
  The contract of readCommit. No condition but that the cell is right.
-/
import Derived.Test.YtjanddnlhaionaaGreatDoorOZ
namespace Go.Proofs.YtjanddnlhaionaaGreatDoor
open Go.RowKit
open L4 (C LAt okC)
open L2 (Row Vl RowsAt rowsOK valOK)

set_option maxRecDepth 100000 in
theorem commitM_eq {c : C} {a p t n r : Sh} (h : fieldsM c 5 = some [a, p, t, n, r]) : commitM c = if (isNum a && (numV a == 2)) = true then ((listM textM p).bind fun x => if isNum t = true then (if isTxt n = true then (if isTxt r = true then some ⟨2, ⟨#[]⟩, [], [], x, numV t, txtV n, txtV r⟩ else none) else none) else none) else none := by
  unfold commitM
  rw [h]
  cases a <;> cases t <;> cases n <;> cases r <;> simp [numM, txtM, isNum, isTxt, numV, txtV]
set_option maxRecDepth 100000 in
theorem fields_num {c : C} {n : Nat} {L : List Sh} (h : fieldsM c n = some L) (hw : ∀ x ∈ c.l, L4.Wf x) : ∀ sh ∈ L, ∀ m, sh = .num m → -9223372036854775808 ≤ m ∧ m ≤ 9223372036854775807 := by
  obtain ⟨l, rfl, rfl, -, -⟩ := fields_some h
  intro sh hsh m e
  obtain ⟨x, hx, rfl⟩ := List.mem_map.1 hsh
  have hv := hw x (by simpa [listC, L4.l_mk] using hx)
  rw [sh_num.1 e] at hv
  exact ⟨hv.n0, hv.n1⟩

set_option maxRecDepth 100000 in
set_option maxHeartbeats 8000000 in
theorem readCommit41 (d : Nat) (ck cn : Int) (cs : ByteArray) (cl : List C) (u : Value) (w : World) (h : LAt w w.heap.size d u cl) (hok : okC 16 (.mk ck cn cs cl) = true) :
    Calls Tryz.prog 117 #[.agg #[.int .i64 ck, .int .i64 cn, .string cs, u]] w (ObTo w (commitM (.mk ck cn cs cl))) := by
  have hB : Below w.heap.size w ((w.alloc (.cells #[.int .i64 ck, .int .i64 cn, .string cs, u] 38)).alloc (.cells #[.int .i64 0, .string ⟨#[]⟩, .slice none 0 0, .slice none 0 0, .slice none 0 0, .int .i64 0, .string ⟨#[]⟩, .string ⟨#[]⟩] 27)) := ((Below.refl _ _).alloc (Nat.le_refl _) _).alloc (by simp) _
  have HB := Lib.hid hB
  have HF : Hid (Calls Tryz.prog 119 #[.agg #[.int .i64 ck, .int .i64 cn, .string cs, u], .int .i64 5] ((w.alloc (.cells #[.int .i64 ck, .int .i64 cn, .string cs, u] 38)).alloc (.cells #[.int .i64 0, .string ⟨#[]⟩, .slice none 0 0, .slice none 0 0, .slice none 0 0, .int .i64 0, .string ⟨#[]⟩, .string ⟨#[]⟩] 27)) (FieldsTo ((w.alloc (.cells #[.int .i64 ck, .int .i64 cn, .string cs, u] 38)).alloc (.cells #[.int .i64 0, .string ⟨#[]⟩, .slice none 0 0, .slice none 0 0, .slice none 0 0, .int .i64 0, .string ⟨#[]⟩, .string ⟨#[]⟩] 27)) (fieldsM (.mk ck cn cs cl) 5))) := readFields53 d ck cn cs cl u 5 (by omega) _ (h.step hB)
  have HP0 : Hid (((w.alloc (.cells #[.int .i64 ck, .int .i64 cn, .string cs, u] 38)).alloc (.cells #[.int .i64 0, .string ⟨#[]⟩, .slice none 0 0, .slice none 0 0, .slice none 0 0, .int .i64 0, .string ⟨#[]⟩, .string ⟨#[]⟩] 27)).heap[w.heap.size + 1]? = some (.cells #[.int .i64 0, .string ⟨#[]⟩, .slice none 0 0, .slice none 0 0, .slice none 0 0, .int .i64 0, .string ⟨#[]⟩, .string ⟨#[]⟩] 27 (0, 0))) := by
    unfold Hid
    have := heap_alloc_new (w.alloc (.cells #[.int .i64 ck, .int .i64 cn, .string cs, u] 38)) (.cells #[.int .i64 0, .string ⟨#[]⟩, .slice none 0 0, .slice none 0 0, .slice none 0 0, .int .i64 0, .string ⟨#[]⟩, .string ⟨#[]⟩] 27)
    simpa using this
  obtain ⟨c, hc⟩ : ∃ c, C.mk ck cn cs cl = c := ⟨_, rfl⟩
  rw [hc] at HF hok ⊢
  have HOK := Lib.hid hok
  have HWF : Hid (∀ x ∈ c.l, L4.Wf x) := by unfold Hid; rw [← hc]; exact lat_wf h
  obtain ⟨r, hr⟩ : ∃ r, commitM c = r := ⟨_, rfl⟩
  rw [hr]
  have HR := Lib.hid hr
  obtain ⟨f, hf⟩ : ∃ f, fieldsM c 5 = f := ⟨_, rfl⟩
  rw [hf] at HF
  have HFM := Lib.hid hf
  have HSS : Hid (∀ (k : Int) (label : ByteArray) (A1 : Option Addr) (n1 c1 : Nat) (A2 : Option Addr) (n2 c2 : Nat) (A3 : Option Addr) (n3 c3 : Nat) (st : Int) (note root : ByteArray), (Tryz.prog.info? 27).map (·.size) = some (#[Value.int .i64 k, .string label, .slice A1 n1 c1, .slice A2 n2 c2, .slice A3 n3 c3, .int .i64 st, .string note, .string root]).size) := fun _ _ _ _ _ _ _ _ _ _ _ _ _ _ => size27
  have HA0 := Lib.hid (one8 0 ⟨#[]⟩ none 0 0 none 0 0 none 0 0 0 ⟨#[]⟩ ⟨#[]⟩)
  obtain ⟨A0, c0, rfl⟩ := h.slice
  clear hr hf hc h hB hok
  go_enter Tryz.func117, Tryz.ntmps117
  go_wp2_with fail
  refine HF.out.mono ?_
  rintro e w2 ⟨hb2, he⟩
  have HP2 : Hid (w2.heap[w.heap.size + 1]? = some (.cells #[.int .i64 0, .string ⟨#[]⟩, .slice none 0 0, .slice none 0 0, .slice none 0 0, .int .i64 0, .string ⟨#[]⟩, .string ⟨#[]⟩] 27 (0, 0))) := (hb2.block _ (by simp)).trans HP0.out
  have HZ : Hid (w.heap.size + 1 < w2.heap.size) := by have := hb2.size; simp at this; unfold Hid; omega
  have HB2 := Lib.hid (HB.out.trans (hb2.mono HB.out.size))
  clear hb2 HF HB HP0
  cases f with
  | none =>
    subst he
    have hr : r = none := by rw [← HR.out]; unfold commitM; rw [HFM.out]
    subst hr
    clear HR HFM
    go_wp2_with (refine wpList_store_row (P := Tryz.prog) rfl 27 _ _ rfl (w.heap.size + 1) #[.int .i64 0, .string ⟨#[]⟩, .slice none 0 0, .slice none 0 0, .slice none 0 0, .int .i64 0, .string ⟨#[]⟩, .string ⟨#[]⟩] rfl rfl 27 _ HP2.out (HSS.out _ _ _ _ _ _ _ _ _ _ _ _ _ _) rfl HA0.out ?_)
    refine bodyPost_ret (results_ob Tryz.f117 rfl _ _ (w.heap.size + 1) 0 ⟨#[]⟩ none 0 0 none 0 0 none 0 0 0 ⟨#[]⟩ ⟨#[]⟩ false ?h2 ?h3 (setRow_heap _ (w.heap.size + 1) _ _ 27 (0, 0) HP2.out)) rfl ?_
    case h2 => rfl
    case h3 => rfl
    exact ⟨below_row HB2.out (by omega), _, _, _, _, _, _, _, _, _, _, _, _, _, _, _, rfl, rfl⟩
  | some L =>
    obtain ⟨v, d2, rfl, hv⟩ := he
    obtain ⟨l, -, hL, hl, hall⟩ := fields_some HFM.out
    match L, (show L.length = 5 by rw [hL, List.length_map, hl]) with
    | [a, b, x, y, z], hLl =>
      have HSH := Lib.hid (short_lists HOK.out HFM.out)
      have HKM := Lib.hid (commitM_eq HFM.out)
      have HNB := Lib.hid (fields_num HFM.out HWF.out)
      obtain ⟨bb, oo, cc, rfl, hbb, hg⟩ := shs_get hv rfl (by omega)
      obtain ⟨ua, ca, ha⟩ := hg 0 (by omega)
      obtain ⟨ub, cb, hb⟩ := hg 1 (by omega)
      obtain ⟨ux, cx, hx⟩ := hg 2 (by omega)
      obtain ⟨uy, cy, hy⟩ := hg 3 (by omega)
      obtain ⟨uz, cz, hz⟩ := hg 4 (by omega)
      rw [Nat.add_zero] at ca
      have htx := as_num hx
      have hty := as_txt hy
      have htz := as_txt hz
      simp only [List.getElem_cons_zero, List.getElem_cons_succ] at htx hty htz ha hb
      have HKD := Lib.hid (isKind61 ha 2)
      have HRW := Lib.hid (readList64 d2 ub b w2 hb (HSH.out b (by simp)))
      have HST : Hid (-9223372036854775808 ≤ numV x ∧ numV x ≤ 9223372036854775807) := by
        unfold Hid
        cases x with
        | num n => exact HNB.out _ (by simp) n rfl
        | _ => exact ⟨by show (-9223372036854775808 : Int) ≤ 0; omega, by show (0 : Int) ≤ _; omega⟩
      have HR2 : Hid ((if (isNum a && (numV a == 2)) = true then ((listM textM b).bind fun p => if isNum x = true then (if isTxt y = true then (if isTxt z = true then some (Ob.mk 2 ⟨#[]⟩ [] [] p (numV x) (txtV y) (txtV z)) else none) else none) else none) else none) = r) := by unfold Hid; rw [← HKM.out]; exact HR.out
      clear ha hb hx hy hz hg hv hL hl HFM hLl hall HSH HR HKM HNB
      generalize (isNum a && (numV a == 2)) = qa at HKD HR2
      generalize isNum x = qx at htx HR2
      generalize isTxt y = qy at hty HR2
      generalize isTxt z = qz at htz HR2
      generalize numV x = st at htx HR2 HST
      generalize txtV y = nt at hty HR2
      generalize txtV z = rt at htz HR2
      generalize listM textM b = r1 at HRW HR2
      cases qa with
      | false =>
        have hr : r = none := by rw [← HR2.out, if_neg (by simp)]
        subst hr
        clear HR2 HRW
        go_wp2_with (first | (go_at_call 155; refine (HKD.out _).mono ?_; rintro _ w3 ⟨rfl, rfl⟩) | (refine wpList_store_row (P := Tryz.prog) rfl 27 _ _ rfl (w.heap.size + 1) #[.int .i64 0, .string ⟨#[]⟩, .slice none 0 0, .slice none 0 0, .slice none 0 0, .int .i64 0, .string ⟨#[]⟩, .string ⟨#[]⟩] rfl rfl 27 _ HP2.out (HSS.out _ _ _ _ _ _ _ _ _ _ _ _ _ _) rfl HA0.out ?_))
        refine bodyPost_ret (results_ob Tryz.f117 rfl _ _ (w.heap.size + 1) 0 ⟨#[]⟩ none 0 0 none 0 0 none 0 0 0 ⟨#[]⟩ ⟨#[]⟩ false ?h2 ?h3 (setRow_heap _ (w.heap.size + 1) _ _ 27 (0, 0) HP2.out)) rfl ?_
        case h2 => rfl
        case h3 => rfl
        exact ⟨below_row HB2.out (by omega), _, _, _, _, _, _, _, _, _, _, _, _, _, _, _, rfl, rfl⟩
      | true =>
        go_wp2_with (go_at_call 155; refine (HKD.out _).mono ?_; rintro _ w3 ⟨rfl, rfl⟩)
        refine HRW.out.mono ?_
        intro e3 w3 h3
        obtain ⟨hb3, A3, n3, c3, q1, rfl, hr1⟩ := txts_norm h3
        have cx3 := (hb3.cell (p := ⟨bb, oo + 2, none⟩) hbb).trans cx
        have cy3 := (hb3.cell (p := ⟨bb, oo + 3, none⟩) hbb).trans cy
        have cz3 := (hb3.cell (p := ⟨bb, oo + 4, none⟩) hbb).trans cz
        have HB4 := Lib.hid (HB2.out.trans (hb3.mono HB2.out.size))
        have HB5 := Lib.hid (HB4.out.alloc HB4.out.size (.cells #[.int .i64 2, .string ⟨#[]⟩, .slice none 0 0, .slice none 0 0, .slice A3 n3 c3, .int .i64 st, .string nt, .string rt] 27))
        have HP4 : Hid ((w3.alloc (.cells #[.int .i64 2, .string ⟨#[]⟩, .slice none 0 0, .slice none 0 0, .slice A3 n3 c3, .int .i64 st, .string nt, .string rt] 27)).heap[w.heap.size + 1]? = some (.cells #[.int .i64 0, .string ⟨#[]⟩, .slice none 0 0, .slice none 0 0, .slice none 0 0, .int .i64 0, .string ⟨#[]⟩, .string ⟨#[]⟩] 27 (0, 0))) :=
          (Below.heap_alloc w3 _ _ (Nat.lt_of_lt_of_le HZ.out hb3.size)).trans ((hb3.block _ HZ.out).trans HP2.out)
        have HA1 := Lib.hid (one8 2 ⟨#[]⟩ none 0 0 none 0 0 A3 n3 c3 st nt rt)
        have HR1 := Lib.hid hr1
        have HB32 := Lib.hid hb3
        clear h3 hb3 HRW HB2 HP2 HKD hr1 ca cb cx cy cz
        have fin : ∀ q, q = (q1 && (qx && (qy && qz))) → ObTo w r (.returned (.tuple #[.agg #[.int .i64 2, .string ⟨#[]⟩, .slice none 0 0, .slice none 0 0, .slice A3 n3 c3, .int .i64 st, .string nt, .string rt], .bool q])) ((w3.alloc (.cells #[.int .i64 2, .string ⟨#[]⟩, .slice none 0 0, .slice none 0 0, .slice A3 n3 c3, .int .i64 st, .string nt, .string rt] 27)).setRow (w.heap.size + 1) #[.int .i64 2, .string ⟨#[]⟩, .slice none 0 0, .slice none 0 0, .slice A3 n3 c3, .int .i64 st, .string nt, .string rt]) := by
          intro q hq
          subst hq
          refine ⟨below_row HB5.out (by omega), _, _, _, _, _, _, _, _, _, _, _, _, _, _, _, rfl, ?_⟩
          have h1 := HR1.out
          rw [← HR2.out, if_pos (by trivial)]
          cases r1 with
          | none => have h1 : q1 = false := h1; rw [h1]; exact Bool.false_and _
          | some l1 =>
            obtain ⟨k1, k2, k3⟩ := h1
            rw [k1, Bool.true_and, Option.bind_some]
            cases qx with
            | false => rw [if_neg (by decide)]; exact Bool.false_and _
            | true =>
              rw [if_pos (by trivial), Bool.true_and]
              cases qy with
              | false => rw [if_neg (by decide)]; exact Bool.false_and _
              | true =>
                rw [if_pos (by trivial), Bool.true_and]
                cases qz with
                | false => rw [if_neg (by decide)]
                | true =>
                  rw [if_pos (by trivial)]
                  have hz2 := HZ.out
                  refine ⟨rfl, ⟨_, _, _, rfl⟩, ⟨rowsNil _ _, KidsAt.nil _ _, ?_, HST.out.1, HST.out.2, by intro r hr; cases hr⟩, FreshV.nil _ _ _, FreshV.nil _ _ _, k3.mono (by omega)⟩
                  rw [setRow_size]
                  refine txts_same ((k2.below ((Below.refl _ w3).alloc (Nat.le_refl _) _)).more ((Below.refl _ w3).alloc (Nat.le_refl _) _).size) fun b o n c e o' => L4.cell_same (setRow_other _ _ _ _ ?_) o'
                  have := k3 b o n c e
                  omega
        have FIN := Lib.hid fin
        clear fin
        cases q1 with
        | false =>
          go_wp2_with (refine wpList_store_row (P := Tryz.prog) rfl 27 _ _ rfl (w.heap.size + 1) #[.int .i64 2, .string ⟨#[]⟩, .slice none 0 0, .slice none 0 0, .slice A3 n3 c3, .int .i64 st, .string nt, .string rt] rfl rfl 27 _ HP4.out (HSS.out _ _ _ _ _ _ _ _ _ _ _ _ _ _) rfl HA1.out ?_)
          refine bodyPost_ret (results_ob Tryz.f117 rfl _ _ (w.heap.size + 1) 2 ⟨#[]⟩ none 0 0 none 0 0 A3 n3 c3 st nt rt false ?h2 ?h3 (setRow_heap _ (w.heap.size + 1) _ _ 27 (0, 0) HP4.out)) rfl ?_
          case h2 => rfl
          case h3 => rfl
          exact FIN.out _ (by simp)
        | true =>
          cases qx with
          | false =>
            go_wp2_with (refine wpList_store_row (P := Tryz.prog) rfl 27 _ _ rfl (w.heap.size + 1) #[.int .i64 2, .string ⟨#[]⟩, .slice none 0 0, .slice none 0 0, .slice A3 n3 c3, .int .i64 st, .string nt, .string rt] rfl rfl 27 _ HP4.out (HSS.out _ _ _ _ _ _ _ _ _ _ _ _ _ _) rfl HA1.out ?_)
            refine bodyPost_ret (results_ob Tryz.f117 rfl _ _ (w.heap.size + 1) 2 ⟨#[]⟩ none 0 0 none 0 0 A3 n3 c3 st nt rt false ?h2 ?h3 (setRow_heap _ (w.heap.size + 1) _ _ 27 (0, 0) HP4.out)) rfl ?_
            case h2 => rfl
            case h3 => rfl
            exact FIN.out _ (by simp)
          | true =>
            cases qy with
            | false =>
              go_wp2_with (refine wpList_store_row (P := Tryz.prog) rfl 27 _ _ rfl (w.heap.size + 1) #[.int .i64 2, .string ⟨#[]⟩, .slice none 0 0, .slice none 0 0, .slice A3 n3 c3, .int .i64 st, .string nt, .string rt] rfl rfl 27 _ HP4.out (HSS.out _ _ _ _ _ _ _ _ _ _ _ _ _ _) rfl HA1.out ?_)
              refine bodyPost_ret (results_ob Tryz.f117 rfl _ _ (w.heap.size + 1) 2 ⟨#[]⟩ none 0 0 none 0 0 A3 n3 c3 st nt rt false ?h2 ?h3 (setRow_heap _ (w.heap.size + 1) _ _ 27 (0, 0) HP4.out)) rfl ?_
              case h2 => rfl
              case h3 => rfl
              exact FIN.out _ (by simp)
            | true =>
              go_wp2_with (refine wpList_store_row (P := Tryz.prog) rfl 27 _ _ rfl (w.heap.size + 1) #[.int .i64 2, .string ⟨#[]⟩, .slice none 0 0, .slice none 0 0, .slice A3 n3 c3, .int .i64 st, .string nt, .string rt] rfl rfl 27 _ HP4.out (HSS.out _ _ _ _ _ _ _ _ _ _ _ _ _ _) rfl HA1.out ?_)
              refine bodyPost_ret (results_ob Tryz.f117 rfl _ _ (w.heap.size + 1) 2 ⟨#[]⟩ none 0 0 none 0 0 A3 n3 c3 st nt rt qz ?h2 ?h3 (setRow_heap _ (w.heap.size + 1) _ _ 27 (0, 0) HP4.out)) rfl ?_
              case h2 => rfl
              case h3 => rfl
              exact FIN.out _ (by simp)
end Go.Proofs.YtjanddnlhaionaaGreatDoor
