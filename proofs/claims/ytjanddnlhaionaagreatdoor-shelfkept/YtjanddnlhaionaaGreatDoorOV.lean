/-
  The contract of readKid. No condition.
-/
import Derived.Test.YtjanddnlhaionaaGreatDoorOU
import Derived.Test.YtjanddnlhaionaaGreatDoorOQ
namespace Go.Proofs.YtjanddnlhaionaaGreatDoor
open Go.RowKit
open L4 (C LAt)
open L2 (Row Vl RowsAt rowsOK valOK)

set_option maxRecDepth 100000 in
theorem kidM_eq {c : C} {a b : Sh} (h : fieldsM c 2 = some [a, b]) : kidM c = if isNum a = true ∧ isTxt b = true ∧ 0 ≤ numV a ∧ numV a ≤ 255 then some ⟨numV a, txtV b⟩ else none := by
  unfold kidM
  rw [h]
  cases a <;> cases b <;> simp [numM, txtM, isNum, isTxt, numV, txtV]
def KidTo (w : World) (r : Option Kd) (e : Ending) (w' : World) : Prop :=
  Below w.heap.size w w' ∧ match r with
    | some k => e = .returned (.tuple #[.agg #[.int .u8 k.f, .string k.id], .bool true])
    | none => ∃ x s, e = .returned (.tuple #[.agg #[.int .u8 x, .string s], .bool false])
set_option maxRecDepth 100000 in
theorem results63 (tmps : Array Value) (w : World) (P : Nat) (x : Int) (s : ByteArray) (q : Bool) (hp2 : tmps[2]?.getD undef = .pointer (some ⟨P, 0, none⟩)) (hp3 : tmps[3]?.getD undef = .bool q) (h0 : w.heap[P]? = some (.cells #[.int .u8 x, .string s] 95 (0, 0))) :
    (results Tryz.f157 tmps).run Tryz.prog w = .ok (.tuple #[.agg #[.int .u8 x, .string s], .bool q]) w := by
  have p0 : w.cell? ⟨P, 0, none⟩ = some (.int .u8 x) := cell_of_row w P 0 _ 95 (0, 0) h0
  have p1 : w.cell? ⟨P, 1, none⟩ = some (.string s) := cell_of_row w P 1 _ 95 (0, 0) h0
  simp [results, Tryz.results157, hp2, hp3, asAddr, go_sem, p0, p1]
set_option maxRecDepth 100000 in
theorem one2 (x : Int) (s : ByteArray) : (#[Value.int .u8 x, .string s]).all (·.oneCell') = true := by simp [Value.oneCell']
set_option maxRecDepth 100000 in
theorem below_row {w w2 : World} {B : Nat} {cs : Array Value} (hb : Below w.heap.size w w2) (hB : w.heap.size ≤ B) : Below w.heap.size w (w2.setRow B cs) := hb.trans ⟨rfl, rfl, rfl, by rw [setRow_size]; exact Nat.le_refl _, fun k hk => setRow_other _ _ _ _ (by omega)⟩

set_option maxRecDepth 100000 in
set_option maxHeartbeats 4000000 in
theorem readKid63 (d : Nat) (ck cn : Int) (cs : ByteArray) (cl : List C) (u : Value) (w : World) (h : LAt w w.heap.size d u cl) :
    Calls Tryz.prog 157 #[.agg #[.int .i64 ck, .int .i64 cn, .string cs, u]] w (KidTo w (kidM (.mk ck cn cs cl))) := by
  have hB : Below w.heap.size w ((w.alloc (.cells #[.int .i64 ck, .int .i64 cn, .string cs, u] 38)).alloc (.cells #[.int .u8 0, .string ⟨#[]⟩] 95)) := ((Below.refl _ _).alloc (Nat.le_refl _) _).alloc (by simp) _
  have HB := Lib.hid hB
  have HF : Hid (Calls Tryz.prog 119 #[.agg #[.int .i64 ck, .int .i64 cn, .string cs, u], .int .i64 2] ((w.alloc (.cells #[.int .i64 ck, .int .i64 cn, .string cs, u] 38)).alloc (.cells #[.int .u8 0, .string ⟨#[]⟩] 95)) (FieldsTo ((w.alloc (.cells #[.int .i64 ck, .int .i64 cn, .string cs, u] 38)).alloc (.cells #[.int .u8 0, .string ⟨#[]⟩] 95)) (fieldsM (.mk ck cn cs cl) 2))) := readFields53 d ck cn cs cl u 2 (by omega) _ (h.step hB)
  have HP0 : Hid (((w.alloc (.cells #[.int .i64 ck, .int .i64 cn, .string cs, u] 38)).alloc (.cells #[.int .u8 0, .string ⟨#[]⟩] 95)).heap[w.heap.size + 1]? = some (.cells #[.int .u8 0, .string ⟨#[]⟩] 95 (0, 0))) := by
    unfold Hid
    have := heap_alloc_new (w.alloc (.cells #[.int .i64 ck, .int .i64 cn, .string cs, u] 38)) (.cells #[.int .u8 0, .string ⟨#[]⟩] 95)
    simpa using this
  obtain ⟨c, hc⟩ : ∃ c, C.mk ck cn cs cl = c := ⟨_, rfl⟩
  rw [hc] at HF ⊢
  obtain ⟨r, hr⟩ : ∃ r, kidM c = r := ⟨_, rfl⟩
  rw [hr]
  have HR := Lib.hid hr
  obtain ⟨f, hf⟩ : ∃ f, fieldsM c 2 = f := ⟨_, rfl⟩
  rw [hf] at HF
  have HFM := Lib.hid hf
  have hs55 := size55
  have HSS : Hid (∀ (x : Int) (s : ByteArray), (Tryz.prog.info? 95).map (·.size) = some (#[Value.int .u8 x, .string s]).size) := fun _ _ => size55
  obtain ⟨A0, c0, rfl⟩ := h.slice
  clear hr hf hc h hB hs55
  go_enter Tryz.func157, Tryz.ntmps157
  go_wp2_with fail
  refine HF.out.mono ?_
  rintro e w2 ⟨hb2, he⟩
  have HP2 : Hid (w2.heap[w.heap.size + 1]? = some (.cells #[.int .u8 0, .string ⟨#[]⟩] 95 (0, 0))) := (hb2.block _ (by simp)).trans HP0.out
  have HB2 := Lib.hid (HB.out.trans (hb2.mono HB.out.size))
  clear hb2 HF HB HP0
  cases f with
  | none =>
    subst he
    have hr : r = none := by rw [← HR.out]; unfold kidM; rw [HFM.out]
    subst hr
    have HA := Lib.hid (one2 0 ⟨#[]⟩)
    clear HR HFM
    go_wp2_with (refine wpList_store_row (P := Tryz.prog) rfl 95 _ _ rfl (w.heap.size + 1) #[.int .u8 0, .string ⟨#[]⟩] rfl rfl 95 _ HP2.out (HSS.out _ _) rfl HA.out ?_)
    refine bodyPost_ret (results63 _ _ (w.heap.size + 1) 0 ⟨#[]⟩ false ?h2 ?h3 (setRow_heap _ (w.heap.size + 1) _ _ 95 (0, 0) HP2.out)) rfl ?_
    case h2 => rfl
    case h3 => rfl
    exact ⟨below_row HB2.out (by omega), _, _, rfl⟩
  | some L =>
    obtain ⟨v, d2, rfl, hv⟩ := he
    obtain ⟨l, -, hL, hl, -⟩ := fields_some HFM.out
    match L, (show L.length = 2 by rw [hL, List.length_map, hl]) with
    | [a, b], hLl =>
      have HKM := Lib.hid (kidM_eq HFM.out)
      obtain ⟨bb, oo, cc, rfl, hbb, hg⟩ := shs_get hv rfl (by omega)
      obtain ⟨ua, ca, ha⟩ := hg 0 (by omega)
      obtain ⟨ub, cb, hb⟩ := hg 1 (by omega)
      rw [Nat.add_zero] at ca
      have hta := as_num ha
      have htb := as_txt hb
      simp only [List.getElem_cons_zero, List.getElem_cons_succ] at hta htb
      clear ha hb hg hv hL hl HFM hLl
      have HR2 : Hid ((if isNum a = true ∧ isTxt b = true ∧ 0 ≤ numV a ∧ numV a ≤ 255 then some (Kd.mk (numV a) (txtV b)) else none) = r) := by unfold Hid; rw [← HKM.out]; exact HR.out
      clear HR HKM
      generalize isNum a = qa at hta HR2
      generalize isTxt b = qb at htb HR2
      generalize numV a = n at hta HR2
      generalize txtV b = t at htb HR2
      have HAll := Lib.hid (one2 (IntKind.u8.wrap n) t)
      have fin : ∀ q, (q = true → qa = true ∧ qb = true ∧ 0 ≤ n ∧ n ≤ 255) → (q = false → ¬ (qa = true ∧ qb = true ∧ 0 ≤ n ∧ n ≤ 255)) → KidTo w r (.returned (.tuple #[.agg #[.int .u8 (IntKind.u8.wrap n), .string t], .bool q])) (w2.setRow (w.heap.size + 1) #[.int .u8 (IntKind.u8.wrap n), .string t]) := by
        intro q h1 h2
        refine ⟨below_row HB2.out (by omega), ?_⟩
        cases q with
        | true =>
          have h3 := h1 rfl
          rw [← HR2.out, if_pos h3, wrap_u8 h3.2.2.1 h3.2.2.2]
        | false =>
          rw [← HR2.out, if_neg (h2 rfl)]
          exact ⟨_, _, rfl⟩
      have FIN := Lib.hid fin
      clear fin HR2
      cases p0 : decide (0 ≤ n) with
      | false =>
        cases qa <;> (
          go_wp2_with (refine wpList_store_row (P := Tryz.prog) rfl 95 _ _ rfl (w.heap.size + 1) #[.int .u8 (IntKind.u8.wrap n), .string t] rfl rfl 95 _ HP2.out (HSS.out _ _) rfl HAll.out ?_)
          refine bodyPost_ret (results63 _ _ (w.heap.size + 1) (IntKind.u8.wrap n) t false ?h2 ?h3 (setRow_heap _ (w.heap.size + 1) _ _ 95 (0, 0) HP2.out)) rfl ?_
          case h2 => rfl
          case h3 => rfl
          exact FIN.out _ (by simp) (fun _ h => by have := h.2.2.1; simp at p0; omega))
      | true =>
        cases p1 : decide (n ≤ 255) with
        | false =>
          cases qa <;> (
            go_wp2_with (refine wpList_store_row (P := Tryz.prog) rfl 95 _ _ rfl (w.heap.size + 1) #[.int .u8 (IntKind.u8.wrap n), .string t] rfl rfl 95 _ HP2.out (HSS.out _ _) rfl HAll.out ?_)
            refine bodyPost_ret (results63 _ _ (w.heap.size + 1) (IntKind.u8.wrap n) t false ?h2 ?h3 (setRow_heap _ (w.heap.size + 1) _ _ 95 (0, 0) HP2.out)) rfl ?_
            case h2 => rfl
            case h3 => rfl
            exact FIN.out _ (by simp) (fun _ h => by have := h.2.2.2; simp at p1; omega))
        | true =>
          have q0 : 0 ≤ n := by simpa using p0
          have q1 : n ≤ 255 := by simpa using p1
          have HQ := Lib.hid (And.intro q0 q1)
          clear q0 q1
          cases qa with
          | false =>
            go_wp2_with (refine wpList_store_row (P := Tryz.prog) rfl 95 _ _ rfl (w.heap.size + 1) #[.int .u8 (IntKind.u8.wrap n), .string t] rfl rfl 95 _ HP2.out (HSS.out _ _) rfl HAll.out ?_)
            refine bodyPost_ret (results63 _ _ (w.heap.size + 1) (IntKind.u8.wrap n) t false ?h2 ?h3 (setRow_heap _ (w.heap.size + 1) _ _ 95 (0, 0) HP2.out)) rfl ?_
            case h2 => rfl
            case h3 => rfl
            exact FIN.out _ (by simp) (fun _ h => by simp at h)
          | true =>
            go_wp2_with (refine wpList_store_row (P := Tryz.prog) rfl 95 _ _ rfl (w.heap.size + 1) #[.int .u8 (IntKind.u8.wrap n), .string t] rfl rfl 95 _ HP2.out (HSS.out _ _) rfl HAll.out ?_)
            refine bodyPost_ret (results63 _ _ (w.heap.size + 1) (IntKind.u8.wrap n) t qb ?h2 ?h3 (setRow_heap _ (w.heap.size + 1) _ _ 95 (0, 0) HP2.out)) rfl ?_
            case h2 => rfl
            case h3 => rfl
            exact FIN.out _ (fun h => ⟨by trivial, h, HQ.out.1, HQ.out.2⟩) (fun h h2 => by rw [h] at h2; exact absurd h2.2.1 (by decide))
end Go.Proofs.YtjanddnlhaionaaGreatDoor
