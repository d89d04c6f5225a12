/-
  The contract of readRow. No condition.
-/
import Derived.Test.YtjanddnlhaionaaGreatDoorOV
namespace Go.Proofs.YtjanddnlhaionaaGreatDoor
open Go.RowKit
open L4 (C LAt)
open L2 (Row Vl RowsAt rowsOK valOK)

set_option maxRecDepth 100000 in
theorem rowM_eq {c : C} {a b v : Sh} (h : fieldsM c 3 = some [a, b, v]) : rowM c = if isNum a = true ∧ isNum b = true then some (numV a, numV b, v.val) else none := by
  unfold rowM
  rw [h]
  cases a <;> cases b <;> simp [numM, isNum, numV]
def RowTo (w : World) (r : Option Row) (e : Ending) (w' : World) : Prop :=
  Below w.heap.size w w' ∧ match r with
    | some r => e = .returned (.tuple #[.agg #[.int .i64 r.1, .int .i64 r.2.1, .int .i64 r.2.2.1, .int .i64 r.2.2.2.1, .string r.2.2.2.2], .bool true])
    | none => ∃ f t k n s, e = .returned (.tuple #[.agg #[.int .i64 f, .int .i64 t, .int .i64 k, .int .i64 n, .string s], .bool false])
set_option maxRecDepth 100000 in
theorem results30 (tmps : Array Value) (w : World) (P : Nat) (f t k n : Int) (s : ByteArray) (q : Bool) (hp2 : tmps[2]?.getD undef = .pointer (some ⟨P, 0, none⟩)) (hp3 : tmps[3]?.getD undef = .bool q) (h0 : w.heap[P]? = some (.cells #[.int .i64 f, .int .i64 t, .int .i64 k, .int .i64 n, .string s] 93 (0, 0))) :
    (results Tryz.f65 tmps).run Tryz.prog w = .ok (.tuple #[.agg #[.int .i64 f, .int .i64 t, .int .i64 k, .int .i64 n, .string s], .bool q]) w := by
  have p0 : w.cell? ⟨P, 0, none⟩ = some (.int .i64 f) := cell_of_row w P 0 _ 93 (0, 0) h0
  have p1 : w.cell? ⟨P, 1, none⟩ = some (.int .i64 t) := cell_of_row w P 1 _ 93 (0, 0) h0
  have p2 : w.cell? ⟨P, 2, none⟩ = some (.int .i64 k) := cell_of_row w P 2 _ 93 (0, 0) h0
  have p3 : w.cell? ⟨P, 3, none⟩ = some (.int .i64 n) := cell_of_row w P 3 _ 93 (0, 0) h0
  have p4 : w.cell? ⟨P, 4, none⟩ = some (.string s) := cell_of_row w P 4 _ 93 (0, 0) h0
  simp [results, Tryz.results65, hp2, hp3, asAddr, go_sem, p0, p1, p2, p3, p4]
set_option maxRecDepth 100000 in
theorem one5 (f t k n : Int) (s : ByteArray) : (#[Value.int .i64 f, .int .i64 t, .int .i64 k, .int .i64 n, .string s]).all (·.oneCell') = true := by simp [Value.oneCell']

set_option maxRecDepth 100000 in
/-- What invoking 'value' on a shape comes to. -/
theorem sh_value {W : World} {B d : Nat} {u : Value} {sh : Sh} (h : ShAt W B d u sh) (hs : sh.some = true) : ∃ t y fn z, u = .iface t y ∧ (fn = 256 ∨ fn = 257 ∨ fn = 255) ∧ (∀ w, (method 441 t y "fasti/object.value").run Tryz.prog w = .ok (fn, z) w) ∧ ∀ w, Calls Tryz.prog fn #[z] w (ValTo w sh.val) := by
  cases sh with
  | none => cases hs
  | num n => exact ⟨183, _, 256, _, h, .inl rfl, fun w => meth_n n w, fun w => value100 n w⟩
  | text s => exact ⟨184, _, 257, _, h, .inr (.inl rfl), fun w => meth_t s w, fun w => value101 s w⟩
  | list l =>
    obtain ⟨A, cap, rfl, _⟩ := sh_slice h
    exact ⟨180, _, 255, _, rfl, .inr (.inr rfl), fun w => meth_l _ _ _ w, fun w => value99 _ _ _ w⟩

set_option maxRecDepth 100000 in
set_option maxHeartbeats 4000000 in
theorem readRow30 (d : Nat) (ck cn : Int) (cs : ByteArray) (cl : List C) (u : Value) (w : World) (h : LAt w w.heap.size d u cl) :
    Calls Tryz.prog 65 #[.agg #[.int .i64 ck, .int .i64 cn, .string cs, u]] w (RowTo w (rowM (.mk ck cn cs cl))) := by
  have hB : Below w.heap.size w ((w.alloc (.cells #[.int .i64 ck, .int .i64 cn, .string cs, u] 38)).alloc (.cells #[.int .i64 0, .int .i64 0, .int .i64 0, .int .i64 0, .string ⟨#[]⟩] 93)) := ((Below.refl _ _).alloc (Nat.le_refl _) _).alloc (by simp) _
  have HB := Lib.hid hB
  have HF : Hid (Calls Tryz.prog 119 #[.agg #[.int .i64 ck, .int .i64 cn, .string cs, u], .int .i64 3] ((w.alloc (.cells #[.int .i64 ck, .int .i64 cn, .string cs, u] 38)).alloc (.cells #[.int .i64 0, .int .i64 0, .int .i64 0, .int .i64 0, .string ⟨#[]⟩] 93)) (FieldsTo ((w.alloc (.cells #[.int .i64 ck, .int .i64 cn, .string cs, u] 38)).alloc (.cells #[.int .i64 0, .int .i64 0, .int .i64 0, .int .i64 0, .string ⟨#[]⟩] 93)) (fieldsM (.mk ck cn cs cl) 3))) := readFields53 d ck cn cs cl u 3 (by omega) _ (h.step hB)
  have HP0 : Hid (((w.alloc (.cells #[.int .i64 ck, .int .i64 cn, .string cs, u] 38)).alloc (.cells #[.int .i64 0, .int .i64 0, .int .i64 0, .int .i64 0, .string ⟨#[]⟩] 93)).heap[w.heap.size + 1]? = some (.cells #[.int .i64 0, .int .i64 0, .int .i64 0, .int .i64 0, .string ⟨#[]⟩] 93 (0, 0))) := by
    unfold Hid
    have := heap_alloc_new (w.alloc (.cells #[.int .i64 ck, .int .i64 cn, .string cs, u] 38)) (.cells #[.int .i64 0, .int .i64 0, .int .i64 0, .int .i64 0, .string ⟨#[]⟩] 93)
    simpa using this
  obtain ⟨c, hc⟩ : ∃ c, C.mk ck cn cs cl = c := ⟨_, rfl⟩
  rw [hc] at HF ⊢
  obtain ⟨r, hr⟩ : ∃ r, rowM c = r := ⟨_, rfl⟩
  rw [hr]
  have HR := Lib.hid hr
  obtain ⟨f, hf⟩ : ∃ f, fieldsM c 3 = f := ⟨_, rfl⟩
  rw [hf] at HF
  have HFM := Lib.hid hf
  have HSS : Hid (∀ (f t k n : Int) (s : ByteArray), (Tryz.prog.info? 93).map (·.size) = some (#[Value.int .i64 f, .int .i64 t, .int .i64 k, .int .i64 n, .string s]).size) := fun _ _ _ _ _ => size43
  obtain ⟨A0, c0, rfl⟩ := h.slice
  clear hr hf hc h hB
  go_enter Tryz.func65, Tryz.ntmps65
  go_wp2_with fail
  refine HF.out.mono ?_
  rintro e w2 ⟨hb2, he⟩
  have HP2 : Hid (w2.heap[w.heap.size + 1]? = some (.cells #[.int .i64 0, .int .i64 0, .int .i64 0, .int .i64 0, .string ⟨#[]⟩] 93 (0, 0))) := (hb2.block _ (by simp)).trans HP0.out
  have HZ : Hid (w.heap.size + 1 < w2.heap.size) := by have := hb2.size; simp at this; unfold Hid; omega
  have HB2 := Lib.hid (HB.out.trans (hb2.mono HB.out.size))
  clear hb2 HF HB HP0
  cases f with
  | none =>
    subst he
    have hr : r = none := by rw [← HR.out]; unfold rowM; rw [HFM.out]
    subst hr
    have HA := Lib.hid (one5 0 0 0 0 ⟨#[]⟩)
    clear HR HFM
    go_wp2_with (refine wpList_store_row (P := Tryz.prog) rfl 93 _ _ rfl (w.heap.size + 1) #[.int .i64 0, .int .i64 0, .int .i64 0, .int .i64 0, .string ⟨#[]⟩] rfl rfl 93 _ HP2.out (HSS.out _ _ _ _ _) rfl HA.out ?_)
    refine bodyPost_ret (results30 _ _ (w.heap.size + 1) 0 0 0 0 ⟨#[]⟩ false ?h2 ?h3 (setRow_heap _ (w.heap.size + 1) _ _ 93 (0, 0) HP2.out)) rfl ?_
    case h2 => rfl
    case h3 => rfl
    exact ⟨below_row HB2.out (by omega), _, _, _, _, _, rfl⟩
  | some L =>
    obtain ⟨v, d2, rfl, hv⟩ := he
    obtain ⟨l, -, hL, hl, hall⟩ := fields_some HFM.out
    match L, (show L.length = 3 by rw [hL, List.length_map, hl]) with
    | [a, b, x], hLl =>
      have HKM := Lib.hid (rowM_eq HFM.out)
      obtain ⟨bb, oo, cc, rfl, hbb, hg⟩ := shs_get hv rfl (by omega)
      obtain ⟨ua, ca, ha⟩ := hg 0 (by omega)
      obtain ⟨ub, cb, hb⟩ := hg 1 (by omega)
      obtain ⟨ux, cx, hx⟩ := hg 2 (by omega)
      rw [Nat.add_zero] at ca
      have hta := as_num ha
      have htb := as_num hb
      simp only [List.getElem_cons_zero, List.getElem_cons_succ] at hta htb hx
      obtain ⟨t, y, fn, z, rfl, hfn, hm, hcv⟩ := sh_value hx (by simp only [List.all_cons, Bool.and_eq_true] at hall; exact hall.2.2.1)
      have HCV := Lib.hid hcv
      clear ha hb hg hv hL hl HFM hLl hx hcv hall
      have HR2 : Hid ((if isNum a = true ∧ isNum b = true then some (numV a, numV b, x.val) else none) = r) := by unfold Hid; rw [← HKM.out]; exact HR.out
      clear HR HKM
      generalize isNum a = qa at hta HR2
      generalize isNum b = qb at htb HR2
      generalize numV a = n at hta HR2
      generalize numV b = m at htb HR2
      generalize x.val = xv at HCV HR2
      obtain ⟨vk, vn, vs⟩ := xv
      have HAll := Lib.hid (one5 n m vk vn vs)
      rcases hfn with rfl | rfl | rfl
      all_goals (
        go_wp2_with fail
        refine (HCV.out _).mono ?_
        rintro _ w3 ⟨rfl, hb3⟩
        have HP3 : Hid (w3.heap[w.heap.size + 1]? = some (.cells #[.int .i64 0, .int .i64 0, .int .i64 0, .int .i64 0, .string ⟨#[]⟩] 93 (0, 0))) := (hb3.block _ HZ.out).trans HP2.out
        have HB3 := Lib.hid (HB2.out.trans (hb3.mono HB2.out.size))
        clear hb3 HP2 HB2 HCV
        simp only
        cases qa with
        | false =>
          have hr : r = none := by rw [← HR2.out, if_neg (by simp)]
          subst hr
          clear HR2
          go_wp2_with (refine wpList_store_row (P := Tryz.prog) rfl 93 _ _ rfl (w.heap.size + 1) #[.int .i64 n, .int .i64 m, .int .i64 vk, .int .i64 vn, .string vs] rfl rfl 93 _ HP3.out (HSS.out _ _ _ _ _) rfl HAll.out ?_)
          refine bodyPost_ret (results30 _ _ (w.heap.size + 1) n m vk vn vs false ?h2 ?h3 (setRow_heap _ (w.heap.size + 1) _ _ 93 (0, 0) HP3.out)) rfl ?_
          case h2 => rfl
          case h3 => rfl
          exact ⟨below_row HB3.out (by omega), _, _, _, _, _, rfl⟩
        | true =>
          go_wp2_with (refine wpList_store_row (P := Tryz.prog) rfl 93 _ _ rfl (w.heap.size + 1) #[.int .i64 n, .int .i64 m, .int .i64 vk, .int .i64 vn, .string vs] rfl rfl 93 _ HP3.out (HSS.out _ _ _ _ _) rfl HAll.out ?_)
          refine bodyPost_ret (results30 _ _ (w.heap.size + 1) n m vk vn vs qb ?h2 ?h3 (setRow_heap _ (w.heap.size + 1) _ _ 93 (0, 0) HP3.out)) rfl ?_
          case h2 => rfl
          case h3 => rfl
          refine ⟨below_row HB3.out (by omega), ?_⟩
          rw [← HR2.out]
          cases qb with
          | false => rw [if_neg (by simp)]; exact ⟨_, _, _, _, _, rfl⟩
          | true => rw [if_pos ⟨by trivial, by trivial⟩])
end Go.Proofs.YtjanddnlhaionaaGreatDoor
