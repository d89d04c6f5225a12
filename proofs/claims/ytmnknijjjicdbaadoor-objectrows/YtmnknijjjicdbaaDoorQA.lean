/-
  The contracts of PutRows and TakeRows. No condition but on the number of a cell's parts.
-/
import Derived.Test.YtmnknijjjicdbaaDoorPG
namespace Go.Proofs.YtmnknijjjicdbaaDoor
open Go.RowKit
open L4 (C LAt okC)
open L2 (Row Vl RowsAt rowsOK valOK)

theorem size47 : (Tryd.prog.info? 47).map (·.size) = some 4 := by kernel_rfl
theorem one4 (k n : Int) (s : ByteArray) (A : Option Addr) (l c : Nat) : (#[Value.int .i64 k, .int .i64 n, .string s, .slice A l c]).all (·.oneCell') = true := by simp [Value.oneCell']
theorem results_cl (f : Func) (hf : f.results = #[.cell 2 47, .tmp 3]) (tmps : Array Value) (w : World) (P : Nat) (k n : Int) (s : ByteArray) (A : Option Addr) (l c : Nat) (q : Int)
    (hp2 : tmps[2]?.getD undef = .pointer (some ⟨P, 0, none⟩)) (hp3 : tmps[3]?.getD undef = .int .i64 q) (h0 : w.heap[P]? = some (.cells #[.int .i64 k, .int .i64 n, .string s, .slice A l c] 47 (0, 0))) :
    (results f tmps).run Tryd.prog w = .ok (.tuple #[.agg #[.int .i64 k, .int .i64 n, .string s, .slice A l c], .int .i64 q]) w := by
  have p0 := cell_of_row w P 0 _ 47 (0, 0) h0
  have p1 := cell_of_row w P 1 _ 47 (0, 0) h0
  have p2 := cell_of_row w P 2 _ 47 (0, 0) h0
  have p3 := cell_of_row w P 3 _ 47 (0, 0) h0
  simp [results, hf, hp2, hp3, asAddr, go_sem, p0, p1, p2, p3]

/-- What PutRows comes to: q, whether the rows are right. -/
def PRTo (w : World) (q : Bool) (l : List Row) (e : Ending) (w' : World) : Prop :=
  Below w.heap.size w w' ∧ ∃ A n c d, e = .returned (.tuple #[.agg #[.int .i64 (if q then 3 else 0), .int .i64 0, .string ⟨#[]⟩, .slice A n c], .int .i64 (if q then 0 else 2)]) ∧ LAt w' w'.heap.size d (.slice A n c) (if q then l.map rowCl else [])

set_option maxRecDepth 100000 in
set_option maxHeartbeats 4000000 in
theorem putRows13 (l : List Row) (v : Value) (w : World) (h : RowsAt w w.heap.size v l) (hn : ∀ r ∈ l, NumB r) : Calls Tryd.prog 13 #[v] w (PRTo w (rowsOK l) l) := by
  have hB : Below w.heap.size w (w.alloc (.cells #[.int .i64 0, .int .i64 0, .string ⟨#[]⟩, .slice none 0 0] 47)) := (Below.refl _ _).alloc (Nat.le_refl _) _
  have HB := Lib.hid hB
  have HP0 := Lib.hid (heap_alloc_new w (.cells #[.int .i64 0, .int .i64 0, .string ⟨#[]⟩, .slice none 0 0] 47))
  have HCK := Lib.hid (L2.check18 l v (w.alloc (.cells #[.int .i64 0, .int .i64 0, .string ⟨#[]⟩, .slice none 0 0] 47)) (h.step hB))
  have HLC : Hid (rowsOK l = true → ∀ w2, Below w.heap.size w w2 → Calls Tryd.prog 26 #[v, .func (.func 27) #[] #[]] w2 (ListOf w2 (l.map rowCl))) := by
    intro hok w2 hb
    have ha := rows_all hok
    exact listCell26 l v w2 (h.step hb) (by omega) fun r hr => row_w (ha.2 r hr) (hn r hr)
  obtain ⟨A0, cap0, rfl, -, -, -⟩ := h
  have HSS : Hid (∀ (k n : Int) (s : ByteArray) (A : Option Addr) (l c : Nat), (Tryd.prog.info? 47).map (·.size) = some (#[Value.int .i64 k, .int .i64 n, .string s, .slice A l c]).size) := fun _ _ _ _ _ _ => size47
  have HA : Hid (∀ k n s A l c, (#[Value.int .i64 k, .int .i64 n, .string s, .slice A l c]).all (·.oneCell') = true) := one4
  clear hB hn
  cases hok : rowsOK l with
  | false =>
    rw [hok] at HCK
    clear HLC
    go_enter Tryd.func13, Tryd.ntmps13
    go_wp2_with fail
    refine HCK.out.mono ?_
    rintro _ w2 ⟨rfl, hb⟩
    have HB2 := Lib.hid (HB.out.trans (hb.mono HB.out.size))
    have HP2 := Lib.hid ((hb.block w.heap.size (by simp)).trans HP0.out)
    clear hb HCK HB HP0
    go_wp2_with (refine wpList_store_row (P := Tryd.prog) rfl 47 _ _ rfl w.heap.size #[.int .i64 0, .int .i64 0, .string ⟨#[]⟩, .slice none 0 0] rfl rfl 47 _ HP2.out (HSS.out _ _ _ _ _ _) rfl (HA.out _ _ _ _ _ _) ?_)
    refine bodyPost_ret (results_cl Tryd.f13 rfl _ _ w.heap.size 0 0 ⟨#[]⟩ none 0 0 2 ?h2 ?h3 (setRow_heap _ w.heap.size _ _ 47 (0, 0) HP2.out)) rfl ?_
    case h2 => rfl
    case h3 => rfl
    exact ⟨below_row HB2.out (Nat.le_refl _), none, 0, 0, 1, rfl, (lnf_nil 0 _ _ 0).lat⟩
  | true =>
    rw [hok] at HCK
    have HL2 := Lib.hid (HLC.out hok)
    clear HLC
    go_enter Tryd.func13, Tryd.ntmps13
    go_wp2_with fail
    refine HCK.out.mono ?_
    rintro _ w2 ⟨rfl, hb⟩
    have HB2 := Lib.hid (HB.out.trans (hb.mono HB.out.size))
    have HP2 := Lib.hid ((hb.block w.heap.size (by simp)).trans HP0.out)
    have HLT : Hid (w.heap.size < w2.heap.size) := by have := hb.size; simp at this; unfold Hid; omega
    have HL3 := Lib.hid (HL2.out w2 HB2.out)
    clear hb HCK HB HP0 HL2
    go_wp2_with fail
    refine HL3.out.mono ?_
    rintro _ w3 ⟨A, n, cap, D, rfl, hl, hb3⟩
    have HB3 := Lib.hid (HB2.out.trans (hb3.mono HB2.out.size))
    have HP3 := Lib.hid ((hb3.block w.heap.size HLT.out).trans HP2.out)
    have HLN := Lib.hid hl
    have HLT2 := Lib.hid HLT.out
    clear hb3 HB2 HP2 HL3 hl HLT
    go_wp2_with (refine wpList_store_row (P := Tryd.prog) rfl 47 _ _ rfl w.heap.size #[.int .i64 3, .int .i64 0, .string ⟨#[]⟩, .slice A n cap] rfl rfl 47 _ HP3.out (HSS.out _ _ _ _ _ _) rfl (HA.out _ _ _ _ _ _) ?_)
    refine bodyPost_ret (results_cl Tryd.f13 rfl _ _ w.heap.size 3 0 ⟨#[]⟩ A n cap 0 ?h2 ?h3 (setRow_heap _ w.heap.size _ _ 47 (0, 0) HP3.out)) rfl ?_
    case h2 => rfl
    case h3 => rfl
    refine ⟨below_row HB3.out (Nat.le_refl _), _, _, _, D, rfl, ?_⟩
    rw [setRow_size]
    have h2 := HLT2.out
    exact L4.LIn.lat (B := w3.heap.size) (fun b hb => hb.1) (L4.LIn.keep (fun _ h => h) (fun b o hb => L4.cell_same (setRow_other _ _ _ _ (by have := hb.2.1; omega)) o) (lnf_lin HLN.out))

/-- What TakeRows comes to. -/
def takeRM (c : C) : List Row × Int :=
  match listM rowM (shOf c) with
  | some l => if rowsOK l then (l, 0) else ([], 4)
  | none => ([], 4)
def TRTo (w : World) (a : List Row × Int) (e : Ending) (w' : World) : Prop :=
  Below w.heap.size w w' ∧ ∃ A n c, e = .returned (.tuple #[.slice A n c, .int .i64 a.2]) ∧ RowsAt w' w'.heap.size (.slice A n c) a.1

set_option maxRecDepth 100000 in
set_option maxHeartbeats 4000000 in
theorem takeRows14 (d : Nat) (ck cn : Int) (cs : ByteArray) (cl : List C) (A0 : Option Addr) (n0 c0 : Nat) (w : World) (h : LAt w w.heap.size d (.slice A0 n0 c0) cl) (hlen : cl.length ≤ 100000) :
    Calls Tryd.prog 14 #[.agg #[.int .i64 ck, .int .i64 cn, .string cs, .slice A0 n0 c0]] w (TRTo w (takeRM (.mk ck cn cs cl))) := by
  have hB : Below w.heap.size w (w.alloc (.cells #[.int .i64 ck, .int .i64 cn, .string cs, .slice A0 n0 c0] 47)) := (Below.refl _ _).alloc (Nat.le_refl _) _
  have HB := Lib.hid hB
  have HS := Lib.hid (shapeOf29 d ck cn cs cl (.slice A0 n0 c0) w.heap.size (w.alloc (.cells #[.int .i64 ck, .int .i64 cn, .string cs, .slice A0 n0 c0] 47)) hB.size (h.below hB))
  have HLEN : Hid (∀ l, shOf (.mk ck cn cs cl) = .list l → l.length ≤ 100000) := by
    intro l hl
    have := sh_list.1 hl
    unfold listC at this
    injection this with _ _ _ h4
    rw [← h4]; exact hlen
  obtain ⟨a, ha⟩ : ∃ a, takeRM (.mk ck cn cs cl) = a := ⟨_, rfl⟩
  rw [ha]
  have HM := Lib.hid ha
  unfold takeRM at HM
  clear ha h hB hlen
  generalize shOf (.mk ck cn cs cl) = sh at HS HLEN HM
  go_enter Tryd.func14, Tryd.ntmps14
  go_wp2_with fail
  refine HS.out.mono ?_
  rintro _ w2 ⟨sv, rfl, hsh, hb2⟩
  have HB2 := Lib.hid (HB.out.trans (hb2.mono HB.out.size))
  have HR := Lib.hid (readList28 d sv sh w2 (hsh.keep (Below.refl _ _) HB2.out.size) HLEN.out)
  clear hb2 hsh HS HB HLEN
  obtain ⟨r, hr⟩ : ∃ r, listM rowM sh = r := ⟨_, rfl⟩
  rw [hr] at HR HM
  clear hr
  go_wp2_with fail
  refine HR.out.mono ?_
  intro e3 w3 h3
  obtain ⟨hb3, A3, n3, c3, q1, rfl, hr1⟩ := rows_norm h3
  have HR1 := Lib.hid hr1
  have HB3 := Lib.hid (HB2.out.trans (hb3.mono HB2.out.size))
  clear h3 hb3 hr1 HR HB2
  cases r with
  | none =>
    have hq : q1 = false := HR1.out
    have hm : (([] : List Row), (4 : Int)) = a := HM.out
    subst hq hm
    clear HR1 HM
    go_wp2
    go_ret2
    exact ⟨HB3.out, _, _, _, rfl, rowsNil _ _⟩
  | some l =>
    obtain ⟨hq, hrows, -, -⟩ := HR1.out
    have hm : (if rowsOK l then (l, (0 : Int)) else ([], 4)) = a := HM.out
    subst hq
    have HRW := Lib.hid hrows
    have HCK := Lib.hid (L2.check18 l (.slice A3 n3 c3) w3 hrows)
    clear hrows HR1 HM
    cases hok : rowsOK l with
    | false =>
      rw [hok] at hm HCK
      have hm : (([] : List Row), (4 : Int)) = a := hm
      subst hm
      go_wp2_with fail
      refine HCK.out.mono ?_
      rintro _ w4 ⟨rfl, hb4⟩
      have HB4 := Lib.hid (HB3.out.trans (hb4.mono HB3.out.size))
      clear hb4 HCK HB3 HRW
      go_wp2
      go_ret2
      exact ⟨HB4.out, _, _, _, rfl, rowsNil _ _⟩
    | true =>
      rw [hok] at hm HCK
      have hm : (l, (0 : Int)) = a := hm
      subst hm
      go_wp2_with fail
      refine HCK.out.mono ?_
      rintro _ w4 ⟨rfl, hb4⟩
      have HB4 := Lib.hid (HB3.out.trans (hb4.mono HB3.out.size))
      have HRW4 := Lib.hid (HRW.out.step hb4)
      clear hb4 HCK HB3 HRW
      go_wp2
      go_ret2
      exact ⟨HB4.out, _, _, _, rfl, HRW4.out⟩
theorem take_rows {l : List Row} (h : rowsOK l = true) : takeRM (.mk 3 0 ⟨#[]⟩ (l.map rowCl)) = (l, 0) := by
  unfold takeRM
  have e : shOf (.mk 3 0 ⟨#[]⟩ (l.map rowCl)) = .list (l.map rowCl) := sh_list.2 rfl
  rw [e, rows_read h]
  simp only
  rw [if_pos h]
end Go.Proofs.YtmnknijjjicdbaaDoor
