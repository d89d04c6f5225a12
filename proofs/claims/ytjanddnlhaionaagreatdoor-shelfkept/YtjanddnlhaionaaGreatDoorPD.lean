/-
  The contracts of Take and TakeRows. No condition but on lengths.
-/
import Derived.Test.YtjanddnlhaionaaGreatDoorPC
import Derived.Test.YtjanddnlhaionaaGreatDoorOR
namespace Go.Proofs.YtjanddnlhaionaaGreatDoor
open Go.RowKit
open L4 (C LAt LIn okC Fit putS takeM nextM TakeTo)
open L2 (Row Vl RowsAt rowsOK valOK)

def zeroO : Ob := ⟨0, ⟨#[]⟩, [], [], [], 0, ⟨#[]⟩, ⟨#[]⟩⟩
def takeOM (s : ByteArray) : Ob × Int :=
  if (takeM s).2 = 0 then
    match objM (takeM s).1 with
    | some o => if objOK o then (o, 0) else (zeroO, 4)
    | none => (zeroO, 4)
  else (zeroO, (takeM s).2)
set_option maxRecDepth 100000 in
theorem cut_all (s : ByteArray) : L4.cutS s 0 s.size = s := by
  rw [← Nat.zero_add s.size, ← L4.cutS_extract]
  simp
set_option maxRecDepth 100000 in
theorem take_ok {s : ByteArray} {c : C} (h : takeM s = (c, 0)) : okC 16 c = true ∧ Fit 16 c ∧ putS c = s := by
  unfold takeM at h
  by_cases h1 : (nextM s 0).2.2 = 0 ∧ (nextM s 0).2.1 < (s.size : Int)
  · rw [if_pos h1] at h; injection h with _ h; cases h
  · rw [if_neg h1] at h
    injection h with h2 h3
    have hn : nextM s 0 = (c, (nextM s 0).2.1, 0) := Prod.ext h2 (Prod.ext rfl h3)
    obtain ⟨-, h5, h6, h7, h8, h9⟩ := L4.next_ok hn
    have h10 : (nextM s 0).2.1 = (s.size : Int) := by
      have : ¬ (nextM s 0).2.1 < (s.size : Int) := fun h => h1 ⟨h3, h⟩
      omega
    refine ⟨h7, h8, ?_⟩
    rw [h9, h10]
    exact cut_all s
def TakeOTo (w : World) (a : Ob × Int) (e : Ending) (w' : World) : Prop :=
  Below w.heap.size w w' ∧ ∃ A1 n1 c1 A2 n2 c2 A3 n3 c3, e = .returned (.tuple #[.agg #[.int .i64 a.1.k, .string a.1.label, .slice A1 n1 c1, .slice A2 n2 c2, .slice A3 n3 c3, .int .i64 a.1.stamp, .string a.1.note, .string a.1.root], .int .i64 a.2]) ∧ ObAt w' (.slice A1 n1 c1) (.slice A2 n2 c2) (.slice A3 n3 c3) a.1
set_option maxRecDepth 100000 in
theorem zero_at (w : World) : ObAt w (.slice none 0 0) (.slice none 0 0) (.slice none 0 0) zeroO :=
  ⟨rowsNil _ _, KidsAt.nil _ _, TxtsAt.nil _ _, by show (-9223372036854775808 : Int) ≤ 0; omega, by show (0 : Int) ≤ _; omega, by intro r hr; cases hr⟩

set_option maxRecDepth 100000 in
set_option maxHeartbeats 8000000 in
theorem take8 (s : ByteArray) (w : World) (hs : s.size ≤ 1000000000) : Calls Tryz.prog 20 #[.string s] w (TakeOTo w (takeOM s)) := by
  have hB : Below w.heap.size w (w.alloc (.cells #[.int .i64 0, .string ⟨#[]⟩, .slice none 0 0, .slice none 0 0, .slice none 0 0, .int .i64 0, .string ⟨#[]⟩, .string ⟨#[]⟩] 27)) := (Below.refl _ _).alloc (Nat.le_refl _) _
  have HB := Lib.hid hB
  have HT := Lib.hid (L4.take21 s (w.alloc (.cells #[.int .i64 0, .string ⟨#[]⟩, .slice none 0 0, .slice none 0 0, .slice none 0 0, .int .i64 0, .string ⟨#[]⟩, .string ⟨#[]⟩] 27)) hs)
  have HP0 := Lib.hid (heap_alloc_new w (.cells #[.int .i64 0, .string ⟨#[]⟩, .slice none 0 0, .slice none 0 0, .slice none 0 0, .int .i64 0, .string ⟨#[]⟩, .string ⟨#[]⟩] 27))
  have HSS : Hid (∀ (k : Int) (label : ByteArray) (A1 : Option Addr) (n1 c1 : Nat) (A2 : Option Addr) (n2 c2 : Nat) (A3 : Option Addr) (n3 c3 : Nat) (st : Int) (note root : ByteArray), (Tryz.prog.info? 27).map (·.size) = some (#[Value.int .i64 k, .string label, .slice A1 n1 c1, .slice A2 n2 c2, .slice A3 n3 c3, .int .i64 st, .string note, .string root]).size) := fun _ _ _ _ _ _ _ _ _ _ _ _ _ _ => size27
  have HA0 := Lib.hid (one8 0 ⟨#[]⟩ none 0 0 none 0 0 none 0 0 0 ⟨#[]⟩ ⟨#[]⟩)
  obtain ⟨a, ha⟩ : ∃ a, takeOM s = a := ⟨_, rfl⟩
  rw [ha]
  have HA := Lib.hid ha
  obtain ⟨⟨c, e⟩, ht⟩ : ∃ x, takeM s = x := ⟨_, rfl⟩
  have HTM := Lib.hid ht
  rw [ht] at HT
  clear ha ht hB
  have zend : ∀ (w2 : World) (er : Int), Below w.heap.size w w2 → a = (zeroO, er) → TakeOTo w a (.returned (.tuple #[.agg #[.int .i64 0, .string ⟨#[]⟩, .slice none 0 0, .slice none 0 0, .slice none 0 0, .int .i64 0, .string ⟨#[]⟩, .string ⟨#[]⟩], .int .i64 er])) (w2.setRow w.heap.size #[.int .i64 0, .string ⟨#[]⟩, .slice none 0 0, .slice none 0 0, .slice none 0 0, .int .i64 0, .string ⟨#[]⟩, .string ⟨#[]⟩]) := by
    intro w2 er hb h
    subst h
    exact ⟨below_row hb (Nat.le_refl _), _, _, _, _, _, _, _, _, _, rfl, zero_at _⟩
  have ZEND := Lib.hid zend
  clear zend
  go_enter Tryz.func20, Tryz.ntmps20
  go_wp2_with fail
  refine HT.out.mono ?_
  rintro _ w2 ⟨u, rfl, hl, hb2⟩
  have HB2 := Lib.hid (HB.out.trans (hb2.mono HB.out.size))
  have HP2 := Lib.hid ((hb2.block w.heap.size (by simp)).trans HP0.out)
  have HL : Hid (LAt w2 w2.heap.size 16 u c.l) := LIn.lat (fun b hb => hb.2.lt) hl
  have HLT : Hid (w.heap.size < w2.heap.size) := by have := hb2.size; simp at this; unfold Hid; omega
  clear hl hb2 HT HB HP0
  obtain ⟨ck, cn, cs, cl⟩ := c
  unfold L4.cellV
  simp only [L4.k_mk, L4.n_mk, L4.s_mk, L4.l_mk] at HL ⊢
  obtain ⟨Au, cu, rfl⟩ := HL.out.slice
  cases he : (e != 0) with
  | true =>
    have hz : a = (zeroO, e) := by
      rw [← HA.out]; unfold takeOM; rw [HTM.out]
      simp only
      rw [if_neg (by intro h; rw [h] at he; simp at he)]
    have HZ := Lib.hid hz
    clear hz HA HTM
    go_wp2_with (refine wpList_store_row (P := Tryz.prog) rfl 27 _ _ rfl w.heap.size #[.int .i64 0, .string ⟨#[]⟩, .slice none 0 0, .slice none 0 0, .slice none 0 0, .int .i64 0, .string ⟨#[]⟩, .string ⟨#[]⟩] rfl rfl 27 _ ((Below.heap_alloc w2 _ _ HLT.out).trans HP2.out) (HSS.out _ _ _ _ _ _ _ _ _ _ _ _ _ _) rfl HA0.out ?_)
    refine bodyPost_ret (results_ob' Tryz.f20 rfl _ _ w.heap.size 0 ⟨#[]⟩ none 0 0 none 0 0 none 0 0 0 ⟨#[]⟩ ⟨#[]⟩ e ?h2 ?h3 (setRow_heap _ w.heap.size _ _ 27 (0, 0) ((Below.heap_alloc w2 _ _ HLT.out).trans HP2.out))) rfl ?_
    case h2 => rfl
    case h3 => rfl
    exact ZEND.out _ _ (HB2.out.alloc HB2.out.size _) HZ.out
  | false =>
    have he0 : e = 0 := by simpa using he
    subst he0
    obtain ⟨hok, -, -⟩ := take_ok HTM.out
    have hba : Below w2.heap.size w2 (w2.alloc (.cells #[.int .i64 ck, .int .i64 cn, .string cs, .slice Au cl.length cu] 38)) := (Below.refl _ _).alloc (Nat.le_refl _) _
    have HRO := Lib.hid (readObject19 16 ck cn cs cl (.slice Au cl.length cu) (w2.alloc (.cells #[.int .i64 ck, .int .i64 cn, .string cs, .slice Au cl.length cu] 38)) (HL.out.step hba) hok)
    have HBA := Lib.hid (HB2.out.trans (hba.mono HB2.out.size))
    have HPA := Lib.hid ((hba.block _ HLT.out).trans HP2.out)
    have HLA : Hid (w.heap.size < (w2.alloc (.cells #[.int .i64 ck, .int .i64 cn, .string cs, .slice Au cl.length cu] 38)).heap.size) := Nat.lt_of_lt_of_le HLT.out hba.size
    have HA2 : Hid ((match objM (.mk ck cn cs cl) with | some o => if objOK o then (o, 0) else (zeroO, 4) | none => (zeroO, 4)) = a) := by
      unfold Hid; rw [← HA.out]; unfold takeOM; rw [HTM.out]; rfl
    clear hok hba HA HTM HL HB2 HP2 HLT
    generalize objM (.mk ck cn cs cl) = r at HRO HA2
    go_wp2_with fail
    refine HRO.out.mono ?_
    rintro _ w3 ⟨hb3, k, label, A1, n1, c1, A2, n2, c2, A3, n3, c3, st, note, root, q, rfl, hm⟩
    have HM := Lib.hid hm
    have HB3 := Lib.hid (HBA.out.trans (hb3.mono HBA.out.size))
    have HP3 := Lib.hid ((hb3.block _ HLA.out).trans HPA.out)
    have HL3 : Hid (w.heap.size < w3.heap.size) := Nat.lt_of_lt_of_le HLA.out hb3.size
    have HLS := Lib.hid HLA.out
    have hb4 : Below w3.heap.size w3 (w3.alloc (.cells #[.int .i64 k, .string label, .slice A1 n1 c1, .slice A2 n2 c2, .slice A3 n3 c3, .int .i64 st, .string note, .string root] 27)) := (Below.refl _ _).alloc (Nat.le_refl _) _
    have HB4 := Lib.hid hb4
    have HP4 := Lib.hid ((hb4.block _ HL3.out).trans HP3.out)
    have HBZ := Lib.hid (HB3.out.trans (hb4.mono HB3.out.size))
    clear hm hb3 HRO HBA HPA HLA hb4
    cases r with
    | none =>
      have hq : q = false := HM.out
      subst hq
      have HZ : Hid (a = (zeroO, 4)) := HA2.out.symm
      clear HM HA2
      go_wp2_with (refine wpList_store_row (P := Tryz.prog) rfl 27 _ _ rfl w.heap.size #[.int .i64 0, .string ⟨#[]⟩, .slice none 0 0, .slice none 0 0, .slice none 0 0, .int .i64 0, .string ⟨#[]⟩, .string ⟨#[]⟩] rfl rfl 27 _ HP4.out (HSS.out _ _ _ _ _ _ _ _ _ _ _ _ _ _) rfl HA0.out ?_)
      refine bodyPost_ret (results_ob' Tryz.f20 rfl _ _ w.heap.size 0 ⟨#[]⟩ none 0 0 none 0 0 none 0 0 0 ⟨#[]⟩ ⟨#[]⟩ 4 ?h2 ?h3 (setRow_heap _ w.heap.size _ _ 27 (0, 0) HP4.out)) rfl ?_
      case h2 => rfl
      case h3 => rfl
      exact ZEND.out _ _ HBZ.out HZ.out
    | some o =>
      obtain ⟨hq, ⟨rows, kids, parents, rfl⟩, hat, f1, f2, f3⟩ := HM.out
      subst hq
      have HCK := Lib.hid (check12 k label rows kids parents st note root _ _ _ _ (hat.step HB4.out))
      have HAT := Lib.hid (hat.step HB4.out)
      have HF := Lib.hid (And.intro f1 (And.intro f2 f3))
      have HA3 : Hid ((if objOK ⟨k, label, rows, kids, parents, st, note, root⟩ then ((⟨k, label, rows, kids, parents, st, note, root⟩ : Ob), (0 : Int)) else (zeroO, 4)) = a) := HA2.out
      clear HM hat f1 f2 f3 HA2
      obtain ⟨o, ho⟩ : ∃ o, (⟨k, label, rows, kids, parents, st, note, root⟩ : Ob) = o := ⟨_, rfl⟩
      have HOO := Lib.hid ho
      rw [ho] at HCK HAT HA3
      clear ho
      cases hok : objOK o with
      | false =>
        rw [hok] at HCK HA3
        have HZ : Hid (a = (zeroO, 4)) := HA3.out.symm
        clear hok HA3
        go_wp2_with fail
        refine HCK.out.mono ?_
        rintro _ w5 ⟨rfl, hb5⟩
        have HB5 := Lib.hid (HBZ.out.trans (hb5.mono HBZ.out.size))
        have HP5 := Lib.hid ((hb5.block _ (Nat.lt_of_lt_of_le HL3.out HB4.out.size)).trans HP4.out)
        clear hb5 HCK
        go_wp2_with (refine wpList_store_row (P := Tryz.prog) rfl 27 _ _ rfl w.heap.size #[.int .i64 0, .string ⟨#[]⟩, .slice none 0 0, .slice none 0 0, .slice none 0 0, .int .i64 0, .string ⟨#[]⟩, .string ⟨#[]⟩] rfl rfl 27 _ HP5.out (HSS.out _ _ _ _ _ _ _ _ _ _ _ _ _ _) rfl HA0.out ?_)
        refine bodyPost_ret (results_ob' Tryz.f20 rfl _ _ w.heap.size 0 ⟨#[]⟩ none 0 0 none 0 0 none 0 0 0 ⟨#[]⟩ ⟨#[]⟩ 4 ?h2 ?h3 (setRow_heap _ w.heap.size _ _ 27 (0, 0) HP5.out)) rfl ?_
        case h2 => rfl
        case h3 => rfl
        exact ZEND.out _ _ HB5.out HZ.out
      | true =>
        rw [hok] at HCK HA3
        have HZ : Hid (a = (o, 0)) := HA3.out.symm
        have HA1 := Lib.hid (one8 k label A1 n1 c1 A2 n2 c2 A3 n3 c3 st note root)
        clear hok HA3
        go_wp2_with fail
        refine HCK.out.mono ?_
        rintro _ w5 ⟨rfl, hb5⟩
        have HB5 := Lib.hid (HBZ.out.trans (hb5.mono HBZ.out.size))
        have HP5 := Lib.hid ((hb5.block _ (Nat.lt_of_lt_of_le HL3.out HB4.out.size)).trans HP4.out)
        have HC5 : Hid (∀ j, w5.cell? ⟨w3.heap.size, j, none⟩ = (w3.alloc (.cells #[.int .i64 k, .string label, .slice A1 n1 c1, .slice A2 n2 c2, .slice A3 n3 c3, .int .i64 st, .string note, .string root] 27)).cell? ⟨w3.heap.size, j, none⟩) := fun j => hb5.cell (p := ⟨w3.heap.size, j, none⟩) (by simp)
        have y0 : w5.cell? ⟨w3.heap.size, 0, none⟩ = some (.int .i64 k) := by rw [HC5.out]; simp [go_sem]
        have y1 : w5.cell? ⟨w3.heap.size, 1, none⟩ = some (.string label) := by rw [HC5.out]; simp [go_sem]
        have y2 : w5.cell? ⟨w3.heap.size, 2, none⟩ = some (.slice A1 n1 c1) := by rw [HC5.out]; simp [go_sem]
        have y3 : w5.cell? ⟨w3.heap.size, 3, none⟩ = some (.slice A2 n2 c2) := by rw [HC5.out]; simp [go_sem]
        have y4 : w5.cell? ⟨w3.heap.size, 4, none⟩ = some (.slice A3 n3 c3) := by rw [HC5.out]; simp [go_sem]
        have y5 : w5.cell? ⟨w3.heap.size, 5, none⟩ = some (.int .i64 st) := by rw [HC5.out]; simp [go_sem]
        have y6 : w5.cell? ⟨w3.heap.size, 6, none⟩ = some (.string note) := by rw [HC5.out]; simp [go_sem]
        have y7 : w5.cell? ⟨w3.heap.size, 7, none⟩ = some (.string root) := by rw [HC5.out]; simp [go_sem]
        have HAT5 := Lib.hid ((HAT.out.step hb5).row (cs := #[.int .i64 k, .string label, .slice A1 n1 c1, .slice A2 n2 c2, .slice A3 n3 c3, .int .i64 st, .string note, .string root]) HF.out.1 HF.out.2.1 HF.out.2.2 HLS.out)
        clear hb5 HCK HAT HF HC5
        go_wp2_with (refine wpList_store_row (P := Tryz.prog) rfl 27 _ _ rfl w.heap.size #[.int .i64 k, .string label, .slice A1 n1 c1, .slice A2 n2 c2, .slice A3 n3 c3, .int .i64 st, .string note, .string root] rfl rfl 27 _ HP5.out (HSS.out _ _ _ _ _ _ _ _ _ _ _ _ _ _) rfl HA1.out ?_)
        refine bodyPost_ret (results_ob' Tryz.f20 rfl _ _ w.heap.size k label A1 n1 c1 A2 n2 c2 A3 n3 c3 st note root 0 ?h2 ?h3 (setRow_heap _ w.heap.size _ _ 27 (0, 0) HP5.out)) rfl ?_
        case h2 => rfl
        case h3 => rfl
        refine ⟨below_row HB5.out (Nat.le_refl _), A1, n1, c1, A2, n2, c2, A3, n3, c3, ?_, ?_⟩
        · rw [HZ.out, ← HOO.out]
        · rw [HZ.out]; exact HAT5.out
end Go.Proofs.YtjanddnlhaionaaGreatDoor
