/-
  The contracts of listCell: of kids, of strings. No condition but that there are at most 1000.
-/
import Derived.Test.YtjanddnlhaionaaGreatDoorOJ
namespace Go.Proofs.YtjanddnlhaionaaGreatDoor
open Go.RowKit
open L4 (C LIn LNF Unf Wf rcells rowC)
open L2 (Row Vl RowsAt rowsOK valOK)

set_option maxRecDepth 100000 in
set_option maxHeartbeats 2000000 in
theorem listCell36 (l : List Kd) (v : Value) (w : World) (h : KidsAt w w.heap.size v l) (hl : l.length ≤ 1000) (hw : ∀ k ∈ l, k.id.size ≤ 9223372036854775807) :
    Calls Tryz.prog 91 #[v, .func (.func 92) #[] #[]] w (ListOf w (l.map kidCl)) := by
  obtain ⟨i0, hi, hz0, hz1, hz2⟩ := L4.info25
  obtain ⟨A, cap, rfl, h1, h2, h3⟩ := h
  unfold maxLen at h2
  have HLC := Lib.hid (LC.start w)
  have HW := Lib.hid hw
  clear hw
  go_enter Tryz.func91, Tryz.ntmps91
  go_wp2_with fail
  go_loopw [5, 10] (fun s5 i wr => ∃ (k : Nat) (D : List (C × Value)), k ≤ l.length ∧ i = .int .i64 k ∧ Hid (LC w s5 D wr) ∧ Hid (D.map (·.1) = (l.take k).map kidCl) ∧ D.length = k) (fun _ i _ => l.length - (intOf i).toNat)
  case atStart => exact ⟨0, [], Nat.zero_le _, rfl, HLC.out, rfl, rfl⟩
  case round =>
    obtain ⟨k, D, hk, rfl, HL, HD, rfl⟩ := hrel
    clear HLC
    have HL0 := HL
    obtain ⟨A1, c1, rfl⟩ := HL.out.own.slice
    by_cases hlt : D.length < l.length
    · obtain ⟨b, o, rfl, hb, hr⟩ := h3 (by omega)
      have hrk := hr D.length hlt
      have hwk := HW.out l[D.length] (List.getElem_mem hlt)
      have ht : l.take (D.length + 1) = l.take D.length ++ [l[D.length]] := List.take_succ_eq_append_getElem hlt
      have hbl : b < wr.heap.size := Nat.lt_of_lt_of_le hb HL.out.old.size
      generalize l[D.length] = r at hrk hwk ht
      obtain ⟨f, id⟩ := r
      obtain ⟨c0', c1'', b0, b1⟩ := hrk
      simp only at c0' c1'' b0 b1 hwk
      have c0 := (HL.out.old.cell (p := ⟨b, o + D.length * 2, none⟩) hb).trans c0'
      have c1' := (HL.out.old.cell (p := ⟨b, o + D.length * 2 + 1, none⟩) hb).trans c1''
      have HR := Lib.hid (fun W => kidCell37 f id W b0 b1 hwk)
      have HT : Hid (∀ u, ((D ++ [(kidCl ⟨f, id⟩, u)]).map (fun x : C × Value => x.1)) = (l.take (D.length + 1)).map kidCl) := fun u => by rw [List.map_append, ht, List.map_append, HD.out]; rfl
      have HA := Lib.hid (HL.out.step ((Below.refl _ wr).alloc (Nat.le_refl _) (.cells #[.int .u8 f, .string id] 95)))
      have HAB : Hid (Below wr.heap.size wr (wr.alloc (.cells #[.int .u8 f, .string id] 95))) := (Below.refl _ wr).alloc (Nat.le_refl _) _
      clear ht b0 b1 hwk c0' c1'' HD HL h3 hr
      go_wp2_with fail
      refine (HR.out _).mono ?_
      rintro _ w2 ⟨A2, m, cap2, d, rfl, hl2, hb2⟩
      have HL2 := Lib.hid (HA.out.step hb2)
      have HN : Hid (LNF wr.heap.size w2 w2.heap.size d (.slice A2 m cap2) (kidCl ⟨f, id⟩).l) := lnf_lo HAB.out.size hl2
      have hsz2 := HL2.out.size
      clear hl2 hb2 HA HR HAB c0 c1'
      go_wp2_with (at_builtin; go_must (refine wpList_append_lies _ rfl _ _ 36 rfl (w.heap.size + 1) 38 i0 _ 4 56 Tryz.underlying36 hi hz0 hz1 hz2 rfl (by omega) _ D.length (rcells D) rfl ?own ⟨w2.heap.size, 0, none⟩ 1 1 (rowC (kidCl ⟨f, id⟩, .slice A2 m cap2)) rfl rfl ?news ?one (by omega) ?c3 ?c4 ?c5 _ rfl ?_))
      case own => exact World.ownsRow.alloc HL2.out.own.row _
      case news =>
        refine World.news_of_block (cs := #[.int .i64 3, .int .i64 0, .string ⟨#[]⟩, .slice A2 m cap2]) (t := 38) (fr := (0, 0)) ?_
        exact heap_alloc_new w2 (.cells #[.int .i64 3, .int .i64 0, .string ⟨#[]⟩, .slice A2 m cap2] 38)
      case one => simp [rowC, kidCl, listC, L4.k_mk, L4.n_mk, L4.s_mk, Value.oneCell']
      case c3 => unfold maxLen; omega
      case c4 => omega
      case c5 => simp; omega
      rintro g c w' ho hg hgl hlt2
      have hgl' : (Value.slice A1 D.length c1).ownBlock = some g ∨ g = w2.heap.size + 1 := by simpa using hgl
      have HE := Lib.hid (append_end HL0.out HL2.out HN.out ⟨by show (-9223372036854775808 : Int) ≤ 3; omega, by show (3 : Int) ≤ _; omega, by show (-9223372036854775808 : Int) ≤ 0; omega, by show (0 : Int) ≤ _; omega, by show (0 : Nat) ≤ _; omega⟩ ho hg hgl')
      have HT2 := Lib.hid (HT.out (.slice A2 m cap2))
      have hDl : (D ++ [(kidCl ⟨f, id⟩, Value.slice A2 m cap2)]).length = D.length + 1 := by rw [List.length_append]; rfl
      have HDL := Lib.hid hDl
      clear ho hg hgl hgl' HL2 HL0 HN HT hDl
      go_wp2_with fail
      go_roundw
      case rel => exact ⟨D.length + 1, D ++ [(kidCl ⟨f, id⟩, Value.slice A2 m cap2)], by omega, by go_num, HE, HT2, HDL.out⟩
      case measure => simp [intOf]; omega
    · have hkl : D.length = l.length := by omega
      have HM : Hid (D.map (·.1) = l.map kidCl) := by unfold Hid; rw [HD.out, hkl, List.take_length]
      obtain ⟨dd, hln⟩ := HL.out.own.lnf (Nat.succ_pos _)
      have HC := Lib.hid (L4.list18 (lo := w.heap.size + 1) (D.map (·.1)) _ dd wr hln (by rw [HM.out, cntL_const kidCl 3 cnt_kid]; omega) HL.out.size (Nat.succ_pos _))
      have HB0 := Lib.hid HL.out.row
      have HSZ := Lib.hid HL.out.size
      have HBL := Lib.hid HL.out.old
      clear HD HL HL0 hln hkl
      go_wp2_with fail
      refine HC.out.mono ?_
      rintro _ w3 ⟨A3, n3, cap3, D3, rfl, hl3, hb3⟩
      have HP := Lib.hid ((hb3.block w.heap.size (by have := HSZ.out; omega)).trans HB0.out)
      have HSS := Lib.hid (L4.size_four 3 0 ⟨#[]⟩ A3 n3 cap3)
      have HALL := Lib.hid (L4.all_one 3 0 ⟨#[]⟩ A3 n3 cap3)
      have HE := Lib.hid (ListOf.row (cs := #[.int .i64 3, .int .i64 0, .string ⟨#[]⟩, .slice A3 n3 cap3]) (Nat.le_refl _) (HM.out ▸ hl3) (HBL.out.trans (hb3.mono HBL.out.size)))
      clear hl3 hb3 HB0 HBL HC HM
      go_wp2_with (refine wpList_store_row (P := Tryz.prog) rfl 38 _ _ rfl w.heap.size #[.int .i64 3, .int .i64 0, .string ⟨#[]⟩, .slice A3 n3 cap3] rfl rfl 38 _ HP.out HSS.out rfl HALL.out ?_)
      refine bodyPost_ret (results_cell_row (p := 4) (ty := 38) rfl _ _ w.heap.size 38 #[.int .i64 3, .int .i64 0, .string ⟨#[]⟩, .slice A3 n3 cap3] (0, 0) _ ?hp (setRow_heap _ w.heap.size _ _ 38 (0, 0) HP.out) Tryz.underlying38 rfl (by exact HSS.out)) rfl ?_
      case hp => simp [Act.put]
      exact HE.out
set_option maxRecDepth 100000 in
set_option maxHeartbeats 2000000 in
theorem listCell38 (l : List ByteArray) (v : Value) (w : World) (h : TxtsAt w w.heap.size v l) (hl : l.length ≤ 1000) (hw : ∀ s ∈ l, s.size ≤ 9223372036854775807) :
    Calls Tryz.prog 93 #[v, .func (.func 90) #[] #[]] w (ListOf w (l.map textC)) := by
  obtain ⟨i0, hi, hz0, hz1, hz2⟩ := L4.info25
  obtain ⟨A, cap, rfl, h1, h2, h3⟩ := h
  unfold maxLen at h2
  have HLC := Lib.hid (LC.start w)
  have HW := Lib.hid hw
  clear hw
  go_enter Tryz.func93, Tryz.ntmps93
  go_wp2_with fail
  go_loopw [5, 10] (fun s5 i wr => ∃ (k : Nat) (D : List (C × Value)), k ≤ l.length ∧ i = .int .i64 k ∧ Hid (LC w s5 D wr) ∧ Hid (D.map (·.1) = (l.take k).map textC) ∧ D.length = k) (fun _ i _ => l.length - (intOf i).toNat)
  case atStart => exact ⟨0, [], Nat.zero_le _, rfl, HLC.out, rfl, rfl⟩
  case round =>
    obtain ⟨k, D, hk, rfl, HL, HD, rfl⟩ := hrel
    clear HLC
    have HL0 := HL
    obtain ⟨A1, c1, rfl⟩ := HL.out.own.slice
    by_cases hlt : D.length < l.length
    · obtain ⟨b, o, rfl, hb, hr⟩ := h3 (by omega)
      have hrk := hr D.length hlt
      have hwk := HW.out l[D.length] (List.getElem_mem hlt)
      have ht : l.take (D.length + 1) = l.take D.length ++ [l[D.length]] := List.take_succ_eq_append_getElem hlt
      have hbl : b < wr.heap.size := Nat.lt_of_lt_of_le hb HL.out.old.size
      generalize l[D.length] = s at hrk hwk ht
      have c0 := (HL.out.old.cell (p := ⟨b, o + D.length, none⟩) hb).trans hrk
      have HWF := Lib.hid (wf_text hwk)
      have HT : Hid (∀ u, ((D ++ [(textC s, u)]).map (fun x : C × Value => x.1)) = (l.take (D.length + 1)).map textC) := fun u => by rw [List.map_append, ht, List.map_append, HD.out]; rfl
      clear ht hwk hrk HD h3 hr
      go_wp2_with fail
      refine (L4.text17 _ _).mono ?_
      rintro _ w2 ⟨rfl, hb2⟩
      have HL2 := Lib.hid (HL.out.step hb2)
      have HN : Hid (LNF wr.heap.size w2 w2.heap.size 1 (.slice none 0 0) (textC s).l) := lnf_nil _ _ _ _
      have hsz2 := HL2.out.size
      clear hb2 HL c0
      go_wp2_with (at_builtin; go_must (refine wpList_append_lies _ rfl _ _ 36 rfl (w.heap.size + 1) 38 i0 _ 4 56 Tryz.underlying36 hi hz0 hz1 hz2 rfl (by omega) _ D.length (rcells D) rfl ?own ⟨w2.heap.size, 0, none⟩ 1 1 (rowC (textC s, .slice none 0 0)) rfl rfl ?news ?one (by omega) ?c3 ?c4 ?c5 _ rfl ?_))
      case own => exact World.ownsRow.alloc HL2.out.own.row _
      case news =>
        refine World.news_of_block (cs := #[.int .i64 2, .int .i64 0, .string s, .slice none 0 0]) (t := 38) (fr := (0, 0)) ?_
        exact heap_alloc_new w2 (.cells #[.int .i64 2, .int .i64 0, .string s, .slice none 0 0] 38)
      case one => simp [rowC, textC, L4.k_mk, L4.n_mk, L4.s_mk, Value.oneCell']
      case c3 => unfold maxLen; omega
      case c4 => omega
      case c5 => simp; omega
      rintro g c w' ho hg hgl hlt2
      have hgl' : (Value.slice A1 D.length c1).ownBlock = some g ∨ g = w2.heap.size + 1 := by simpa using hgl
      have HE := Lib.hid (append_end HL0.out HL2.out HN.out HWF.out ho hg hgl')
      have HT2 := Lib.hid (HT.out (.slice none 0 0))
      have hDl : (D ++ [(textC s, Value.slice none 0 0)]).length = D.length + 1 := by rw [List.length_append]; rfl
      have HDL := Lib.hid hDl
      clear ho hg hgl hgl' HL2 HL0 HN HT hDl
      go_wp2_with fail
      go_roundw
      case rel => exact ⟨D.length + 1, D ++ [(textC s, Value.slice none 0 0)], by omega, by go_num, HE, HT2, HDL.out⟩
      case measure => simp [intOf]; omega
    · have hkl : D.length = l.length := by omega
      have HM : Hid (D.map (·.1) = l.map textC) := by unfold Hid; rw [HD.out, hkl, List.take_length]
      obtain ⟨dd, hln⟩ := HL.out.own.lnf (Nat.succ_pos _)
      have HC := Lib.hid (L4.list18 (lo := w.heap.size + 1) (D.map (·.1)) _ dd wr hln (by rw [HM.out, cntL_const textC 1 cnt_text]; omega) HL.out.size (Nat.succ_pos _))
      have HB0 := Lib.hid HL.out.row
      have HSZ := Lib.hid HL.out.size
      have HBL := Lib.hid HL.out.old
      clear HD HL HL0 hln hkl
      go_wp2_with fail
      refine HC.out.mono ?_
      rintro _ w3 ⟨A3, n3, cap3, D3, rfl, hl3, hb3⟩
      have HP := Lib.hid ((hb3.block w.heap.size (by have := HSZ.out; omega)).trans HB0.out)
      have HSS := Lib.hid (L4.size_four 3 0 ⟨#[]⟩ A3 n3 cap3)
      have HALL := Lib.hid (L4.all_one 3 0 ⟨#[]⟩ A3 n3 cap3)
      have HE := Lib.hid (ListOf.row (cs := #[.int .i64 3, .int .i64 0, .string ⟨#[]⟩, .slice A3 n3 cap3]) (Nat.le_refl _) (HM.out ▸ hl3) (HBL.out.trans (hb3.mono HBL.out.size)))
      clear hl3 hb3 HB0 HBL HC HM
      go_wp2_with (refine wpList_store_row (P := Tryz.prog) rfl 38 _ _ rfl w.heap.size #[.int .i64 3, .int .i64 0, .string ⟨#[]⟩, .slice A3 n3 cap3] rfl rfl 38 _ HP.out HSS.out rfl HALL.out ?_)
      refine bodyPost_ret (results_cell_row (p := 4) (ty := 38) rfl _ _ w.heap.size 38 #[.int .i64 3, .int .i64 0, .string ⟨#[]⟩, .slice A3 n3 cap3] (0, 0) _ ?hp (setRow_heap _ w.heap.size _ _ 38 (0, 0) HP.out) Tryz.underlying38 rfl (by exact HSS.out)) rfl ?_
      case hp => simp [Act.put]
      exact HE.out
end Go.Proofs.YtjanddnlhaionaaGreatDoor
