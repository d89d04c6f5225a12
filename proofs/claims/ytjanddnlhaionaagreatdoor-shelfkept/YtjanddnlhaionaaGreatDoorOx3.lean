/-
  The contracts of readList: of rows, of kids, of strings. No condition but on the length. The contract of readNode. No condition but that the cell is right. The contract of objectCell at a commit; objectCell, Put, Id, PutRows. No condition but that numbers are ints, and that there are few rows, kids and parents. The contracts of Put, Id, PutRows. No condition but that numbers are ints.
-/
import Derived.Test.YtjanddnlhaionaaGreatDoorOx2
import Derived.Test.YtjanddnlhaionaaGreatDoorL3x1
set_option maxRecDepth 100000
namespace Go.Proofs.YtjanddnlhaionaaGreatDoor
open Go.RowKit
open L4 (C LAt)
open L2 (Row Vl RowsAt rowsOK valOK)
theorem txtsC_append (a b : List ByteArray) : txtsC (a ++ b) = txtsC a ++ txtsC b := by simp [txtsC]

set_option maxHeartbeats 4000000 in
theorem readList28 (d : Nat) (sv : Value) (sh : Sh) (w : World) (h : ShAt w w.heap.size d sv sh) (hln : ∀ l, sh = .list l → l.length ≤ 100000) :
    Calls Tryz.prog 63 #[sv, .func (.func 65) #[] #[]] w (RowsTo w (listM rowM sh)) := by
  obtain ⟨i0, hi, hz0, hz1, hz2⟩ := info43
  obtain ⟨r, hr⟩ : ∃ r, listM rowM sh = r := ⟨_, rfl⟩
  rw [hr]
  have HR := Lib.hid hr
  clear hr
  rcases as_lst h with ⟨l, A, cap, rfl, hla, hta⟩ | ⟨hno, hta⟩
  · have hll := hln l rfl
    have HR2 : Hid (addM [] (allM rowM (l.drop 0)) = r) := by unfold Hid; rw [addM_nil]; exact HR.out
    obtain ⟨d', rfl⟩ : ∃ d', d = d' + 1 := by
      cases d with
      | zero => exact hla.elim
      | succ d' => exact ⟨d', rfl⟩
    have hla0 := hla
    obtain ⟨A', cap', e', h1, h2, h3⟩ := hla0
    injection e' with e1 e2 e3
    subst e1 e3
    have H3 := Lib.hid h3
    unfold maxLen at h2
    have HRG : Hid (RG 93 5 w (.slice none 0 0) ([] : List Row).length (L2.rcells []) w) := RG.start 93 5 w
    clear h hla h3 e2 hln HR
    go_enter Tryz.func63, Tryz.ntmps63
    go_wp2_with fail
    go_loopw [8, 22] (fun s8 s22 wr => ∃ (k : Nat) (acc : List Row), k ≤ l.length ∧ s22 = .int .i64 k ∧ acc.length = k ∧ Hid (RG 93 5 w s8 acc.length (L2.rcells acc) wr) ∧ Hid (addM acc (allM rowM (l.drop k)) = r) ∧ Hid (∀ x ∈ acc, NumB x)) (fun _ s22 _ => l.length - (intOf s22).toNat)
    case atStart => exact ⟨0, [], Nat.zero_le _, rfl, rfl, HRG.out, HR2.out, by intro x hx; cases hx⟩
    case round =>
      obtain ⟨k, acc, hk, rfl, rfl, HG, HA, HI⟩ := hrel
      clear HRG HR2
      obtain ⟨A1, c1, hA1⟩ := HG.out.slice
      subst hA1
      by_cases hlt : acc.length < l.length
      · obtain ⟨b, o, rfl, hb, hrw⟩ := H3.out (by omega)
        obtain ⟨ui, hrow, hwf, hsub⟩ := hrw acc.length hlt
        have hd := L2.drop_get l acc.length hlt
        obtain ⟨x0, x1, x2, x3⟩ := hrow.keep fun o => HG.out.below.cell (p := ⟨b, o, none⟩) hb
        have HSUB := Lib.hid hsub
        have hbl : b < wr.heap.size := Nat.lt_of_lt_of_le hb HG.out.below.size
        clear hrw hrow hwf hsub
        generalize l[acc.length] = x at x0 x1 x2 x3 HSUB hd
        have HB1 : Hid (∀ {y}, rowM x = some y → addM (acc ++ [y]) (allM rowM (l.drop (acc.length + 1))) = r) := fun hy => by rw [← HA.out, hd, addM_cons hy]
        have HB2 : Hid (rowM x = none → r = none) := fun hy => by rw [← HA.out, hd, addM_bad hy]
        clear hd HA
        obtain ⟨xk, xn, xs, xl⟩ := x
        simp only [L4.k_mk, L4.n_mk, L4.s_mk, L4.l_mk] at x0 x1 x2 x3 HSUB
        obtain ⟨Ai, ci, rfl⟩ := HSUB.out.slice
        have hW1 : Below wr.heap.size wr (wr.alloc (.cells #[.int .i64 xk, .int .i64 xn, .string xs, .slice Ai xl.length ci] 38)) := (Below.refl _ _).alloc (Nat.le_refl _) _
        have HW1 := Lib.hid hW1
        have HS2 := Lib.hid (readRow30 d' xk xn xs xl (.slice Ai xl.length ci) (wr.alloc (.cells #[.int .i64 xk, .int .i64 xn, .string xs, .slice Ai xl.length ci] 38)) ((HSUB.out.below (HG.out.below.trans (hW1.mono HG.out.below.size))).more (Nat.le_trans HG.out.below.size hW1.size)))
        have HWF := Lib.hid (lat_wf HSUB.out)
        clear hW1 HSUB
        obtain ⟨y, hy⟩ : ∃ y, rowM (.mk xk xn xs xl) = y := ⟨_, rfl⟩
        have HM := Lib.hid hy
        rw [hy] at HS2
        clear hy
        cases y with
        | none =>
          go_wp2_with fail
          refine HS2.out.mono ?_
          rintro _ w3 ⟨hb3, ⟨f9, t9, k9, n9, s9, rfl⟩⟩
          have hbb := Lib.hid (HG.out.below.trans ((HW1.out.trans (hb3.mono HW1.out.size)).mono HG.out.below.size))
          have hr : r = none := HB2.out HM.out
          subst hr
          clear HB1 HB2 HG HS2
          go_wp2
          go_ret2
          first | exact ⟨hbb.out, rfl⟩ | exact ⟨hbb.out.alloc hbb.out.size _, rfl⟩
        | some y =>
          go_wp2_with fail
          refine HS2.out.mono ?_
          rintro _ w3 ⟨hb3, rfl⟩
          have hbb := Lib.hid (HW1.out.trans (hb3.mono HW1.out.size))
          have HG3 := Lib.hid ((HG.out.step hbb.out).step ((Below.refl _ w3).alloc (Nat.le_refl _) (.cells #[.int .i64 y.1, .int .i64 y.2.1, .int .i64 y.2.2.1, .int .i64 y.2.2.2.1, .string y.2.2.2.2] 93)))
          have HN2 := Lib.hid (HB1.out HM.out)
          have HI2 : Hid (∀ x ∈ acc ++ [y], NumB x) := by
            intro x hx
            rcases List.mem_append.1 hx with hx | hx
            · exact HI.out x hx
            · rw [List.mem_singleton] at hx
              subst hx
              exact row_num HM.out HWF.out
          clear HG hb3 HW1 HS2 hbb x0 x1 x2 x3 HB1 HB2 HM HI HWF
          go_wp2_with (at_builtin; go_must (refine wpList_append_lies _ rfl _ _ 23 rfl w.heap.size 93 i0 _ 5 48 Tryz.underlying23 hi hz0 hz1 hz2 rfl (by omega) _ acc.length (L2.rcells acc) rfl ?own ⟨w3.heap.size + 1, 0, none⟩ 1 1 [.int .i64 y.1, .int .i64 y.2.1, .int .i64 y.2.2.1, .int .i64 y.2.2.2.1, .string y.2.2.2.2] rfl rfl ?news ?one (by omega) ?c3 ?c4 ?c5 _ rfl ?_))
          case own => exact World.ownsRow.alloc HG3.out.own _
          case news =>
            refine World.news_of_block (cs := #[.int .i64 y.1, .int .i64 y.2.1, .int .i64 y.2.2.1, .int .i64 y.2.2.2.1, .string y.2.2.2.2]) (t := 93) (fr := (0, 0)) ?_
            have h9 := heap_alloc_new (w3.alloc (.cells #[.int .i64 y.1, .int .i64 y.2.1, .int .i64 y.2.2.1, .int .i64 y.2.2.2.1, .string y.2.2.2.2] 93)) (.cells #[.int .i64 y.1, .int .i64 y.2.1, .int .i64 y.2.2.1, .int .i64 y.2.2.2.1, .string y.2.2.2.2] 93)
            rw [World.size_alloc] at h9
            exact h9
          case one => simp [Value.oneCell']
          case c3 => unfold maxLen; omega
          case c4 => omega
          case c5 =>
            have hsz3 := HG3.out.below.size
            simp at hsz3 ⊢; omega
          rintro g c9 w' ho hg hgl hlt2
          have HG4 := Lib.hid (RG.app HG3.out ho hg)
          have hvl : (acc ++ [y]).length = acc.length + 1 := by simp
          have HVL := Lib.hid hvl
          have HG5 : Hid (RG 93 5 w (.slice (some ⟨g, 0, none⟩) (acc.length + 1) c9) (acc ++ [y]).length (L2.rcells (acc ++ [y])) w') := by unfold Hid; rw [hvl, L2.rcells_append]; exact HG4.out
          clear ho hg hgl HG4 HG3 hvl
          go_wp2_with fail
          go_roundw
          case rel => exact ⟨acc.length + 1, acc ++ [y], by omega, by go_num, HVL.out, HG5, HN2.out, HI2.out⟩
          case measure => simp [intOf]; omega
      · have hvn : acc.length = l.length := by omega
        have hr : r = some acc := by rw [← HA.out, List.drop_of_length_le (by omega), addM_end]
        subst hr
        have HD := Lib.hid (And.intro (rg_rows HG.out) (And.intro HG.out.fresh HI.out))
        have HBZ := Lib.hid HG.out.below
        clear HA HG HI H3 hvn
        go_wp2
        go_ret2
        exact ⟨HBZ.out, _, rfl, HD.out.1, HD.out.2⟩
  · have hr : r = none := by rw [← HR.out, list_not hno]
    subst hr
    clear HR hno h hln
    go_enter Tryz.func63, Tryz.ntmps63
    go_wp2
    go_ret2
    exact ⟨Below.refl _ _, rfl⟩

set_option maxHeartbeats 4000000 in
theorem readList62 (d : Nat) (sv : Value) (sh : Sh) (w : World) (h : ShAt w w.heap.size d sv sh) (hln : ∀ l, sh = .list l → l.length ≤ 100000) :
    Calls Tryz.prog 156 #[sv, .func (.func 157) #[] #[]] w (KidsTo w (listM kidM sh)) := by
  obtain ⟨i0, hi, hz0, hz1, hz2⟩ := info55
  obtain ⟨r, hr⟩ : ∃ r, listM kidM sh = r := ⟨_, rfl⟩
  rw [hr]
  have HR := Lib.hid hr
  clear hr
  rcases as_lst h with ⟨l, A, cap, rfl, hla, hta⟩ | ⟨hno, hta⟩
  · have hll := hln l rfl
    have HR2 : Hid (addM [] (allM kidM (l.drop 0)) = r) := by unfold Hid; rw [addM_nil]; exact HR.out
    obtain ⟨d', rfl⟩ : ∃ d', d = d' + 1 := by
      cases d with
      | zero => exact hla.elim
      | succ d' => exact ⟨d', rfl⟩
    have hla0 := hla
    obtain ⟨A', cap', e', h1, h2, h3⟩ := hla0
    injection e' with e1 e2 e3
    subst e1 e3
    have H3 := Lib.hid h3
    unfold maxLen at h2
    have HRG : Hid (RG 95 2 w (.slice none 0 0) ([] : List Kd).length (kidsC []) w) := RG.start 95 2 w
    clear h hla h3 e2 hln HR
    go_enter Tryz.func156, Tryz.ntmps156
    go_wp2_with fail
    go_loopw [8, 22] (fun s8 s22 wr => ∃ (k : Nat) (acc : List Kd), k ≤ l.length ∧ s22 = .int .i64 k ∧ acc.length = k ∧ Hid (RG 95 2 w s8 acc.length (kidsC acc) wr) ∧ Hid (addM acc (allM kidM (l.drop k)) = r) ∧ Hid (∀ x ∈ acc, 0 ≤ x.f ∧ x.f ≤ 255)) (fun _ s22 _ => l.length - (intOf s22).toNat)
    case atStart => exact ⟨0, [], Nat.zero_le _, rfl, rfl, HRG.out, HR2.out, by intro x hx; cases hx⟩
    case round =>
      obtain ⟨k, acc, hk, rfl, rfl, HG, HA, HI⟩ := hrel
      clear HRG HR2
      obtain ⟨A1, c1, hA1⟩ := HG.out.slice
      subst hA1
      by_cases hlt : acc.length < l.length
      · obtain ⟨b, o, rfl, hb, hrw⟩ := H3.out (by omega)
        obtain ⟨ui, hrow, hwf, hsub⟩ := hrw acc.length hlt
        have hd := L2.drop_get l acc.length hlt
        obtain ⟨x0, x1, x2, x3⟩ := hrow.keep fun o => HG.out.below.cell (p := ⟨b, o, none⟩) hb
        have HSUB := Lib.hid hsub
        have hbl : b < wr.heap.size := Nat.lt_of_lt_of_le hb HG.out.below.size
        clear hrw hrow hwf hsub
        generalize l[acc.length] = x at x0 x1 x2 x3 HSUB hd
        have HB1 : Hid (∀ {y}, kidM x = some y → addM (acc ++ [y]) (allM kidM (l.drop (acc.length + 1))) = r) := fun hy => by rw [← HA.out, hd, addM_cons hy]
        have HB2 : Hid (kidM x = none → r = none) := fun hy => by rw [← HA.out, hd, addM_bad hy]
        clear hd HA
        obtain ⟨xk, xn, xs, xl⟩ := x
        simp only [L4.k_mk, L4.n_mk, L4.s_mk, L4.l_mk] at x0 x1 x2 x3 HSUB
        obtain ⟨Ai, ci, rfl⟩ := HSUB.out.slice
        have hW1 : Below wr.heap.size wr (wr.alloc (.cells #[.int .i64 xk, .int .i64 xn, .string xs, .slice Ai xl.length ci] 38)) := (Below.refl _ _).alloc (Nat.le_refl _) _
        have HW1 := Lib.hid hW1
        have HS2 := Lib.hid (readKid63 d' xk xn xs xl (.slice Ai xl.length ci) (wr.alloc (.cells #[.int .i64 xk, .int .i64 xn, .string xs, .slice Ai xl.length ci] 38)) ((HSUB.out.below (HG.out.below.trans (hW1.mono HG.out.below.size))).more (Nat.le_trans HG.out.below.size hW1.size)))
        have HWF := Lib.hid (lat_wf HSUB.out)
        clear hW1 HSUB
        obtain ⟨y, hy⟩ : ∃ y, kidM (.mk xk xn xs xl) = y := ⟨_, rfl⟩
        have HM := Lib.hid hy
        rw [hy] at HS2
        clear hy
        cases y with
        | none =>
          go_wp2_with fail
          refine HS2.out.mono ?_
          rintro _ w3 ⟨hb3, ⟨x9, s9, rfl⟩⟩
          have hbb := Lib.hid (HG.out.below.trans ((HW1.out.trans (hb3.mono HW1.out.size)).mono HG.out.below.size))
          have hr : r = none := HB2.out HM.out
          subst hr
          clear HB1 HB2 HG HS2
          go_wp2
          go_ret2
          first | exact ⟨hbb.out, rfl⟩ | exact ⟨hbb.out.alloc hbb.out.size _, rfl⟩
        | some y =>
          go_wp2_with fail
          refine HS2.out.mono ?_
          rintro _ w3 ⟨hb3, rfl⟩
          have hbb := Lib.hid (HW1.out.trans (hb3.mono HW1.out.size))
          have HG3 := Lib.hid ((HG.out.step hbb.out).step ((Below.refl _ w3).alloc (Nat.le_refl _) (.cells #[.int .u8 y.f, .string y.id] 95)))
          have HN2 := Lib.hid (HB1.out HM.out)
          have HI2 : Hid (∀ x ∈ acc ++ [y], 0 ≤ x.f ∧ x.f ≤ 255) := by
            intro x hx
            rcases List.mem_append.1 hx with hx | hx
            · exact HI.out x hx
            · rw [List.mem_singleton] at hx
              subst hx
              exact (kid_back HM.out).2
          clear HG hb3 HW1 HS2 hbb x0 x1 x2 x3 HB1 HB2 HM HI HWF
          go_wp2_with (at_builtin; go_must (refine wpList_append_lies _ rfl _ _ 24 rfl w.heap.size 95 i0 _ 2 24 Tryz.underlying24 hi hz0 hz1 hz2 rfl (by omega) _ acc.length (kidsC acc) rfl ?own ⟨w3.heap.size + 1, 0, none⟩ 1 1 [.int .u8 y.f, .string y.id] rfl rfl ?news ?one (by omega) ?c3 ?c4 ?c5 _ rfl ?_))
          case own => exact World.ownsRow.alloc HG3.out.own _
          case news =>
            refine World.news_of_block (cs := #[.int .u8 y.f, .string y.id]) (t := 95) (fr := (0, 0)) ?_
            have h9 := heap_alloc_new (w3.alloc (.cells #[.int .u8 y.f, .string y.id] 95)) (.cells #[.int .u8 y.f, .string y.id] 95)
            rw [World.size_alloc] at h9
            exact h9
          case one => simp [Value.oneCell']
          case c3 => unfold maxLen; omega
          case c4 => omega
          case c5 =>
            have hsz3 := HG3.out.below.size
            simp at hsz3 ⊢; omega
          rintro g c9 w' ho hg hgl hlt2
          have HG4 := Lib.hid (RG.app HG3.out ho hg)
          have hvl : (acc ++ [y]).length = acc.length + 1 := by simp
          have HVL := Lib.hid hvl
          have HG5 : Hid (RG 95 2 w (.slice (some ⟨g, 0, none⟩) (acc.length + 1) c9) (acc ++ [y]).length (kidsC (acc ++ [y])) w') := by unfold Hid; rw [hvl, kidsC_append]; exact HG4.out
          clear ho hg hgl HG4 HG3 hvl
          go_wp2_with fail
          go_roundw
          case rel => exact ⟨acc.length + 1, acc ++ [y], by omega, by go_num, HVL.out, HG5, HN2.out, HI2.out⟩
          case measure => simp [intOf]; omega
      · have hvn : acc.length = l.length := by omega
        have hr : r = some acc := by rw [← HA.out, List.drop_of_length_le (by omega), addM_end]
        subst hr
        have HD := Lib.hid (And.intro (rg_kids HG.out HI.out) HG.out.fresh)
        have HBZ := Lib.hid HG.out.below
        clear HA HG HI H3 hvn
        go_wp2
        go_ret2
        exact ⟨HBZ.out, _, rfl, HD.out.1, HD.out.2⟩
  · have hr : r = none := by rw [← HR.out, list_not hno]
    subst hr
    clear HR hno h hln
    go_enter Tryz.func156, Tryz.ntmps156
    go_wp2
    go_ret2
    exact ⟨Below.refl _ _, rfl⟩

set_option maxHeartbeats 4000000 in
theorem readList64 (d : Nat) (sv : Value) (sh : Sh) (w : World) (h : ShAt w w.heap.size d sv sh) (hln : ∀ l, sh = .list l → l.length ≤ 100000) :
    Calls Tryz.prog 158 #[sv, .func (.func 159) #[] #[]] w (TxtsTo w (listM textM sh)) := by
  obtain ⟨i0, hi, hz0, hz1, hz2⟩ := info9
  obtain ⟨r, hr⟩ : ∃ r, listM textM sh = r := ⟨_, rfl⟩
  rw [hr]
  have HR := Lib.hid hr
  clear hr
  rcases as_lst h with ⟨l, A, cap, rfl, hla, hta⟩ | ⟨hno, hta⟩
  · have hll := hln l rfl
    have HR2 : Hid (addM [] (allM textM (l.drop 0)) = r) := by unfold Hid; rw [addM_nil]; exact HR.out
    obtain ⟨d', rfl⟩ : ∃ d', d = d' + 1 := by
      cases d with
      | zero => exact hla.elim
      | succ d' => exact ⟨d', rfl⟩
    have hla0 := hla
    obtain ⟨A', cap', e', h1, h2, h3⟩ := hla0
    injection e' with e1 e2 e3
    subst e1 e3
    have H3 := Lib.hid h3
    unfold maxLen at h2
    have HRG : Hid (RG 9 1 w (.slice none 0 0) ([] : List ByteArray).length (txtsC []) w) := RG.start 9 1 w
    clear h hla h3 e2 hln HR
    go_enter Tryz.func158, Tryz.ntmps158
    go_wp2_with fail
    go_loopw [8, 22] (fun s8 s22 wr => ∃ (k : Nat) (acc : List ByteArray), k ≤ l.length ∧ s22 = .int .i64 k ∧ acc.length = k ∧ Hid (RG 9 1 w s8 acc.length (txtsC acc) wr) ∧ Hid (addM acc (allM textM (l.drop k)) = r) ∧ Hid (∀ x ∈ acc, True)) (fun _ s22 _ => l.length - (intOf s22).toNat)
    case atStart => exact ⟨0, [], Nat.zero_le _, rfl, rfl, HRG.out, HR2.out, by intro x hx; cases hx⟩
    case round =>
      obtain ⟨k, acc, hk, rfl, rfl, HG, HA, HI⟩ := hrel
      clear HRG HR2
      obtain ⟨A1, c1, hA1⟩ := HG.out.slice
      subst hA1
      by_cases hlt : acc.length < l.length
      · obtain ⟨b, o, rfl, hb, hrw⟩ := H3.out (by omega)
        obtain ⟨ui, hrow, hwf, hsub⟩ := hrw acc.length hlt
        have hd := L2.drop_get l acc.length hlt
        obtain ⟨x0, x1, x2, x3⟩ := hrow.keep fun o => HG.out.below.cell (p := ⟨b, o, none⟩) hb
        have HSUB := Lib.hid hsub
        have hbl : b < wr.heap.size := Nat.lt_of_lt_of_le hb HG.out.below.size
        clear hrw hrow hwf hsub
        generalize l[acc.length] = x at x0 x1 x2 x3 HSUB hd
        have HB1 : Hid (∀ {y}, textM x = some y → addM (acc ++ [y]) (allM textM (l.drop (acc.length + 1))) = r) := fun hy => by rw [← HA.out, hd, addM_cons hy]
        have HB2 : Hid (textM x = none → r = none) := fun hy => by rw [← HA.out, hd, addM_bad hy]
        clear hd HA
        obtain ⟨xk, xn, xs, xl⟩ := x
        simp only [L4.k_mk, L4.n_mk, L4.s_mk, L4.l_mk] at x0 x1 x2 x3 HSUB
        obtain ⟨Ai, ci, rfl⟩ := HSUB.out.slice
        have hW1 : Below wr.heap.size wr (wr.alloc (.cells #[.int .i64 xk, .int .i64 xn, .string xs, .slice Ai xl.length ci] 38)) := (Below.refl _ _).alloc (Nat.le_refl _) _
        have HW1 := Lib.hid hW1
        have HS2 := Lib.hid (readText65 d' xk xn xs xl (.slice Ai xl.length ci) (wr.alloc (.cells #[.int .i64 xk, .int .i64 xn, .string xs, .slice Ai xl.length ci] 38)) ((HSUB.out.below (HG.out.below.trans (hW1.mono HG.out.below.size))).more (Nat.le_trans HG.out.below.size hW1.size)))
        have HWF := Lib.hid (lat_wf HSUB.out)
        clear hW1 HSUB
        obtain ⟨q, hq⟩ : ∃ q, isTxt (shOf (.mk xk xn xs xl)) = q := ⟨_, rfl⟩
        obtain ⟨y, hy⟩ : ∃ y, txtV (shOf (.mk xk xn xs xl)) = y := ⟨_, rfl⟩
        rw [hq, hy] at HS2
        cases q with
        | false =>
          have HM : Hid (textM (.mk xk xn xs xl) = none) := by
            unfold Hid textM
            cases hs : shOf (.mk xk xn xs xl) <;> (first | rfl | (rw [hs] at hq; cases hq))
          clear hq hy
          go_wp2_with fail
          refine HS2.out.mono ?_
          rintro _ w3 ⟨rfl, hb3⟩
          have hbb := Lib.hid (HG.out.below.trans ((HW1.out.trans (hb3.mono HW1.out.size)).mono HG.out.below.size))
          have hr : r = none := HB2.out HM.out
          subst hr
          clear HB1 HB2 HG HS2
          go_wp2
          go_ret2
          first | exact ⟨hbb.out, rfl⟩ | exact ⟨hbb.out.alloc hbb.out.size _, rfl⟩
        | true =>
          have HM : Hid (textM (.mk xk xn xs xl) = some y) := by
            unfold Hid textM
            cases hs : shOf (.mk xk xn xs xl) <;> (first | (rw [hs] at hq; cases hq; done) | (rw [hs] at hy; rw [← hy]; rfl))
          clear hq hy
          go_wp2_with fail
          refine HS2.out.mono ?_
          rintro _ w3 ⟨rfl, hb3⟩
          have hbb := Lib.hid (HW1.out.trans (hb3.mono HW1.out.size))
          have HG3 := Lib.hid ((HG.out.step hbb.out))
          have HN2 := Lib.hid (HB1.out HM.out)
          have HI2 : Hid (∀ x ∈ acc ++ [y], True) := by
            intro x hx
            rcases List.mem_append.1 hx with hx | hx
            · exact HI.out x hx
            · rw [List.mem_singleton] at hx
              subst hx
              exact trivial
          clear HG hb3 HW1 HS2 hbb x0 x1 x2 x3 HB1 HB2 HM HI HWF
          go_wp2_with (at_builtin; go_must (refine wpList_append_lies _ rfl _ _ 25 rfl w.heap.size 9 i0 _ 1 16 Tryz.underlying25 hi hz0 hz1 hz2 rfl (by omega) _ acc.length (txtsC acc) rfl ?own ⟨w3.heap.size, 0, none⟩ 1 1 [.string y] rfl rfl ?news ?one (by omega) ?c3 ?c4 ?c5 _ rfl ?_))
          case own => exact World.ownsRow.alloc HG3.out.own _
          case news =>
            refine World.news_of_block (cs := #[.string y]) (t := 9) (fr := (0, 0)) ?_
            have h9 := heap_alloc_new w3 (.cells #[.string y] 9)
            skip
            exact h9
          case one => simp [Value.oneCell']
          case c3 => unfold maxLen; omega
          case c4 => omega
          case c5 =>
            have hsz3 := HG3.out.below.size
            simp at hsz3 ⊢; omega
          rintro g c9 w' ho hg hgl hlt2
          have HG4 := Lib.hid (RG.app HG3.out ho hg)
          have hvl : (acc ++ [y]).length = acc.length + 1 := by simp
          have HVL := Lib.hid hvl
          have HG5 : Hid (RG 9 1 w (.slice (some ⟨g, 0, none⟩) (acc.length + 1) c9) (acc ++ [y]).length (txtsC (acc ++ [y])) w') := by unfold Hid; rw [hvl, txtsC_append]; exact HG4.out
          clear ho hg hgl HG4 HG3 hvl
          go_wp2_with fail
          go_roundw
          case rel => exact ⟨acc.length + 1, acc ++ [y], by omega, by go_num, HVL.out, HG5, HN2.out, HI2.out⟩
          case measure => simp [intOf]; omega
      · have hvn : acc.length = l.length := by omega
        have hr : r = some acc := by rw [← HA.out, List.drop_of_length_le (by omega), addM_end]
        subst hr
        have HD := Lib.hid (And.intro (rg_txts HG.out) HG.out.fresh)
        have HBZ := Lib.hid HG.out.below
        clear HA HG HI H3 hvn
        go_wp2
        go_ret2
        exact ⟨HBZ.out, _, rfl, HD.out.1, HD.out.2⟩
  · have hr : r = none := by rw [← HR.out, list_not hno]
    subst hr
    clear HR hno h hln
    go_enter Tryz.func158, Tryz.ntmps158
    go_wp2
    go_ret2
    exact ⟨Below.refl _ _, rfl⟩
end Go.Proofs.YtjanddnlhaionaaGreatDoor
namespace Go.Proofs.YtjanddnlhaionaaGreatDoor
open Go.RowKit
open L4 (C LAt okC)
open L2 (Row Vl RowsAt rowsOK valOK)

theorem size27 : (Tryz.prog.info? 27).map (·.size) = some 8 := by kernel_rfl
def ob8 (k : Int) (label : ByteArray) (A1 : Option Addr) (n1 c1 : Nat) (A2 : Option Addr) (n2 c2 : Nat) (A3 : Option Addr) (n3 c3 : Nat) (st : Int) (note root : ByteArray) : Array Value :=
  #[.int .i64 k, .string label, .slice A1 n1 c1, .slice A2 n2 c2, .slice A3 n3 c3, .int .i64 st, .string note, .string root]
theorem one8 (k : Int) (label : ByteArray) (A1 : Option Addr) (n1 c1 : Nat) (A2 : Option Addr) (n2 c2 : Nat) (A3 : Option Addr) (n3 c3 : Nat) (st : Int) (note root : ByteArray) :
    (#[Value.int .i64 k, .string label, .slice A1 n1 c1, .slice A2 n2 c2, .slice A3 n3 c3, .int .i64 st, .string note, .string root]).all (·.oneCell') = true := by simp [Value.oneCell']
theorem FreshV.mono {lo lo' : Nat} {v : Value} (h : FreshV lo v) (hl : lo' ≤ lo) : FreshV lo' v := fun b o n c e => Nat.le_trans hl (h b o n c e)
theorem FreshV.nil (lo n c : Nat) : FreshV lo (.slice none n c) := fun b o n c e => by cases e
/-- What readNode and readCommit come to. -/
def ObTo (w : World) (r : Option Ob) (e : Ending) (w' : World) : Prop :=
  Below w.heap.size w w' ∧ ∃ k label A1 n1 c1 A2 n2 c2 A3 n3 c3 st note root q, e = .returned (.tuple #[.agg #[.int .i64 k, .string label, .slice A1 n1 c1, .slice A2 n2 c2, .slice A3 n3 c3, .int .i64 st, .string note, .string root], .bool q]) ∧
    match r with
    | some o => q = true ∧ (∃ rows kids parents, o = ⟨k, label, rows, kids, parents, st, note, root⟩) ∧ ObAt w' (.slice A1 n1 c1) (.slice A2 n2 c2) (.slice A3 n3 c3) o ∧ FreshV w.heap.size (.slice A1 n1 c1) ∧ FreshV w.heap.size (.slice A2 n2 c2) ∧ FreshV w.heap.size (.slice A3 n3 c3)
    | none => q = false

def RowsAns (w w' : World) (v : Value) (q : Bool) : Option (List Row) → Prop
  | some l => q = true ∧ RowsAt w' w'.heap.size v l ∧ FreshV w.heap.size v ∧ ∀ r ∈ l, NumB r
  | none => q = false
def KidsAns (w w' : World) (v : Value) (q : Bool) : Option (List Kd) → Prop
  | some l => q = true ∧ KidsAt w' w'.heap.size v l ∧ FreshV w.heap.size v
  | none => q = false
def TxtsAns (w w' : World) (v : Value) (q : Bool) : Option (List ByteArray) → Prop
  | some l => q = true ∧ TxtsAt w' w'.heap.size v l ∧ FreshV w.heap.size v
  | none => q = false
theorem rows_norm {w : World} {r : Option (List Row)} {e : Ending} {w' : World} (h : RowsTo w r e w') : Below w.heap.size w w' ∧ ∃ A n c q, e = .returned (.tuple #[.slice A n c, .bool q]) ∧ RowsAns w w' (.slice A n c) q r := by
  obtain ⟨hb, h⟩ := h
  refine ⟨hb, ?_⟩
  cases r with
  | none => exact ⟨none, 0, 0, false, h, rfl⟩
  | some l =>
    obtain ⟨v, rfl, h1, h2⟩ := h
    have h1' := h1
    obtain ⟨A, cap, rfl, -, -, -⟩ := h1'
    exact ⟨A, _, cap, true, rfl, rfl, h1, h2⟩
theorem kids_norm {w : World} {r : Option (List Kd)} {e : Ending} {w' : World} (h : KidsTo w r e w') : Below w.heap.size w w' ∧ ∃ A n c q, e = .returned (.tuple #[.slice A n c, .bool q]) ∧ KidsAns w w' (.slice A n c) q r := by
  obtain ⟨hb, h⟩ := h
  refine ⟨hb, ?_⟩
  cases r with
  | none => exact ⟨none, 0, 0, false, h, rfl⟩
  | some l =>
    obtain ⟨v, rfl, h1, h2⟩ := h
    have h1' := h1
    obtain ⟨A, cap, rfl, -, -, -⟩ := h1'
    exact ⟨A, _, cap, true, rfl, rfl, h1, h2⟩
theorem txts_norm {w : World} {r : Option (List ByteArray)} {e : Ending} {w' : World} (h : TxtsTo w r e w') : Below w.heap.size w w' ∧ ∃ A n c q, e = .returned (.tuple #[.slice A n c, .bool q]) ∧ TxtsAns w w' (.slice A n c) q r := by
  obtain ⟨hb, h⟩ := h
  refine ⟨hb, ?_⟩
  cases r with
  | none => exact ⟨none, 0, 0, false, h, rfl⟩
  | some l =>
    obtain ⟨v, rfl, h1, h2⟩ := h
    have h1' := h1
    obtain ⟨A, cap, rfl, -, -, -⟩ := h1'
    exact ⟨A, _, cap, true, rfl, rfl, h1, h2⟩

theorem okC_sub {d : Nat} {l : List C} (h : okC (d + 1) (listC l) = true) : l.length ≤ 4095 ∧ ∀ x ∈ l, okC d x = true := by
  unfold listC at h
  rw [L4.okC_succ, if_neg (by decide), if_neg (by decide), if_pos rfl] at h
  simp only [Bool.and_eq_true, decide_eq_true_eq, List.all_eq_true] at h
  exact ⟨h.2.2.1, h.2.2.2⟩
/-- The lists within a right cell are short. -/
theorem short_lists {c : C} {n : Nat} {L : List Sh} (hok : okC 16 c = true) (h : fieldsM c n = some L) : ∀ sh ∈ L, ∀ l, sh = .list l → l.length ≤ 100000 := by
  obtain ⟨l, rfl, rfl, -, -⟩ := fields_some h
  intro sh hsh l' e
  obtain ⟨x, hx, rfl⟩ := List.mem_map.1 hsh
  have h1 := (okC_sub hok).2 x hx
  rw [sh_list.1 e] at h1
  have := (okC_sub h1).1
  omega

theorem results_ob (f : Func) (hf : f.results = #[.cell 2 27, .tmp 3]) (tmps : Array Value) (w : World) (P : Nat) (k : Int) (label : ByteArray) (A1 : Option Addr) (n1 c1 : Nat) (A2 : Option Addr) (n2 c2 : Nat) (A3 : Option Addr) (n3 c3 : Nat) (st : Int) (note root : ByteArray) (q : Bool)
    (hp2 : tmps[2]?.getD undef = .pointer (some ⟨P, 0, none⟩)) (hp3 : tmps[3]?.getD undef = .bool q) (h0 : w.heap[P]? = some (.cells #[.int .i64 k, .string label, .slice A1 n1 c1, .slice A2 n2 c2, .slice A3 n3 c3, .int .i64 st, .string note, .string root] 27 (0, 0))) :
    (results f tmps).run Tryz.prog w = .ok (.tuple #[.agg #[.int .i64 k, .string label, .slice A1 n1 c1, .slice A2 n2 c2, .slice A3 n3 c3, .int .i64 st, .string note, .string root], .bool q]) w := by
  have p0 := cell_of_row w P 0 _ 27 (0, 0) h0
  have p1 := cell_of_row w P 1 _ 27 (0, 0) h0
  have p2 := cell_of_row w P 2 _ 27 (0, 0) h0
  have p3 := cell_of_row w P 3 _ 27 (0, 0) h0
  have p4 := cell_of_row w P 4 _ 27 (0, 0) h0
  have p5 := cell_of_row w P 5 _ 27 (0, 0) h0
  have p6 := cell_of_row w P 6 _ 27 (0, 0) h0
  have p7 := cell_of_row w P 7 _ 27 (0, 0) h0
  simp [results, hf, hp2, hp3, asAddr, go_sem, p0, p1, p2, p3, p4, p5, p6, p7]
end Go.Proofs.YtjanddnlhaionaaGreatDoor
namespace Go.Proofs.YtjanddnlhaionaaGreatDoor
open Go.RowKit
open L4 (C LIn LNF Unf Wf rcells rowC)
open L2 (Row Vl RowsAt rowsOK valOK)

set_option maxHeartbeats 4000000 in
theorem objectCell17_commit (kd : Int) (label : ByteArray) (rows : List Row) (kids : List Kd) (parents : List ByteArray) (stamp : Int) (note root : ByteArray) (r k p : Value) (w : World) (h : ObAt w r k p ⟨kd, label, rows, kids, parents, stamp, note, root⟩) (hw : ObW ⟨kd, label, rows, kids, parents, stamp, note, root⟩) (hk : (kd == 1) = false) (hk2 : kd = 2) :
    Calls Tryz.prog 46 #[.agg #[.int .i64 kd, .string label, r, k, p, .int .i64 stamp, .string note, .string root]] w (ListOf w [numC kd, textsCl parents, numC stamp, textC note, textC root]) := by
  have HOB := Lib.hid (OB.start w ⟨kd, label, rows, kids, parents, stamp, note, root⟩ r k p)
  unfold obVs at HOB
  simp only at HOB
  have HH := Lib.hid h
  have HPC : Hid (∀ W, Below w.heap.size w W → Calls Tryz.prog 93 #[p, .func (.func 90) #[] #[]] W (ListOf W (parents.map textC))) := fun W hb => listCell38 parents p W (h.step hb).parents (by have := hw.np; simp only at this; omega) hw.parents
  have HBU : Hid (∀ (W : World) (lo : Nat) (A1 : Option Addr) (n1 c1 D1 : Nat), lo ≤ W.heap.size → LNF lo W W.heap.size D1 (.slice A1 n1 c1) (parents.map textC) → _) := fun W lo A1 n1 c1 D1 hlo hr => commit_built kd stamp note root _ W lo A1 n1 c1 D1 hlo (by omega) (by omega) h.s0 h.s1 hw.note hw.root hr
  have HCN : Hid (L4.cntL [numC kd, listC (parents.map textC), numC stamp, textC note, textC root] ≤ 5000) := by
    unfold Hid
    have h1 := cntL_const textC 1 cnt_text parents
    have h3 := hw.np
    simp only at h3
    simp only [L4.cntL_cons, L4.cntL_nil, numC, textC, listC, L4.cntC_mk] at h1 ⊢
    omega
  obtain ⟨A, ca, hp, -, -, -⟩ := h.parents
  simp only at hp
  subst hp
  clear h hw hk2
  go_enter Tryz.func46, Tryz.ntmps46
  go_wp2_with fail
  refine (L4.num16 _ _).mono ?_
  rintro _ w1 ⟨rfl, hb1⟩
  have HO1 := Lib.hid (HOB.out.step hb1)
  have HT1 := Lib.hid (OT.start HO1.out)
  simp only at HT1
  have d0 := HO1.out.c0
  have d0' := HT1.out.ob.c0
  clear HOB hb1 HO1
  go_wp2_with fail
  clear d0 d0'
  go_region_held3 (fun W => W.cell? ⟨w1.heap.size, 0, none⟩ = some (.int .i64 1) ∧ W.cell? ⟨w1.heap.size, 1, none⟩ = some (.int .i64 kd) ∧ W.cell? ⟨w1.heap.size, 2, none⟩ = some (.string ⟨#[]⟩) ∧ W.cell? ⟨w1.heap.size, 3, none⟩ = some (.slice none 0 0) ∧ W.cell? ⟨w.heap.size, 4, none⟩ = some (.slice A parents.length ca) ∧ W.cell? ⟨w.heap.size, 5, none⟩ = some (.int .i64 stamp) ∧ W.cell? ⟨w.heap.size, 6, none⟩ = some (.string note) ∧ W.cell? ⟨w.heap.size, 7, none⟩ = some (.string root) ∧ OT w ⟨kd, label, rows, kids, parents, stamp, note, root⟩ r k (.slice A parents.length ca) w1.heap.size W)
    ((refine OT.s2 (o := ⟨kd, label, rows, kids, parents, stamp, note, root⟩) ?_; first | exact HT1.out.drew | exact OT.put (by go_split_ands; assumption) _ _ _ _ | exact OT.step (by go_split_ands; assumption) (by assumption) | exact OT.step (by go_split_ands; assumption) ((Below.refl _ _).alloc (Nat.le_refl _) _))) (first | (go_at_call 93; refine (HPC.out _ (OB.below (OT.ob (by go_split_ands; assumption)))).mono ?_; rintro _ w3 ⟨B1, n1, c1, D1, rfl, hl1, hb⟩; have HL1 := Lib.hid (lnf_lo (lo' := w.heap.size + 2) (OT.lt (by go_split_ands; assumption)) hl1); clear hl1) | (go_at_call 88; refine (L4.num16 _ _).mono ?_; rintro _ w4 ⟨rfl, hb⟩; have HL3 := Lib.hid (lnf_step HL1.out hb)) | (go_at_call 90; refine (L4.text17 _ _).mono ?_; rintro _ w5 ⟨rfl, hb⟩; have HL3 := Lib.hid (lnf_step HL3.out hb); have hz5 := Lib.hid (OT.lt (OT.step (by go_split_ands; assumption) hb))) | (go_at_call 89; refine (L4.list18 (lo := w.heap.size + 2) _ _ _ _ (HBU.out _ _ _ _ _ _ hz5.out HL3.out) HCN.out (OT.lt (by go_split_ands; assumption))).mono ?_; rintro _ w6 ⟨B3, m, cap, D, rfl, hl, hb⟩; have HL := Lib.hid hl; clear hl; obtain ⟨a, b, c, d, hr⟩ := OB.res (OT.ob (OT.step (by go_split_ands; assumption) hb)); obtain ⟨z0, z1, z2, z3, z4, z5, z6, z7⟩ := row_facts hr; have HR := Lib.hid hr; have HKB := Lib.hid (OB.below (OT.ob (OT.step (by go_split_ands; assumption) hb))); clear hr))
  have HSS := Lib.hid (L4.size_four 3 0 ⟨#[]⟩ B3 m cap)
  go_wp2
  refine bodyPost_ret (results_cell_row (p := 2) (ty := 38) rfl _ _ (w.heap.size + 1) 38 #[.int .i64 3, .int .i64 0, .string ⟨#[]⟩, .slice B3 m cap] (0, 0) _ ?hp (set4 _ _ _ _ _ _ _ _ _ _ HR.out) Tryz.underlying38 rfl (by exact HSS.out)) rfl ?_
  case hp => rfl
  exact ListOf.put (by omega) HL.out HKB.out
end Go.Proofs.YtjanddnlhaionaaGreatDoor
namespace Go.Proofs.YtjanddnlhaionaaGreatDoor
open Go.RowKit
open L4 (C LIn LNF Unf Wf rcells rowC putS putE okC encC)
open L2 (Row Vl RowsAt rowsOK valOK)

theorem kids_few : ∀ (l : List Kd) (p : Kd), kidsFrom (some p) l = true → (∀ k ∈ l, k.f ≤ 255) → p.f ≤ 255 → p.f + l.length ≤ 255
  | [], p, _, _, hp => by simpa using hp
  | k :: l, p, h, hl, _ => by
    rw [kidsFrom, Bool.and_eq_true, Bool.and_eq_true, Bool.not_eq_true', decide_eq_false_iff_not] at h
    have h1 := kids_few l k h.2.2 (fun x hx => hl x (by simp [hx])) (hl k (by simp))
    rw [List.length_cons]
    have := h.2.1
    omega
theorem kids_256 {l : List Kd} (h : kidsOK l = true) (hf : ∀ k ∈ l, 0 ≤ k.f ∧ k.f ≤ 255) : l.length ≤ 256 := by
  cases l with
  | nil => simp
  | cons k l =>
    unfold kidsOK at h
    rw [kidsFrom, Bool.and_eq_true] at h
    have h1 := kids_few l k h.2 (fun x hx => (hf x (by simp [hx])).2) (hf k (by simp)).2
    have h2 := (hf k (by simp)).1
    rw [List.length_cons]
    omega
theorem row_w {r : Row} (h : valOK r.2.2 = true ∧ 0 ≤ r.1 ∧ r.1 ≤ 1099511627776 ∧ 0 ≤ r.2.1 ∧ r.2.1 ≤ 1099511627776) (hn : -9223372036854775808 ≤ r.2.2.2.1 ∧ r.2.2.2.1 ≤ 9223372036854775807) : RowW r := by
  obtain ⟨hv, h1, h2, h3, h4⟩ := h
  refine ⟨⟨by omega, by omega⟩, ⟨by omega, by omega⟩, hn, ?_⟩
  rcases val_k hv with ⟨-, k2⟩ | ⟨-, -, k3⟩
  · rw [k2]; show (0 : Nat) ≤ _; omega
  · omega
theorem zero_size : (⟨#[]⟩ : ByteArray).size = 0 := rfl
theorem obW_of {o : Ob} (h : objOK o = true) (hn : ∀ r ∈ o.rows, -9223372036854775808 ≤ r.2.2.2.1 ∧ r.2.2.2.1 ≤ 9223372036854775807) (hf : ∀ k ∈ o.kids, 0 ≤ k.f ∧ k.f ≤ 255) : ObW o := by
  rcases obj_p h with p | p
  · have hr := rows_all p.rows
    have hk := kids_256 p.kids hf
    exact ⟨fun r hr' => row_w (hr.2 r hr') (hn r hr'), fun k hk' => by have := kidsFrom_all _ _ p.kids k hk'; omega, fun s hs => (by rw [p.parents] at hs; cases hs), by have := p.label; omega, by rw [p.note, zero_size]; omega, by rw [p.root, zero_size]; omega, by omega, by omega, by rw [p.parents]; simp⟩
  · have hp := parents_p p.parents
    exact ⟨fun r hr => (by rw [p.rows] at hr; cases hr), fun k hk => (by rw [p.kids] at hk; cases hk), fun s hs => by have := hp.2 s hs; omega, by rw [p.label, zero_size]; omega, by have := p.note; omega, by have := p.root; omega, by rw [p.rows]; simp, by rw [p.kids]; simp, by omega⟩

def objS (o : Ob) : ByteArray := if objOK o then putS (cellOf o) else ⟨#[]⟩
def objE (o : Ob) : Int := if objOK o then 0 else 2

theorem cell_list (o : Ob) : ∃ l, cellOf o = listC l := by
  unfold cellOf nodeCl commitCl
  split <;> exact ⟨_, rfl⟩

theorem objectCell17 (kd : Int) (label : ByteArray) (rows : List Row) (kids : List Kd) (parents : List ByteArray) (stamp : Int) (note root : ByteArray) (r k p : Value) (w : World) (h : ObAt w r k p ⟨kd, label, rows, kids, parents, stamp, note, root⟩) (hok : objOK ⟨kd, label, rows, kids, parents, stamp, note, root⟩ = true) :
    Calls Tryz.prog 46 #[.agg #[.int .i64 kd, .string label, r, k, p, .int .i64 stamp, .string note, .string root]] w (ListOf w (cellOf ⟨kd, label, rows, kids, parents, stamp, note, root⟩).l) := by
  have hw := obW_of hok h.num h.kids.bounds
  rcases obj_p hok with q | q
  · have hk : kd = 1 := q.k
    have := objectCell17_node kd label rows kids parents stamp note root r k p w h hw (by rw [hk]; rfl)
    unfold cellOf
    rw [if_pos hk]
    exact this
  · have hk : kd = 2 := q.k
    have := objectCell17_commit kd label rows kids parents stamp note root r k p w h hw (by rw [hk]; rfl) hk
    unfold cellOf
    rw [if_neg (by show ¬ (kd = 1); omega)]
    exact this

set_option maxHeartbeats 2000000 in
theorem put7 (kd : Int) (label : ByteArray) (rows : List Row) (kids : List Kd) (parents : List ByteArray) (stamp : Int) (note root : ByteArray) (r k p : Value) (w : World) (h : ObAt w r k p ⟨kd, label, rows, kids, parents, stamp, note, root⟩) :
    Calls Tryz.prog 11 #[.agg #[.int .i64 kd, .string label, r, k, p, .int .i64 stamp, .string note, .string root]] w fun e w' => e = .returned (.tuple #[.string (objS ⟨kd, label, rows, kids, parents, stamp, note, root⟩), .int .i64 (objE ⟨kd, label, rows, kids, parents, stamp, note, root⟩)]) ∧ Below w.heap.size w w' := by
  have HO := Lib.hid (Obj1.start w ⟨kd, label, rows, kids, parents, stamp, note, root⟩ r k p)
  have h' : ObAt (w.alloc (.cells #[.int .i64 kd, .string label, r, k, p, .int .i64 stamp, .string note, .string root] 27)) r k p ⟨kd, label, rows, kids, parents, stamp, note, root⟩ := h.step HO.out.below
  have HC := Lib.hid (check12 kd label rows kids parents stamp note root r k p (w.alloc (.cells #[.int .i64 kd, .string label, r, k, p, .int .i64 stamp, .string note, .string root] 27)) h')
  have HCE := Lib.hid fun w2 (hb : Below (w.alloc (.cells #[.int .i64 kd, .string label, r, k, p, .int .i64 stamp, .string note, .string root] 27)).heap.size (w.alloc (.cells #[.int .i64 kd, .string label, r, k, p, .int .i64 stamp, .string note, .string root] 27)) w2) => objectCell17 kd label rows kids parents stamp note root r k p w2 (h'.step hb)
  have HG := Lib.hid (fun hok => obj_good (o := ⟨kd, label, rows, kids, parents, stamp, note, root⟩) hok h.num h.kids.bounds)
  have HK := Lib.hid (fun hok => kids_256 (l := kids) hok h.kids.bounds)
  obtain ⟨o, ho⟩ : ∃ o, (⟨kd, label, rows, kids, parents, stamp, note, root⟩ : Ob) = o := ⟨_, rfl⟩
  have HOB := Lib.hid ho
  unfold objS objE
  rw [ho] at HC HCE HG ⊢
  cases hok : objOK o with
  | false =>
    rw [hok] at HC
    clear HCE HG HK h h' ho
    show Calls _ _ _ _ fun e w' => e = .returned (.tuple #[.string ⟨#[]⟩, .int .i64 2]) ∧ _
    go_enter Tryz.func11, Tryz.ntmps11
    go_wp2_with (go_at_call 18; refine HC.out.mono ?_; rintro e w2 ⟨rfl, hb⟩)
    go_ret2
    exact ⟨rfl, (HO.out.step hb).below⟩
  | true =>
    rw [hok] at HC
    obtain ⟨l, hl⟩ := cell_list o
    have hg : Good 16 900000 (cellOf o) := HG.out hok (by
      rw [← ho] at hok ⊢
      rcases obj_p hok with q | q
      · have := HK.out q.kids; show kids.length ≤ 500; omega
      · have : kids = [] := q.kids; show kids.length ≤ 500; rw [this]; simp)
    have HCE2 := Lib.hid fun w2 hb => HCE.out w2 hb hok
    rw [hl] at HCE2 hg ⊢
    have hput : putE (listC l) = 0 := by unfold putE; rw [if_pos hg.ok]
    have HP := Lib.hid (fun d u w2 (hu : L4.LAt w2 w2.heap.size d u l) => L4.put9 d 3 0 ⟨#[]⟩ l u w2 hu (by omega) (by omega) (fun _ => Nat.le_trans hg.enc (by omega)))
    unfold listC at hput
    rw [hput] at HP
    show Calls _ _ _ _ fun e w' => e = .returned (.tuple #[.string (putS (listC l)), .int .i64 0]) ∧ _
    have HX : Hid (putS (.mk 3 0 ⟨#[]⟩ l) = putS (listC l)) := rfl
    rw [HX.out] at HP
    generalize putS (listC l) = S at HP ⊢
    clear HX HCE HG HK h h' ho hok hg hput hl
    go_enter Tryz.func11, Tryz.ntmps11
    go_wp2_with fail
    refine HC.out.mono ?_
    rintro e w2 ⟨rfl, hb⟩
    have HCE3 := Lib.hid (HCE2.out w2 hb)
    have HO2 := Lib.hid (HO.out.step hb)
    obtain ⟨c0, c1, c2, c3, c4, c5, c6, c7, -, -⟩ := HO2.out
    clear hb HCE2 HO HC
    simp only at c0 c1 c5 c6 c7
    go_wp2_with fail
    refine HCE3.out.mono ?_
    rintro e w3 ⟨A, n, cap, D, rfl, hl3, hb3⟩
    have HP3 := Lib.hid (HP.out D _ w3 hl3.lat)
    have HO3 := Lib.hid (HO2.out.step hb3)
    clear hb3 HCE3 HO2 HP hl3 c0 c1 c2 c3 c4 c5 c6 c7
    go_wp2_with fail
    refine HP3.out.mono ?_
    rintro e w4 ⟨rfl, hb4⟩
    have HO4 := Lib.hid (HO3.out.step hb4)
    clear hb4 HP3 HO3
    go_wp2
    go_ret2
    exact ⟨rfl, HO4.out.below⟩
end Go.Proofs.YtjanddnlhaionaaGreatDoor
