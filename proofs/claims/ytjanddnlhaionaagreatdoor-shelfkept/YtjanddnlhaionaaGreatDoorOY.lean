/-
  The contracts of readList: of rows, of kids, of strings. No condition but on the length.
-/
import Derived.Test.YtjanddnlhaionaaGreatDoorOX
namespace Go.Proofs.YtjanddnlhaionaaGreatDoor
open Go.RowKit
open L4 (C LAt)
open L2 (Row Vl RowsAt rowsOK valOK)
set_option maxRecDepth 100000 in
theorem txtsC_append (a b : List ByteArray) : txtsC (a ++ b) = txtsC a ++ txtsC b := by simp [txtsC]

set_option maxRecDepth 100000 in
set_option maxHeartbeats 4000000 in
theorem readList28 (d : Nat) (sv : Value) (sh : Sh) (w : World) (h : ShAt w w.heap.size d sv sh) (hln : ∀ l, sh = .list l → l.length ≤ 100000) :
    Calls Tryz.prog 63 #[sv, .func (.func 65) #[] #[]] w (RowsTo w (listM rowM sh)) := by
  obtain ⟨i0, hi, hz0, hz1, hz2⟩ := info43
  obtain ⟨r, hr⟩ : ∃ r, listM rowM sh = r := ⟨_, rfl⟩
  rw [hr]
  have HR := Lib.hid hr
  clear hr
  rcases as_lst h with ⟨l, A, cap, rfl, hla, hta⟩ | ⟨hno, hta⟩
  · have hll := hln l rfl
    have HR2 : Hid (addM [] (allM rowM (l.drop 0)) = r) := by unfold Hid; rw [addM_nil]; exact HR.out
    obtain ⟨d', rfl⟩ : ∃ d', d = d' + 1 := by
      cases d with
      | zero => exact hla.elim
      | succ d' => exact ⟨d', rfl⟩
    have hla0 := hla
    obtain ⟨A', cap', e', h1, h2, h3⟩ := hla0
    injection e' with e1 e2 e3
    subst e1 e3
    have H3 := Lib.hid h3
    unfold maxLen at h2
    have HRG : Hid (RG 93 5 w (.slice none 0 0) ([] : List Row).length (L2.rcells []) w) := RG.start 93 5 w
    clear h hla h3 e2 hln HR
    go_enter Tryz.func63, Tryz.ntmps63
    go_wp2_with fail
    go_loopw [8, 22] (fun s8 s22 wr => ∃ (k : Nat) (acc : List Row), k ≤ l.length ∧ s22 = .int .i64 k ∧ acc.length = k ∧ Hid (RG 93 5 w s8 acc.length (L2.rcells acc) wr) ∧ Hid (addM acc (allM rowM (l.drop k)) = r) ∧ Hid (∀ x ∈ acc, NumB x)) (fun _ s22 _ => l.length - (intOf s22).toNat)
    case atStart => exact ⟨0, [], Nat.zero_le _, rfl, rfl, HRG.out, HR2.out, by intro x hx; cases hx⟩
    case round =>
      obtain ⟨k, acc, hk, rfl, rfl, HG, HA, HI⟩ := hrel
      clear HRG HR2
      obtain ⟨A1, c1, hA1⟩ := HG.out.slice
      subst hA1
      by_cases hlt : acc.length < l.length
      · obtain ⟨b, o, rfl, hb, hrw⟩ := H3.out (by omega)
        obtain ⟨ui, hrow, hwf, hsub⟩ := hrw acc.length hlt
        have hd := L2.drop_get l acc.length hlt
        obtain ⟨x0, x1, x2, x3⟩ := hrow.keep fun o => HG.out.below.cell (p := ⟨b, o, none⟩) hb
        have HSUB := Lib.hid hsub
        have hbl : b < wr.heap.size := Nat.lt_of_lt_of_le hb HG.out.below.size
        clear hrw hrow hwf hsub
        generalize l[acc.length] = x at x0 x1 x2 x3 HSUB hd
        have HB1 : Hid (∀ {y}, rowM x = some y → addM (acc ++ [y]) (allM rowM (l.drop (acc.length + 1))) = r) := fun hy => by rw [← HA.out, hd, addM_cons hy]
        have HB2 : Hid (rowM x = none → r = none) := fun hy => by rw [← HA.out, hd, addM_bad hy]
        clear hd HA
        obtain ⟨xk, xn, xs, xl⟩ := x
        simp only [L4.k_mk, L4.n_mk, L4.s_mk, L4.l_mk] at x0 x1 x2 x3 HSUB
        obtain ⟨Ai, ci, rfl⟩ := HSUB.out.slice
        have hW1 : Below wr.heap.size wr (wr.alloc (.cells #[.int .i64 xk, .int .i64 xn, .string xs, .slice Ai xl.length ci] 38)) := (Below.refl _ _).alloc (Nat.le_refl _) _
        have HW1 := Lib.hid hW1
        have HS2 := Lib.hid (readRow30 d' xk xn xs xl (.slice Ai xl.length ci) (wr.alloc (.cells #[.int .i64 xk, .int .i64 xn, .string xs, .slice Ai xl.length ci] 38)) ((HSUB.out.below (HG.out.below.trans (hW1.mono HG.out.below.size))).more (Nat.le_trans HG.out.below.size hW1.size)))
        have HWF := Lib.hid (lat_wf HSUB.out)
        clear hW1 HSUB
        obtain ⟨y, hy⟩ : ∃ y, rowM (.mk xk xn xs xl) = y := ⟨_, rfl⟩
        have HM := Lib.hid hy
        rw [hy] at HS2
        clear hy
        cases y with
        | none =>
          go_wp2_with fail
          refine HS2.out.mono ?_
          rintro _ w3 ⟨hb3, ⟨f9, t9, k9, n9, s9, rfl⟩⟩
          have hbb := Lib.hid (HG.out.below.trans ((HW1.out.trans (hb3.mono HW1.out.size)).mono HG.out.below.size))
          have hr : r = none := HB2.out HM.out
          subst hr
          clear HB1 HB2 HG HS2
          go_wp2
          go_ret2
          first | exact ⟨hbb.out, rfl⟩ | exact ⟨hbb.out.alloc hbb.out.size _, rfl⟩
        | some y =>
          go_wp2_with fail
          refine HS2.out.mono ?_
          rintro _ w3 ⟨hb3, rfl⟩
          have hbb := Lib.hid (HW1.out.trans (hb3.mono HW1.out.size))
          have HG3 := Lib.hid ((HG.out.step hbb.out).step ((Below.refl _ w3).alloc (Nat.le_refl _) (.cells #[.int .i64 y.1, .int .i64 y.2.1, .int .i64 y.2.2.1, .int .i64 y.2.2.2.1, .string y.2.2.2.2] 93)))
          have HN2 := Lib.hid (HB1.out HM.out)
          have HI2 : Hid (∀ x ∈ acc ++ [y], NumB x) := by
            intro x hx
            rcases List.mem_append.1 hx with hx | hx
            · exact HI.out x hx
            · rw [List.mem_singleton] at hx
              subst hx
              exact row_num HM.out HWF.out
          clear HG hb3 HW1 HS2 hbb x0 x1 x2 x3 HB1 HB2 HM HI HWF
          go_wp2_with (at_builtin; go_must (refine wpList_append_lies _ rfl _ _ 23 rfl w.heap.size 93 i0 _ 5 48 Tryz.underlying23 hi hz0 hz1 hz2 rfl (by omega) _ acc.length (L2.rcells acc) rfl ?own ⟨w3.heap.size + 1, 0, none⟩ 1 1 [.int .i64 y.1, .int .i64 y.2.1, .int .i64 y.2.2.1, .int .i64 y.2.2.2.1, .string y.2.2.2.2] rfl rfl ?news ?one (by omega) ?c3 ?c4 ?c5 _ rfl ?_))
          case own => exact World.ownsRow.alloc HG3.out.own _
          case news =>
            refine World.news_of_block (cs := #[.int .i64 y.1, .int .i64 y.2.1, .int .i64 y.2.2.1, .int .i64 y.2.2.2.1, .string y.2.2.2.2]) (t := 93) (fr := (0, 0)) ?_
            have h9 := heap_alloc_new (w3.alloc (.cells #[.int .i64 y.1, .int .i64 y.2.1, .int .i64 y.2.2.1, .int .i64 y.2.2.2.1, .string y.2.2.2.2] 93)) (.cells #[.int .i64 y.1, .int .i64 y.2.1, .int .i64 y.2.2.1, .int .i64 y.2.2.2.1, .string y.2.2.2.2] 93)
            rw [World.size_alloc] at h9
            exact h9
          case one => simp [Value.oneCell']
          case c3 => unfold maxLen; omega
          case c4 => omega
          case c5 =>
            have hsz3 := HG3.out.below.size
            simp at hsz3 ⊢; omega
          rintro g c9 w' ho hg hgl hlt2
          have HG4 := Lib.hid (RG.app HG3.out ho hg)
          have hvl : (acc ++ [y]).length = acc.length + 1 := by simp
          have HVL := Lib.hid hvl
          have HG5 : Hid (RG 93 5 w (.slice (some ⟨g, 0, none⟩) (acc.length + 1) c9) (acc ++ [y]).length (L2.rcells (acc ++ [y])) w') := by unfold Hid; rw [hvl, L2.rcells_append]; exact HG4.out
          clear ho hg hgl HG4 HG3 hvl
          go_wp2_with fail
          go_roundw
          case rel => exact ⟨acc.length + 1, acc ++ [y], by omega, by go_num, HVL.out, HG5, HN2.out, HI2.out⟩
          case measure => simp [intOf]; omega
      · have hvn : acc.length = l.length := by omega
        have hr : r = some acc := by rw [← HA.out, List.drop_of_length_le (by omega), addM_end]
        subst hr
        have HD := Lib.hid (And.intro (rg_rows HG.out) (And.intro HG.out.fresh HI.out))
        have HBZ := Lib.hid HG.out.below
        clear HA HG HI H3 hvn
        go_wp2
        go_ret2
        exact ⟨HBZ.out, _, rfl, HD.out.1, HD.out.2⟩
  · have hr : r = none := by rw [← HR.out, list_not hno]
    subst hr
    clear HR hno h hln
    go_enter Tryz.func63, Tryz.ntmps63
    go_wp2
    go_ret2
    exact ⟨Below.refl _ _, rfl⟩

set_option maxRecDepth 100000 in
set_option maxHeartbeats 4000000 in
theorem readList62 (d : Nat) (sv : Value) (sh : Sh) (w : World) (h : ShAt w w.heap.size d sv sh) (hln : ∀ l, sh = .list l → l.length ≤ 100000) :
    Calls Tryz.prog 156 #[sv, .func (.func 157) #[] #[]] w (KidsTo w (listM kidM sh)) := by
  obtain ⟨i0, hi, hz0, hz1, hz2⟩ := info55
  obtain ⟨r, hr⟩ : ∃ r, listM kidM sh = r := ⟨_, rfl⟩
  rw [hr]
  have HR := Lib.hid hr
  clear hr
  rcases as_lst h with ⟨l, A, cap, rfl, hla, hta⟩ | ⟨hno, hta⟩
  · have hll := hln l rfl
    have HR2 : Hid (addM [] (allM kidM (l.drop 0)) = r) := by unfold Hid; rw [addM_nil]; exact HR.out
    obtain ⟨d', rfl⟩ : ∃ d', d = d' + 1 := by
      cases d with
      | zero => exact hla.elim
      | succ d' => exact ⟨d', rfl⟩
    have hla0 := hla
    obtain ⟨A', cap', e', h1, h2, h3⟩ := hla0
    injection e' with e1 e2 e3
    subst e1 e3
    have H3 := Lib.hid h3
    unfold maxLen at h2
    have HRG : Hid (RG 95 2 w (.slice none 0 0) ([] : List Kd).length (kidsC []) w) := RG.start 95 2 w
    clear h hla h3 e2 hln HR
    go_enter Tryz.func156, Tryz.ntmps156
    go_wp2_with fail
    go_loopw [8, 22] (fun s8 s22 wr => ∃ (k : Nat) (acc : List Kd), k ≤ l.length ∧ s22 = .int .i64 k ∧ acc.length = k ∧ Hid (RG 95 2 w s8 acc.length (kidsC acc) wr) ∧ Hid (addM acc (allM kidM (l.drop k)) = r) ∧ Hid (∀ x ∈ acc, 0 ≤ x.f ∧ x.f ≤ 255)) (fun _ s22 _ => l.length - (intOf s22).toNat)
    case atStart => exact ⟨0, [], Nat.zero_le _, rfl, rfl, HRG.out, HR2.out, by intro x hx; cases hx⟩
    case round =>
      obtain ⟨k, acc, hk, rfl, rfl, HG, HA, HI⟩ := hrel
      clear HRG HR2
      obtain ⟨A1, c1, hA1⟩ := HG.out.slice
      subst hA1
      by_cases hlt : acc.length < l.length
      · obtain ⟨b, o, rfl, hb, hrw⟩ := H3.out (by omega)
        obtain ⟨ui, hrow, hwf, hsub⟩ := hrw acc.length hlt
        have hd := L2.drop_get l acc.length hlt
        obtain ⟨x0, x1, x2, x3⟩ := hrow.keep fun o => HG.out.below.cell (p := ⟨b, o, none⟩) hb
        have HSUB := Lib.hid hsub
        have hbl : b < wr.heap.size := Nat.lt_of_lt_of_le hb HG.out.below.size
        clear hrw hrow hwf hsub
        generalize l[acc.length] = x at x0 x1 x2 x3 HSUB hd
        have HB1 : Hid (∀ {y}, kidM x = some y → addM (acc ++ [y]) (allM kidM (l.drop (acc.length + 1))) = r) := fun hy => by rw [← HA.out, hd, addM_cons hy]
        have HB2 : Hid (kidM x = none → r = none) := fun hy => by rw [← HA.out, hd, addM_bad hy]
        clear hd HA
        obtain ⟨xk, xn, xs, xl⟩ := x
        simp only [L4.k_mk, L4.n_mk, L4.s_mk, L4.l_mk] at x0 x1 x2 x3 HSUB
        obtain ⟨Ai, ci, rfl⟩ := HSUB.out.slice
        have hW1 : Below wr.heap.size wr (wr.alloc (.cells #[.int .i64 xk, .int .i64 xn, .string xs, .slice Ai xl.length ci] 38)) := (Below.refl _ _).alloc (Nat.le_refl _) _
        have HW1 := Lib.hid hW1
        have HS2 := Lib.hid (readKid63 d' xk xn xs xl (.slice Ai xl.length ci) (wr.alloc (.cells #[.int .i64 xk, .int .i64 xn, .string xs, .slice Ai xl.length ci] 38)) ((HSUB.out.below (HG.out.below.trans (hW1.mono HG.out.below.size))).more (Nat.le_trans HG.out.below.size hW1.size)))
        have HWF := Lib.hid (lat_wf HSUB.out)
        clear hW1 HSUB
        obtain ⟨y, hy⟩ : ∃ y, kidM (.mk xk xn xs xl) = y := ⟨_, rfl⟩
        have HM := Lib.hid hy
        rw [hy] at HS2
        clear hy
        cases y with
        | none =>
          go_wp2_with fail
          refine HS2.out.mono ?_
          rintro _ w3 ⟨hb3, ⟨x9, s9, rfl⟩⟩
          have hbb := Lib.hid (HG.out.below.trans ((HW1.out.trans (hb3.mono HW1.out.size)).mono HG.out.below.size))
          have hr : r = none := HB2.out HM.out
          subst hr
          clear HB1 HB2 HG HS2
          go_wp2
          go_ret2
          first | exact ⟨hbb.out, rfl⟩ | exact ⟨hbb.out.alloc hbb.out.size _, rfl⟩
        | some y =>
          go_wp2_with fail
          refine HS2.out.mono ?_
          rintro _ w3 ⟨hb3, rfl⟩
          have hbb := Lib.hid (HW1.out.trans (hb3.mono HW1.out.size))
          have HG3 := Lib.hid ((HG.out.step hbb.out).step ((Below.refl _ w3).alloc (Nat.le_refl _) (.cells #[.int .u8 y.f, .string y.id] 95)))
          have HN2 := Lib.hid (HB1.out HM.out)
          have HI2 : Hid (∀ x ∈ acc ++ [y], 0 ≤ x.f ∧ x.f ≤ 255) := by
            intro x hx
            rcases List.mem_append.1 hx with hx | hx
            · exact HI.out x hx
            · rw [List.mem_singleton] at hx
              subst hx
              exact (kid_back HM.out).2
          clear HG hb3 HW1 HS2 hbb x0 x1 x2 x3 HB1 HB2 HM HI HWF
          go_wp2_with (at_builtin; go_must (refine wpList_append_lies _ rfl _ _ 24 rfl w.heap.size 95 i0 _ 2 24 Tryz.underlying24 hi hz0 hz1 hz2 rfl (by omega) _ acc.length (kidsC acc) rfl ?own ⟨w3.heap.size + 1, 0, none⟩ 1 1 [.int .u8 y.f, .string y.id] rfl rfl ?news ?one (by omega) ?c3 ?c4 ?c5 _ rfl ?_))
          case own => exact World.ownsRow.alloc HG3.out.own _
          case news =>
            refine World.news_of_block (cs := #[.int .u8 y.f, .string y.id]) (t := 95) (fr := (0, 0)) ?_
            have h9 := heap_alloc_new (w3.alloc (.cells #[.int .u8 y.f, .string y.id] 95)) (.cells #[.int .u8 y.f, .string y.id] 95)
            rw [World.size_alloc] at h9
            exact h9
          case one => simp [Value.oneCell']
          case c3 => unfold maxLen; omega
          case c4 => omega
          case c5 =>
            have hsz3 := HG3.out.below.size
            simp at hsz3 ⊢; omega
          rintro g c9 w' ho hg hgl hlt2
          have HG4 := Lib.hid (RG.app HG3.out ho hg)
          have hvl : (acc ++ [y]).length = acc.length + 1 := by simp
          have HVL := Lib.hid hvl
          have HG5 : Hid (RG 95 2 w (.slice (some ⟨g, 0, none⟩) (acc.length + 1) c9) (acc ++ [y]).length (kidsC (acc ++ [y])) w') := by unfold Hid; rw [hvl, kidsC_append]; exact HG4.out
          clear ho hg hgl HG4 HG3 hvl
          go_wp2_with fail
          go_roundw
          case rel => exact ⟨acc.length + 1, acc ++ [y], by omega, by go_num, HVL.out, HG5, HN2.out, HI2.out⟩
          case measure => simp [intOf]; omega
      · have hvn : acc.length = l.length := by omega
        have hr : r = some acc := by rw [← HA.out, List.drop_of_length_le (by omega), addM_end]
        subst hr
        have HD := Lib.hid (And.intro (rg_kids HG.out HI.out) HG.out.fresh)
        have HBZ := Lib.hid HG.out.below
        clear HA HG HI H3 hvn
        go_wp2
        go_ret2
        exact ⟨HBZ.out, _, rfl, HD.out.1, HD.out.2⟩
  · have hr : r = none := by rw [← HR.out, list_not hno]
    subst hr
    clear HR hno h hln
    go_enter Tryz.func156, Tryz.ntmps156
    go_wp2
    go_ret2
    exact ⟨Below.refl _ _, rfl⟩

set_option maxRecDepth 100000 in
set_option maxHeartbeats 4000000 in
theorem readList64 (d : Nat) (sv : Value) (sh : Sh) (w : World) (h : ShAt w w.heap.size d sv sh) (hln : ∀ l, sh = .list l → l.length ≤ 100000) :
    Calls Tryz.prog 158 #[sv, .func (.func 159) #[] #[]] w (TxtsTo w (listM textM sh)) := by
  obtain ⟨i0, hi, hz0, hz1, hz2⟩ := info9
  obtain ⟨r, hr⟩ : ∃ r, listM textM sh = r := ⟨_, rfl⟩
  rw [hr]
  have HR := Lib.hid hr
  clear hr
  rcases as_lst h with ⟨l, A, cap, rfl, hla, hta⟩ | ⟨hno, hta⟩
  · have hll := hln l rfl
    have HR2 : Hid (addM [] (allM textM (l.drop 0)) = r) := by unfold Hid; rw [addM_nil]; exact HR.out
    obtain ⟨d', rfl⟩ : ∃ d', d = d' + 1 := by
      cases d with
      | zero => exact hla.elim
      | succ d' => exact ⟨d', rfl⟩
    have hla0 := hla
    obtain ⟨A', cap', e', h1, h2, h3⟩ := hla0
    injection e' with e1 e2 e3
    subst e1 e3
    have H3 := Lib.hid h3
    unfold maxLen at h2
    have HRG : Hid (RG 9 1 w (.slice none 0 0) ([] : List ByteArray).length (txtsC []) w) := RG.start 9 1 w
    clear h hla h3 e2 hln HR
    go_enter Tryz.func158, Tryz.ntmps158
    go_wp2_with fail
    go_loopw [8, 22] (fun s8 s22 wr => ∃ (k : Nat) (acc : List ByteArray), k ≤ l.length ∧ s22 = .int .i64 k ∧ acc.length = k ∧ Hid (RG 9 1 w s8 acc.length (txtsC acc) wr) ∧ Hid (addM acc (allM textM (l.drop k)) = r) ∧ Hid (∀ x ∈ acc, True)) (fun _ s22 _ => l.length - (intOf s22).toNat)
    case atStart => exact ⟨0, [], Nat.zero_le _, rfl, rfl, HRG.out, HR2.out, by intro x hx; cases hx⟩
    case round =>
      obtain ⟨k, acc, hk, rfl, rfl, HG, HA, HI⟩ := hrel
      clear HRG HR2
      obtain ⟨A1, c1, hA1⟩ := HG.out.slice
      subst hA1
      by_cases hlt : acc.length < l.length
      · obtain ⟨b, o, rfl, hb, hrw⟩ := H3.out (by omega)
        obtain ⟨ui, hrow, hwf, hsub⟩ := hrw acc.length hlt
        have hd := L2.drop_get l acc.length hlt
        obtain ⟨x0, x1, x2, x3⟩ := hrow.keep fun o => HG.out.below.cell (p := ⟨b, o, none⟩) hb
        have HSUB := Lib.hid hsub
        have hbl : b < wr.heap.size := Nat.lt_of_lt_of_le hb HG.out.below.size
        clear hrw hrow hwf hsub
        generalize l[acc.length] = x at x0 x1 x2 x3 HSUB hd
        have HB1 : Hid (∀ {y}, textM x = some y → addM (acc ++ [y]) (allM textM (l.drop (acc.length + 1))) = r) := fun hy => by rw [← HA.out, hd, addM_cons hy]
        have HB2 : Hid (textM x = none → r = none) := fun hy => by rw [← HA.out, hd, addM_bad hy]
        clear hd HA
        obtain ⟨xk, xn, xs, xl⟩ := x
        simp only [L4.k_mk, L4.n_mk, L4.s_mk, L4.l_mk] at x0 x1 x2 x3 HSUB
        obtain ⟨Ai, ci, rfl⟩ := HSUB.out.slice
        have hW1 : Below wr.heap.size wr (wr.alloc (.cells #[.int .i64 xk, .int .i64 xn, .string xs, .slice Ai xl.length ci] 38)) := (Below.refl _ _).alloc (Nat.le_refl _) _
        have HW1 := Lib.hid hW1
        have HS2 := Lib.hid (readText65 d' xk xn xs xl (.slice Ai xl.length ci) (wr.alloc (.cells #[.int .i64 xk, .int .i64 xn, .string xs, .slice Ai xl.length ci] 38)) ((HSUB.out.below (HG.out.below.trans (hW1.mono HG.out.below.size))).more (Nat.le_trans HG.out.below.size hW1.size)))
        have HWF := Lib.hid (lat_wf HSUB.out)
        clear hW1 HSUB
        obtain ⟨q, hq⟩ : ∃ q, isTxt (shOf (.mk xk xn xs xl)) = q := ⟨_, rfl⟩
        obtain ⟨y, hy⟩ : ∃ y, txtV (shOf (.mk xk xn xs xl)) = y := ⟨_, rfl⟩
        rw [hq, hy] at HS2
        cases q with
        | false =>
          have HM : Hid (textM (.mk xk xn xs xl) = none) := by
            unfold Hid textM
            cases hs : shOf (.mk xk xn xs xl) <;> (first | rfl | (rw [hs] at hq; cases hq))
          clear hq hy
          go_wp2_with fail
          refine HS2.out.mono ?_
          rintro _ w3 ⟨rfl, hb3⟩
          have hbb := Lib.hid (HG.out.below.trans ((HW1.out.trans (hb3.mono HW1.out.size)).mono HG.out.below.size))
          have hr : r = none := HB2.out HM.out
          subst hr
          clear HB1 HB2 HG HS2
          go_wp2
          go_ret2
          first | exact ⟨hbb.out, rfl⟩ | exact ⟨hbb.out.alloc hbb.out.size _, rfl⟩
        | true =>
          have HM : Hid (textM (.mk xk xn xs xl) = some y) := by
            unfold Hid textM
            cases hs : shOf (.mk xk xn xs xl) <;> (first | (rw [hs] at hq; cases hq; done) | (rw [hs] at hy; rw [← hy]; rfl))
          clear hq hy
          go_wp2_with fail
          refine HS2.out.mono ?_
          rintro _ w3 ⟨rfl, hb3⟩
          have hbb := Lib.hid (HW1.out.trans (hb3.mono HW1.out.size))
          have HG3 := Lib.hid ((HG.out.step hbb.out))
          have HN2 := Lib.hid (HB1.out HM.out)
          have HI2 : Hid (∀ x ∈ acc ++ [y], True) := by
            intro x hx
            rcases List.mem_append.1 hx with hx | hx
            · exact HI.out x hx
            · rw [List.mem_singleton] at hx
              subst hx
              exact trivial
          clear HG hb3 HW1 HS2 hbb x0 x1 x2 x3 HB1 HB2 HM HI HWF
          go_wp2_with (at_builtin; go_must (refine wpList_append_lies _ rfl _ _ 25 rfl w.heap.size 9 i0 _ 1 16 Tryz.underlying25 hi hz0 hz1 hz2 rfl (by omega) _ acc.length (txtsC acc) rfl ?own ⟨w3.heap.size, 0, none⟩ 1 1 [.string y] rfl rfl ?news ?one (by omega) ?c3 ?c4 ?c5 _ rfl ?_))
          case own => exact World.ownsRow.alloc HG3.out.own _
          case news =>
            refine World.news_of_block (cs := #[.string y]) (t := 9) (fr := (0, 0)) ?_
            have h9 := heap_alloc_new w3 (.cells #[.string y] 9)
            skip
            exact h9
          case one => simp [Value.oneCell']
          case c3 => unfold maxLen; omega
          case c4 => omega
          case c5 =>
            have hsz3 := HG3.out.below.size
            simp at hsz3 ⊢; omega
          rintro g c9 w' ho hg hgl hlt2
          have HG4 := Lib.hid (RG.app HG3.out ho hg)
          have hvl : (acc ++ [y]).length = acc.length + 1 := by simp
          have HVL := Lib.hid hvl
          have HG5 : Hid (RG 9 1 w (.slice (some ⟨g, 0, none⟩) (acc.length + 1) c9) (acc ++ [y]).length (txtsC (acc ++ [y])) w') := by unfold Hid; rw [hvl, txtsC_append]; exact HG4.out
          clear ho hg hgl HG4 HG3 hvl
          go_wp2_with fail
          go_roundw
          case rel => exact ⟨acc.length + 1, acc ++ [y], by omega, by go_num, HVL.out, HG5, HN2.out, HI2.out⟩
          case measure => simp [intOf]; omega
      · have hvn : acc.length = l.length := by omega
        have hr : r = some acc := by rw [← HA.out, List.drop_of_length_le (by omega), addM_end]
        subst hr
        have HD := Lib.hid (And.intro (rg_txts HG.out) HG.out.fresh)
        have HBZ := Lib.hid HG.out.below
        clear HA HG HI H3 hvn
        go_wp2
        go_ret2
        exact ⟨HBZ.out, _, rfl, HD.out.1, HD.out.2⟩
  · have hr : r = none := by rw [← HR.out, list_not hno]
    subst hr
    clear HR hno h hln
    go_enter Tryz.func158, Tryz.ntmps158
    go_wp2
    go_ret2
    exact ⟨Below.refl _ _, rfl⟩
end Go.Proofs.YtjanddnlhaionaaGreatDoor
