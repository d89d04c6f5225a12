/-
  Contract of the document's Clip. No condition.
-/
import Derived.Test.YtecefhoinggmgaaPE
import Derived.Test.YtecefhoinggmgaaSS
import Derived.Test.YtecefhoinggmgaaTA
namespace Go.Proofs.Ytecefhoinggmgaa
open Go.RowKit

set_option maxHeartbeats 1000000 in
theorem refClip21 (l : List Row) (f t : Int) (lv : Value) (w : World) (hl : RowsAt w w.heap.size lv l) :
    Calls Try.prog 21 #[lv, .int .i64 f, .int .i64 t] w fun e w' => ∃ v, e = .returned v ∧ OwnR w' w.heap.size v (if rowsOK l then l.filterMap (clipO f t) else []) ∧ Below w.heap.size w w' := by
  have HR := Lib.hid (right30 l lv w hl)
  have HL := Lib.hid hl
  obtain ⟨A, cap, rfl, h1, h2, h3⟩ := hl
  unfold maxLen at h2
  cases hok : rowsOK l with
  | false =>
    rw [hok] at HR
    clear hok h3
    go_enter Try.func21, Try.ntmps21
    go_wp2_with fail
    refine HR.out.mono ?_
    rintro e w1 ⟨rfl, hb1⟩
    have HB1 := Lib.hid hb1
    clear hb1
    go_wp2
    go_ret
    exact ⟨_, rfl, OwnR.nil _ _, HB1.out⟩
  | true =>
    rw [hok] at HR
    obtain ⟨ans, hans⟩ : ∃ ans, (if true = true then l.filterMap (clipO f t) else []) = ans := ⟨_, rfl⟩
    rw [hans]
    have HANS : Hid (l.filterMap (clipO f t) = ans) := hans
    have hl64 : l.length ≤ 64 := ((rowsOK_iff l).1 hok).1
    clear hok hans
    go_enter Try.func21, Try.ntmps21
    go_wp2_with fail
    refine HR.out.mono ?_
    rintro e w1 ⟨rfl, hb1⟩
    have HB1 := Lib.hid hb1
    have HL1 := Lib.hid (HL.out.step hb1)
    clear hb1 HR
    go_wp2
    go_loopw [7, 8] (fun s7 i wr => ∃ k : Nat, k ≤ l.length ∧ i = .int .i64 k ∧ OwnR wr w.heap.size s7 ((l.take k).filterMap (clipO f t)) ∧ Hid (Below w.heap.size w wr)) (fun _ i _ => l.length - (intOf i).toNat)
    case atStart => exact ⟨0, Nat.zero_le _, rfl, OwnR.nil _ _, HB1⟩
    case round =>
      obtain ⟨k, hk, rfl, hown, HBW⟩ := hrel
      obtain ⟨out, hout⟩ : ∃ out, (l.take k).filterMap (clipO f t) = out := ⟨_, rfl⟩
      rw [hout] at hown
      have hol : out.length ≤ 64 := by
        rw [← hout]
        have := List.length_filterMap_le (clipO f t) (l.take k)
        rw [List.length_take] at this
        omega
      have HOUT := Lib.hid hout
      have HO := Lib.hid hown
      obtain ⟨sA, sc, rfl⟩ := HO.out.slice
      clear hout hown
      by_cases hlt : k < l.length
      · obtain ⟨b, o, rfl, hb, hr⟩ := h3 (by omega)
        have hrk := (hr k hlt).below HBW.out hb
        have HTK := Lib.hid (List.take_succ_eq_append_getElem hlt)
        clear hr h3
        generalize l[k] = r at hrk HTK
        obtain ⟨rf, re, rk, rn, rs⟩ := r
        obtain ⟨c0, c1, c2, c3, c4⟩ := hrk
        simp only at c0 c1 c2 c3 c4
        have hbw : b < wr.heap.size := Nat.lt_of_lt_of_le hb HBW.out.size
        have hws : w.heap.size ≤ wr.heap.size := HBW.out.size
        by_cases hm1 : rf < f
        · by_cases hm2 : t < re
          · have HCL : Hid (clipO f t (rf, re, rk, rn, rs) = if f < t then some (f, t, rk, rn, rs) else none) := by
              unfold Hid clipO clip1
              simp only
              rw [show max rf f = f by omega, show min re t = t by omega]
            go_wp2_with fail
            go_quiet (fail)
            have HOX := Lib.hid (HO.out.below (below_drewN (Below.refl _ wr) nq))
            have HBX := Lib.hid (below_drewN HBW.out nq)
            have c2' : (wr.drewN nq).cell? ⟨b, o + k * 5 + 2, none⟩ = some (.int .i64 rk) := c2
            have c3' : (wr.drewN nq).cell? ⟨b, o + k * 5 + 3, none⟩ = some (.int .i64 rn) := c3
            have c4' : (wr.drewN nq).cell? ⟨b, o + k * 5 + 4, none⟩ = some (.string rs) := c4
            clear c0 c1 c2 c3 c4
            generalize wr.drewN nq = X at HOX HBX c2' c3' c4' ⊢
            by_cases hm : f < t
            · have HN : Hid ((l.take (k + 1)).filterMap (clipO f t) = out ++ [(f, t, rk, rn, rs)]) := by
                unfold Hid
                rw [HTK.out, List.filterMap_append, HOUT.out, List.filterMap_cons, HCL.out, if_pos hm]; rfl
              have hbm := below_new X (.cells #[.int .i64 (f), .int .i64 (t), .int .i64 rk, .int .i64 rn, .string rs] 52)
              have HLT := Lib.hid ((rows_lit1 X f t rk rn rs).more (show X.heap.size + 1 ≤ (X.alloc (.cells #[.int .i64 (f), .int .i64 (t), .int .i64 rk, .int .i64 rn, .string rs] 52)).heap.size by simp))
              have HO4 := Lib.hid (HOX.out.below hbm)
              have HSZ := Lib.hid (Nat.le_trans HBX.out.size hbm.size)
              have HBM := Lib.hid (HBX.out.trans (hbm.mono HBX.out.size))
              clear hbm
              go_wp2_with (at_builtin; go_must (refine wpList_append_rows rfl _ _ rfl w.heap.size _ _ out [(f, t, rk, rn, rs)] rfl rfl HO4.out HSZ.out HLT.out (by simp <;> omega) ?_))
              rintro v5 w5 ho5 hg5 hat5
              have HB5 : Hid (Below w.heap.size w w5) := HBM.out.trans (below_grown HO4.out HSZ.out hg5)
              have HO5 := Lib.hid ho5
              obtain ⟨A5, c5, rfl⟩ := HO5.out.slice
              clear ho5 hg5 hat5
              go_wp2
              go_roundw
              case rel => exact ⟨k + 1, by omega, by go_num, by rw [HN.out]; exact HO5.out, HB5⟩
              case measure => simp [intOf]; omega
            · have HN : Hid ((l.take (k + 1)).filterMap (clipO f t) = out) := by
                unfold Hid
                rw [HTK.out, List.filterMap_append, HOUT.out, List.filterMap_cons, HCL.out, if_neg hm]
                simp
              go_wp2
              go_roundw
              case rel => exact ⟨k + 1, by omega, by go_num, by rw [HN.out]; exact HOX.out, HBX⟩
              case measure => simp [intOf]; omega
          · have HCL : Hid (clipO f t (rf, re, rk, rn, rs) = if f < re then some (f, re, rk, rn, rs) else none) := by
              unfold Hid clipO clip1
              simp only
              rw [show max rf f = f by omega, show min re t = re by omega]
            go_wp2_with fail
            go_quiet (fail)
            have HOX := Lib.hid (HO.out.below (below_drewN (Below.refl _ wr) nq))
            have HBX := Lib.hid (below_drewN HBW.out nq)
            have c2' : (wr.drewN nq).cell? ⟨b, o + k * 5 + 2, none⟩ = some (.int .i64 rk) := c2
            have c3' : (wr.drewN nq).cell? ⟨b, o + k * 5 + 3, none⟩ = some (.int .i64 rn) := c3
            have c4' : (wr.drewN nq).cell? ⟨b, o + k * 5 + 4, none⟩ = some (.string rs) := c4
            clear c0 c1 c2 c3 c4
            generalize wr.drewN nq = X at HOX HBX c2' c3' c4' ⊢
            by_cases hm : f < re
            · have HN : Hid ((l.take (k + 1)).filterMap (clipO f t) = out ++ [(f, re, rk, rn, rs)]) := by
                unfold Hid
                rw [HTK.out, List.filterMap_append, HOUT.out, List.filterMap_cons, HCL.out, if_pos hm]; rfl
              have hbm := below_new X (.cells #[.int .i64 (f), .int .i64 (re), .int .i64 rk, .int .i64 rn, .string rs] 52)
              have HLT := Lib.hid ((rows_lit1 X f re rk rn rs).more (show X.heap.size + 1 ≤ (X.alloc (.cells #[.int .i64 (f), .int .i64 (re), .int .i64 rk, .int .i64 rn, .string rs] 52)).heap.size by simp))
              have HO4 := Lib.hid (HOX.out.below hbm)
              have HSZ := Lib.hid (Nat.le_trans HBX.out.size hbm.size)
              have HBM := Lib.hid (HBX.out.trans (hbm.mono HBX.out.size))
              clear hbm
              go_wp2_with (at_builtin; go_must (refine wpList_append_rows rfl _ _ rfl w.heap.size _ _ out [(f, re, rk, rn, rs)] rfl rfl HO4.out HSZ.out HLT.out (by simp <;> omega) ?_))
              rintro v5 w5 ho5 hg5 hat5
              have HB5 : Hid (Below w.heap.size w w5) := HBM.out.trans (below_grown HO4.out HSZ.out hg5)
              have HO5 := Lib.hid ho5
              obtain ⟨A5, c5, rfl⟩ := HO5.out.slice
              clear ho5 hg5 hat5
              go_wp2
              go_roundw
              case rel => exact ⟨k + 1, by omega, by go_num, by rw [HN.out]; exact HO5.out, HB5⟩
              case measure => simp [intOf]; omega
            · have HN : Hid ((l.take (k + 1)).filterMap (clipO f t) = out) := by
                unfold Hid
                rw [HTK.out, List.filterMap_append, HOUT.out, List.filterMap_cons, HCL.out, if_neg hm]
                simp
              go_wp2
              go_roundw
              case rel => exact ⟨k + 1, by omega, by go_num, by rw [HN.out]; exact HOX.out, HBX⟩
              case measure => simp [intOf]; omega
        · by_cases hm2 : t < re
          · have HCL : Hid (clipO f t (rf, re, rk, rn, rs) = if rf < t then some (rf, t, rk, rn, rs) else none) := by
              unfold Hid clipO clip1
              simp only
              rw [show max rf f = rf by omega, show min re t = t by omega]
            go_wp2_with fail
            go_quiet (fail)
            have HOX := Lib.hid (HO.out.below (below_drewN (Below.refl _ wr) nq))
            have HBX := Lib.hid (below_drewN HBW.out nq)
            have c2' : (wr.drewN nq).cell? ⟨b, o + k * 5 + 2, none⟩ = some (.int .i64 rk) := c2
            have c3' : (wr.drewN nq).cell? ⟨b, o + k * 5 + 3, none⟩ = some (.int .i64 rn) := c3
            have c4' : (wr.drewN nq).cell? ⟨b, o + k * 5 + 4, none⟩ = some (.string rs) := c4
            clear c0 c1 c2 c3 c4
            generalize wr.drewN nq = X at HOX HBX c2' c3' c4' ⊢
            by_cases hm : rf < t
            · have HN : Hid ((l.take (k + 1)).filterMap (clipO f t) = out ++ [(rf, t, rk, rn, rs)]) := by
                unfold Hid
                rw [HTK.out, List.filterMap_append, HOUT.out, List.filterMap_cons, HCL.out, if_pos hm]; rfl
              have hbm := below_new X (.cells #[.int .i64 (rf), .int .i64 (t), .int .i64 rk, .int .i64 rn, .string rs] 52)
              have HLT := Lib.hid ((rows_lit1 X rf t rk rn rs).more (show X.heap.size + 1 ≤ (X.alloc (.cells #[.int .i64 (rf), .int .i64 (t), .int .i64 rk, .int .i64 rn, .string rs] 52)).heap.size by simp))
              have HO4 := Lib.hid (HOX.out.below hbm)
              have HSZ := Lib.hid (Nat.le_trans HBX.out.size hbm.size)
              have HBM := Lib.hid (HBX.out.trans (hbm.mono HBX.out.size))
              clear hbm
              go_wp2_with (at_builtin; go_must (refine wpList_append_rows rfl _ _ rfl w.heap.size _ _ out [(rf, t, rk, rn, rs)] rfl rfl HO4.out HSZ.out HLT.out (by simp <;> omega) ?_))
              rintro v5 w5 ho5 hg5 hat5
              have HB5 : Hid (Below w.heap.size w w5) := HBM.out.trans (below_grown HO4.out HSZ.out hg5)
              have HO5 := Lib.hid ho5
              obtain ⟨A5, c5, rfl⟩ := HO5.out.slice
              clear ho5 hg5 hat5
              go_wp2
              go_roundw
              case rel => exact ⟨k + 1, by omega, by go_num, by rw [HN.out]; exact HO5.out, HB5⟩
              case measure => simp [intOf]; omega
            · have HN : Hid ((l.take (k + 1)).filterMap (clipO f t) = out) := by
                unfold Hid
                rw [HTK.out, List.filterMap_append, HOUT.out, List.filterMap_cons, HCL.out, if_neg hm]
                simp
              go_wp2
              go_roundw
              case rel => exact ⟨k + 1, by omega, by go_num, by rw [HN.out]; exact HOX.out, HBX⟩
              case measure => simp [intOf]; omega
          · have HCL : Hid (clipO f t (rf, re, rk, rn, rs) = if rf < re then some (rf, re, rk, rn, rs) else none) := by
              unfold Hid clipO clip1
              simp only
              rw [show max rf f = rf by omega, show min re t = re by omega]
            go_wp2_with fail
            go_quiet (fail)
            have HOX := Lib.hid (HO.out.below (below_drewN (Below.refl _ wr) nq))
            have HBX := Lib.hid (below_drewN HBW.out nq)
            have c2' : (wr.drewN nq).cell? ⟨b, o + k * 5 + 2, none⟩ = some (.int .i64 rk) := c2
            have c3' : (wr.drewN nq).cell? ⟨b, o + k * 5 + 3, none⟩ = some (.int .i64 rn) := c3
            have c4' : (wr.drewN nq).cell? ⟨b, o + k * 5 + 4, none⟩ = some (.string rs) := c4
            clear c0 c1 c2 c3 c4
            generalize wr.drewN nq = X at HOX HBX c2' c3' c4' ⊢
            by_cases hm : rf < re
            · have HN : Hid ((l.take (k + 1)).filterMap (clipO f t) = out ++ [(rf, re, rk, rn, rs)]) := by
                unfold Hid
                rw [HTK.out, List.filterMap_append, HOUT.out, List.filterMap_cons, HCL.out, if_pos hm]; rfl
              have hbm := below_new X (.cells #[.int .i64 (rf), .int .i64 (re), .int .i64 rk, .int .i64 rn, .string rs] 52)
              have HLT := Lib.hid ((rows_lit1 X rf re rk rn rs).more (show X.heap.size + 1 ≤ (X.alloc (.cells #[.int .i64 (rf), .int .i64 (re), .int .i64 rk, .int .i64 rn, .string rs] 52)).heap.size by simp))
              have HO4 := Lib.hid (HOX.out.below hbm)
              have HSZ := Lib.hid (Nat.le_trans HBX.out.size hbm.size)
              have HBM := Lib.hid (HBX.out.trans (hbm.mono HBX.out.size))
              clear hbm
              go_wp2_with (at_builtin; go_must (refine wpList_append_rows rfl _ _ rfl w.heap.size _ _ out [(rf, re, rk, rn, rs)] rfl rfl HO4.out HSZ.out HLT.out (by simp <;> omega) ?_))
              rintro v5 w5 ho5 hg5 hat5
              have HB5 : Hid (Below w.heap.size w w5) := HBM.out.trans (below_grown HO4.out HSZ.out hg5)
              have HO5 := Lib.hid ho5
              obtain ⟨A5, c5, rfl⟩ := HO5.out.slice
              clear ho5 hg5 hat5
              go_wp2
              go_roundw
              case rel => exact ⟨k + 1, by omega, by go_num, by rw [HN.out]; exact HO5.out, HB5⟩
              case measure => simp [intOf]; omega
            · have HN : Hid ((l.take (k + 1)).filterMap (clipO f t) = out) := by
                unfold Hid
                rw [HTK.out, List.filterMap_append, HOUT.out, List.filterMap_cons, HCL.out, if_neg hm]
                simp
              go_wp2
              go_roundw
              case rel => exact ⟨k + 1, by omega, by go_num, by rw [HN.out]; exact HOX.out, HBX⟩
              case measure => simp [intOf]; omega
      · have hkl : k = l.length := by omega
        subst hkl
        rw [List.take_length] at HOUT
        have he : out = ans := HOUT.out.symm.trans HANS.out
        subst he
        go_wp2
        go_ret
        exact ⟨_, rfl, HO.out, HBW.out⟩
end Go.Proofs.Ytecefhoinggmgaa
