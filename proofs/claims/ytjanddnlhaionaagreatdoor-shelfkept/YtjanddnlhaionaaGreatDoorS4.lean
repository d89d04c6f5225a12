/-
  The contract of the document's Same of cells. No condition.
-/
import Derived.Test.YtjanddnlhaionaaGreatDoorL4x0
set_option maxRecDepth 100000
namespace Go.Proofs.YtjanddnlhaionaaGreatDoor.L4
open Go.RowKit
set_option maxHeartbeats 1000000 in
theorem same15 (d : Nat) : ∀ (d' : Nat) (ak an : Int) (sa : ByteArray) (al : List C) (u : Value) (bk bn : Int) (sb : ByteArray) (bl : List C) (u' : Value) (w : World), LAt w w.heap.size d u al → LAt w w.heap.size d' u' bl →
    Calls Tryz.prog 17 #[.agg #[.int .i64 ak, .int .i64 an, .string sa, u], .agg #[.int .i64 bk, .int .i64 bn, .string sb, u']] w fun e w' => e = .returned (.bool (sameB (.mk ak an sa al) (.mk bk bn sb bl))) ∧ Below w.heap.size w w' := by
  induction d with
  | zero => intro d' ak an sa al u bk bn sb bl u' w h; exact h.elim
  | succ d ih =>
    intro d' ak an sa al u bk bn sb bl u' w h h'
    obtain ⟨d', rfl⟩ : ∃ e, d' = e + 1 := by cases d' with | zero => exact h'.elim | succ e => exact ⟨e, rfl⟩
    have HL := Lib.hid h
    have HL' := Lib.hid h'
    obtain ⟨A, cap, rfl, h1, h2, h3⟩ := h
    obtain ⟨A', cap', rfl, h1', h2', h3'⟩ := h'
    unfold maxLen at h2 h2'
    obtain ⟨q, hq⟩ : ∃ q, sameB (.mk ak an sa al) (.mk bk bn sb bl) = q := ⟨_, rfl⟩
    rw [hq]
    have HQ := Lib.hid hq
    have HB := Lib.hid (Box2.new w (.mk ak an sa al) (.slice A al.length cap) (.mk bk bn sb bl) (.slice A' bl.length cap'))
    have HIH := Lib.hid ih
    clear hq ih h3 h3'
    by_cases e1 : ¬ ak = bk
    · have hq0 : q = false := by rw [← HQ.out]; exact sameB_ne (fun e => by injection e; contradiction)
      subst hq0
      have e1' : (ak != bk) = true := by simpa using e1
      go_enter Tryz.func17, Tryz.ntmps17
      go_wp2_with fail
      go_ret
      exact ⟨rfl, HB.out.old⟩
    replace e1 := Decidable.not_not.1 e1
    by_cases e2 : ¬ an = bn
    · have hq0 : q = false := by rw [← HQ.out]; exact sameB_ne (fun e => by injection e; contradiction)
      subst hq0
      have e1' : (ak != bk) = false := by simpa using e1
      have e2' : (an != bn) = true := by simpa using e2
      subst e1
      go_enter Tryz.func17, Tryz.ntmps17
      go_wp2_with fail
      go_ret
      exact ⟨rfl, HB.out.old⟩
    replace e2 := Decidable.not_not.1 e2
    by_cases e3 : ¬ sa = sb
    · have hq0 : q = false := by rw [← HQ.out]; exact sameB_ne (fun e => by injection e; contradiction)
      subst hq0
      have e3' : ¬ sa.toList = sb.toList := fun e => e3 (bytes_ext e)
      subst e1 e2
      go_enter Tryz.func17, Tryz.ntmps17
      go_wp2_with fail
      go_ret
      exact ⟨rfl, HB.out.old⟩
    replace e3 := Classical.not_not.1 e3
    subst e1 e2 e3
    by_cases e4 : ¬ al.length = bl.length
    · have hq0 : q = false := by rw [← HQ.out]; exact sameB_ne (fun e => by injection e with _ _ _ e; exact e4 (by rw [e]))
      subst hq0
      have e4' : ((al.length : Int) != (bl.length : Int)) = true := by simp; omega
      go_enter Tryz.func17, Tryz.ntmps17
      go_wp2_with fail
      go_ret
      exact ⟨rfl, HB.out.old⟩
    replace e4 := Decidable.not_not.1 e4
    have e4' : ((al.length : Int) != (bl.length : Int)) = false := by simp; omega
    have HE := Lib.hid e4
    clear e4
    rw [Hid, sameB_mk] at HQ
    replace HQ := Lib.hid HQ
    go_enter Tryz.func17, Tryz.ntmps17
    go_wp2_with fail
    go_loopw [5] (fun s5 wr => ∃ (k : Nat), k ≤ al.length ∧ s5 = .int .i64 k ∧ Box2 w (.mk ak an sa al) (.slice A al.length cap) (.mk ak an sa bl) (.slice A' bl.length cap') wr ∧ Hid (sameLB (al.drop k) (bl.drop k) = q)) (fun s5 _ => al.length - (intOf s5).toNat)
    case atStart => exact ⟨0, Nat.zero_le _, rfl, HB.out, HQ.out⟩
    case round =>
      obtain ⟨k, hk, rfl, hbox, HK⟩ := hrel
      have b3 : wr.cell? ⟨w.heap.size, 3, none⟩ = some (.slice A al.length cap) := hbox.cell 3
      have b3' : wr.cell? ⟨w.heap.size + 1, 3, none⟩ = some (.slice A' bl.length cap') := hbox.cell' 3
      have HBX := Lib.hid hbox
      have hL2 := HL.out.step hbox.old
      have hL2' := HL'.out.step hbox.old
      have hsz := hbox.size
      clear hbox HB HL HL'
      by_cases hlt : k < al.length
      · have hlt' : k < bl.length := by have := HE.out; omega
        obtain ⟨A2, cap2, e', -, -, h3⟩ := hL2
        injection e' with e1 e2 e3
        subst e1 e3
        obtain ⟨A3, cap3, e', -, -, h3'⟩ := hL2'
        injection e' with e1 e2' e3
        subst e1 e3
        obtain ⟨b, o, rfl, hb, hr⟩ := h3 (by omega)
        obtain ⟨b', o', rfl, hb', hr'⟩ := h3' (by omega)
        have hd := drop_get al k hlt
        have hd' := drop_get bl k hlt'
        obtain ⟨u, hr, hwf, hsub⟩ := hr k hlt
        obtain ⟨u', hr', hwf', hsub'⟩ := hr' k hlt'
        generalize al[k] = x at hd hr hwf hsub
        generalize bl[k] = y at hd' hr' hwf' hsub'
        obtain ⟨xk, xn, xs, xl⟩ := x
        obtain ⟨yk, yn, ys, yl⟩ := y
        obtain ⟨c0, c1, c2, c3⟩ := hr
        obtain ⟨f0, f1, f2, f3⟩ := hr'
        simp only [k_mk, n_mk, s_mk, l_mk] at c0 c1 c2 c3 hsub f0 f1 f2 f3 hsub'
        have HCs := fun m => Lib.hid (HIH.out d' xk xn xs xl u yk yn ys yl u' (wr.drewN m) (hsub.step (below_drewN (Below.refl _ _) m)) (hsub'.step (below_drewN (Below.refl _ _) m)))
        have HS : Hid ((sameB (.mk xk xn xs xl) (.mk yk yn ys yl) && sameLB (al.drop (k + 1)) (bl.drop (k + 1))) = q) := by
          unfold Hid
          rw [← HK.out, hd, hd', sameLB_cons]
        generalize sameB (.mk xk xn xs xl) (.mk yk yn ys yl) = t at HCs HS
        clear h3 h3' e2 e2' hwf hwf' hd hd' HK hsub hsub'
        have HCC := Lib.hid HCs
        clear HCs
        cases t with
        | false =>
          have hq : q = false := by rw [← HS.out]; rfl
          subst hq
          go_wp2_with fail
          go_still_tail 10, (by kernel_rfl)
          change wpList _ _ _ _ _ (World.drew _)
          go_wp2_with fail
          refine ((HCC.out 1).out).mono ?_
          rintro e w' ⟨rfl, hbel⟩
          have HX := Lib.hid ((HBX.out.drewN 1).step hbel)
          clear hbel
          go_wp2_with fail
          go_ret
          exact ⟨rfl, HX.out.old⟩
        | true =>
          have HN : Hid (sameLB (al.drop (k + 1)) (bl.drop (k + 1)) = q) := by unfold Hid; rw [← HS.out]; simp
          clear HS
          go_wp2_with fail
          go_still_tail 10, (by kernel_rfl)
          change wpList _ _ _ _ _ (World.drew _)
          go_wp2_with fail
          refine ((HCC.out 1).out).mono ?_
          rintro e w' ⟨rfl, hbel⟩
          have HX := Lib.hid ((HBX.out.drewN 1).step hbel)
          clear hbel
          go_wp2_with fail
          go_roundw
          case rel => exact ⟨k + 1, by omega, by go_num, HX.out, HN.out⟩
          case measure => simp [intOf]; omega
      · have hq : q = true := by
          rw [← HK.out, List.drop_of_length_le (by omega), List.drop_of_length_le (by have := HE.out; omega)]; exact sameLB_iff.2 rfl
        subst hq
        clear HK
        go_wp2_with fail
        go_ret
        exact ⟨rfl, HBX.out.old⟩
end Go.Proofs.YtjanddnlhaionaaGreatDoor.L4
