/-
  SpanClips returns true. No condition.
-/
import Derived.Test.YtecefhoinggmgaaPE
import Derived.Test.YtecefhoinggmgaaTA
namespace Go.Proofs.Ytecefhoinggmgaa
open Go.RowKit

set_option maxRecDepth 100000 in
set_option maxHeartbeats 2000000 in
theorem clips8 (l : List Row) (f to t : Int) (lv : Value) (w : World) (hl : RowsAt w w.heap.size lv l) :
    Calls Try.prog 8 #[lv, .int .i64 f, .int .i64 to, .int .i64 t] w fun e w' => e = .returned (.bool true) ∧ Below w.heap.size w w' := by
  have HF := Lib.hid (few9 l lv _ hl)
  have HC := Lib.hid (check18 l lv _ hl)
  have HL := Lib.hid hl
  have HLV := Lib.hid lives10
  obtain ⟨lA, lc, rfl, -⟩ := hl
  cases hfew : fewB l with
  | false =>
    rw [hfew] at HF
    go_enter Try.func8, Try.ntmps8
    go_wp2_with fail
    refine HF.out.mono ?_
    rintro e w' ⟨rfl, rfl⟩
    go_wp2_with (go_at_call 10; go_must (refine (HLV.out _).mono ?_); rintro e w9 ⟨rfl, hb9⟩)
    go_ret
    exact ⟨rfl, hb9⟩
  | true =>
    rw [hfew] at HF
    cases hok : rowsOK l with
    | false =>
      rw [hok] at HC
      go_enter Try.func8, Try.ntmps8
      go_wp2_with fail
      refine HF.out.mono ?_
      rintro e w' ⟨rfl, rfl⟩
      go_wp2_with fail
      refine HC.out.mono ?_
      rintro e w1 ⟨rfl, hb1⟩
      go_wp2_with (go_at_call 10; go_must (refine (HLV.out _).mono ?_); rintro e w9 ⟨rfl, hb9⟩)
      go_ret
      exact ⟨rfl, hb1.trans (hb9.mono hb1.size)⟩
    | true =>
      rw [hok] at HC
      obtain ⟨k1, k2, k3, -⟩ := clip_sem hok f to
      have k4 := clip_again hok f to
      have k5 := (clip_sem hok to f).2.1
      have hat : atR (clipR l f to) t = if f ≤ t ∧ t < to then atR l t else (vz, false) := by
        rw [at_eq k1, at_eq hok, gv, gv, k3 t]
        split <;> rfl
      obtain ⟨C, hC⟩ : ∃ C, clipR l f to = C := ⟨_, rfl⟩
      obtain ⟨C2, hC2⟩ : ∃ C2, clipR l to f = C2 := ⟨_, rfl⟩
      rw [hC] at k1 k4 hat
      rw [hC2] at k5
      have HK1 := Lib.hid k1
      have HK4 := Lib.hid k4
      have HAT := Lib.hid hat
      have HCC := Lib.hid hC
      have HCC2 := Lib.hid hC2
      have hk5 : (C2.length : Int) ≤ (l.length : Int) := by omega
      clear k1 k2 k3 k4 hat hC hC2 hok hfew k5
      go_enter Try.func8, Try.ntmps8
      go_wp2_with fail
      refine HF.out.mono ?_
      rintro e w' ⟨rfl, rfl⟩
      go_wp2_with fail
      refine HC.out.mono ?_
      rintro e w1 ⟨rfl, hb1⟩
      have HB1 := Lib.hid hb1
      have HL1 := Lib.hid (HL.out.step hb1)
      have HCL := Lib.hid (clip20 l f to _ w1 HL1.out)
      rw [HCC.out] at HCL
      clear hb1 HF HC
      go_wp2_with fail
      refine HCL.out.mono ?_
      rintro e w2 ⟨v2, rfl, ho2, hb2⟩
      have HB2 := Lib.hid (HB1.out.trans (hb2.mono HB1.out.size))
      have HL2 := Lib.hid (HL1.out.step hb2)
      have HR2 := Lib.hid ho2.rows
      obtain ⟨cA, cc, rfl⟩ := ho2.slice
      clear hb2 ho2 HB1 HL1 HCL
      have HA1 := Lib.hid (at15 C t _ w2 HR2.out)
      obtain ⟨xk, xn, xs, is, hx⟩ : ∃ xk xn xs is, atR C t = ((xk, xn, xs), is) := ⟨_, _, _, _, rfl⟩
      rw [hx] at HA1
      unfold valV at HA1
      simp only at HA1
      go_wp2_with fail
      refine HA1.out.mono ?_
      rintro e w3 ⟨rfl, hb3⟩
      have hb4 := below_new w3 (.cells #[.int .i64 xk, .int .i64 xn, .string xs] 25)
      have HB4 := Lib.hid ((HB2.out.trans (hb3.mono HB2.out.size)).trans (hb4.mono (by have := HB2.out.size; have := hb3.size; omega)))
      have HL4 := Lib.hid ((HL2.out.step hb3).step hb4)
      have HR4 := Lib.hid ((HR2.out.step hb3).step hb4)
      have HX4 := Lib.hid (ValAt.new w3 xk xn xs)
      clear hb3 hb4 HA1 HB2 HL2 HR2
      have HA2 := Lib.hid (at15 l t _ _ HL4.out)
      obtain ⟨yk, yn, ys, so, hy⟩ : ∃ yk yn ys so, atR l t = ((yk, yn, ys), so) := ⟨_, _, _, _, rfl⟩
      rw [hy] at HA2
      unfold valV at HA2
      simp only at HA2
      go_wp2_with fail
      refine HA2.out.mono ?_
      rintro e w5 ⟨rfl, hb5⟩
      have hb6 := below_new w5 (.cells #[.int .i64 yk, .int .i64 yn, .string ys] 25)
      have HB6 := Lib.hid ((HB4.out.trans (hb5.mono HB4.out.size)).trans (hb6.mono (by have := HB4.out.size; have := hb5.size; omega)))
      have HL6 := Lib.hid ((HL4.out.step hb5).step hb6)
      have HR6 := Lib.hid ((HR4.out.step hb5).step hb6)
      obtain ⟨x0, x1, x2⟩ := (HX4.out.step hb5).step hb6
      obtain ⟨y0, y1, y2⟩ := ValAt.new w5 yk yn ys
      simp only at x0 x1 x2 y0 y1 y2
      clear hb5 hb6 HA2 HB4 HL4 HR4 HX4
      rw [hx, hy] at HAT
      clear hx hy
      have HCK := Lib.hid (check18 C _ _ HR6.out)
      rw [HK1.out] at HCK
      obtain ⟨q, hq⟩ : ∃ q, (decide (f ≤ t) && decide (t < to)) = q := ⟨_, rfl⟩
      have HQ := Lib.hid hq
      have HAT2 : Hid (((xk, xn, xs), is) = if q then ((yk, yn, ys), so) else (vz, false)) := by
        unfold Hid
        rw [HAT.out, ← hq]
        by_cases i1 : f ≤ t <;> by_cases i2 : t < to <;> simp [i1, i2]
      clear HAT hq
      go_upto_region 6 with fail
      go_cut [14] from 15 (fun s14 wx => s14 = .bool q ∧ w5.alloc (.cells #[.int .i64 yk, .int .i64 yn, .string ys] 25) = wx)
      case first =>
        by_cases i1 : f ≤ t
        · by_cases i2 : t < to
          · have hq : q = true := by rw [← HQ.out, decide_eq_true i1, decide_eq_true i2]; rfl
            subst hq
            go_wp2_with fail
            go_meet
            case rel => exact ⟨rfl, rfl⟩
          · have hq : q = false := by rw [← HQ.out, decide_eq_false i2, Bool.and_false]
            subst hq
            go_wp2_with fail
            go_meet
            case rel => exact ⟨rfl, rfl⟩
        · have hq : q = false := by rw [← HQ.out, decide_eq_false i1]; rfl
          subst hq
          go_wp2_with fail
          go_meet
          case rel => exact ⟨rfl, rfl⟩
      case rest =>
      obtain ⟨rfl, rfl⟩ := hcut
      go_upto_region 7 with fail
      go_cut [65] from 15 (fun s65 wx => s65 = .bool false ∧ w5.alloc (.cells #[.int .i64 yk, .int .i64 yn, .string ys] 25) = wx)
      case first =>
        cases q with
        | true =>
          have e1 := HAT2.out
          simp only [if_true] at e1
          injection e1 with e1 e2
          injection e1 with e1 e3
          injection e3 with e3 e4
          subst e1 e2 e3 e4
          have hneq := neqVl (xk, xn, xs) (xk, xn, xs) false (by simp)
          unfold valV at hneq
          simp only at hneq
          go_wp2_with fail
          go_meet
          case rel => exact ⟨rfl, rfl⟩
        | false =>
          have e1 := HAT2.out
          injection e1 with e1 e2
          subst e2
          clear e1
          go_wp2_with fail
          go_meet
          case rel => exact ⟨rfl, rfl⟩
      case rest =>
        obtain ⟨rfl, rfl⟩ := hcut
        clear HAT2 HQ x0 x1 x2 y0 y1 y2
        go_wp2_with fail
        refine HCK.out.mono ?_
        rintro e w7 ⟨rfl, hb7⟩
        have HB7 := Lib.hid (HB6.out.trans (hb7.mono HB6.out.size))
        have HL7 := Lib.hid (HL6.out.step hb7)
        have HR7 := Lib.hid (HR6.out.step hb7)
        clear hb7 HCK HB6 HL6 HR6
        have HCL2 := Lib.hid (clip20 l to f _ w7 HL7.out)
        rw [HCC2.out] at HCL2
        go_wp2_with fail
        refine HCL2.out.mono ?_
        rintro e w8 ⟨v8, rfl, ho8, hb8⟩
        obtain ⟨A8, c8, rfl⟩ := ho8.slice
        have HB8 := Lib.hid (HB7.out.trans (hb8.mono HB7.out.size))
        have HR8 := Lib.hid (HR7.out.step hb8)
        clear hb8 ho8 HCL2 HB7 HL7 HR7
        have HCL3 := Lib.hid (clip20 C f to _ w8 HR8.out)
        rw [HK4.out] at HCL3
        go_wp2_with fail
        refine HCL3.out.mono ?_
        rintro e w9 ⟨v9, rfl, ho9, hb9⟩
        have HS9 := Lib.hid (same17 C C _ _ w9 ho9.rows (HR8.out.step hb9))
        rw [decide_eq_true rfl] at HS9
        obtain ⟨A9, c9, rfl⟩ := ho9.slice
        have HB9 := Lib.hid (HB8.out.trans (hb9.mono HB8.out.size))
        clear hb9 ho9 HCL3 HB8 HR8
        go_wp2_with fail
        refine HS9.out.mono ?_
        rintro e w10 ⟨rfl, hb10⟩
        have HB10 := Lib.hid (HB9.out.trans (hb10.mono HB9.out.size))
        clear hb10 HB9 HS9
        go_wp2_with fail
        refine (HLV.out _).mono ?_
        rintro e w11 ⟨rfl, hb11⟩
        have HB11 := Lib.hid (HB10.out.trans (hb11.mono HB10.out.size))
        clear hb11 HB10
        go_wp2
        go_ret
        exact ⟨rfl, HB11.out⟩
end Go.Proofs.Ytecefhoinggmgaa
