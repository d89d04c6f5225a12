/-
  SpanTimes returns true. No condition.
-/
import Derived.Test.YtecefhoinggmgaaPD
import Derived.Test.YtecefhoinggmgaaSR
import Derived.Deep.Cut
namespace Go.Proofs.Ytecefhoinggmgaa
open Go.RowKit

structure ValAt (w : World) (b : Nat) (v : Vl) : Prop where
  c0 : w.cell? ⟨b, 0, none⟩ = some (.int .i64 v.1)
  c1 : w.cell? ⟨b, 1, none⟩ = some (.int .i64 v.2.1)
  c2 : w.cell? ⟨b, 2, none⟩ = some (.string v.2.2)
theorem ValAt.below {w w' : World} {b B : Nat} {v : Vl} (h : ValAt w b v) (hb : Below B w w') (hl : b < B) : ValAt w' b v :=
  ⟨(hb.cell (p := ⟨b, 0, none⟩) hl).trans h.c0, (hb.cell (p := ⟨b, 1, none⟩) hl).trans h.c1, (hb.cell (p := ⟨b, 2, none⟩) hl).trans h.c2⟩
theorem ValAt.lt {w : World} {b : Nat} {v : Vl} (h : ValAt w b v) : b < w.heap.size := World.block_lt_of_cell? w _ h.c0
theorem ValAt.step {w w' : World} {b : Nat} {v : Vl} (h : ValAt w b v) (hb : Below w.heap.size w w') : ValAt w' b v := h.below hb h.lt
theorem ValAt.new (w : World) (k n : Int) (s : ByteArray) : ValAt (w.alloc (.cells #[.int .i64 k, .int .i64 n, .string s] 25)) w.heap.size (k, n, s) :=
  ⟨by simp [go_sem], by simp [go_sem], by simp [go_sem]⟩
theorem below_new (w : World) (o : Obj) : Below w.heap.size w (w.alloc o) := (Below.refl _ _).alloc (Nat.le_refl _) _

/-- What SpanTimes asks of Put's answer. -/
theorem put_times {l L : List Row} {f to : Int} {v : Vl} (h : putR l f to v = (L, 0)) (t : Int) :
    rowsOK L = true ∧ (f ≤ t ∧ t < to → atR L t = (v, true)) ∧ (¬ (f ≤ t ∧ t < to) → atR L t = atR l t) := by
  unfold putR at h
  split at h
  · rename_i hv
    obtain ⟨h1, h2, h3⟩ := set_sem h (fun _ => hv)
    refine ⟨h2, fun hw => ?_, fun hw => ?_⟩
    · have hk := (valOK_kind hv).2
      have e : lk L t = some v := by
        rw [h3 t, if_pos hw]
        show nzv v = _
        unfold nzv
        rw [hk]; rfl
      rw [at_eq h2, gv, e]; rfl
    · rw [at_eq h2, at_eq h1, gv, gv, h3 t, if_neg hw]
  · injection h with h1 h2
    omega
theorem cut_times {l L : List Row} {f to : Int} (h : cutR l f to = (L, 0)) (t : Int) :
    rowsOK L = true ∧ (f ≤ t ∧ t < to → (atR L t).2 = false) ∧ (¬ (f ≤ t ∧ t < to) → atR L t = atR l t) := by
  obtain ⟨h1, h2, h3⟩ := set_sem h (fun hk => by cases hk)
  refine ⟨h2, fun hw => ?_, fun hw => ?_⟩
  · rw [at_eq h2, h3 t, if_pos hw]; rfl
  · rw [at_eq h2, at_eq h1, gv, gv, h3 t, if_neg hw]

set_option maxRecDepth 100000 in
set_option maxHeartbeats 2000000 in
theorem times5 (l : List Row) (f to : Int) (v : Vl) (t : Int) (lv : Value) (w : World) (hl : RowsAt w w.heap.size lv l) :
    Calls Try.prog 5 #[lv, .int .i64 f, .int .i64 to, valV v, .int .i64 t] w fun e w' => e = .returned (.bool true) ∧ Below w.heap.size w w' := by
  obtain ⟨vk, vn, vs⟩ := v
  unfold valV
  simp only
  have hb0 := below_new w (.cells #[.int .i64 vk, .int .i64 vn, .string vs] 25)
  have HF := Lib.hid (few9 l lv _ (hl.step hb0))
  have HB0 := Lib.hid hb0
  have HL := Lib.hid (hl.step hb0)
  have HLV := Lib.hid lives10
  have HVB := Lib.hid (ValAt.new w vk vn vs)
  obtain ⟨lA, lc, rfl, -⟩ := hl
  clear hb0
  cases hfew : fewB l with
  | false =>
    rw [hfew] at HF
    go_enter Try.func5, Try.ntmps5
    go_wp2_with fail
    refine HF.out.mono ?_
    rintro e w' ⟨rfl, rfl⟩
    go_wp2_with (go_at_call 10; go_must (refine (HLV.out _).mono ?_); rintro e w9 ⟨rfl, hb9⟩)
    go_ret
    exact ⟨rfl, HB0.out.trans (hb9.mono (by simp))⟩
  | true =>
    rw [hfew] at HF
    by_cases hs : (200 : Int) < vs.size
    · go_enter Try.func5, Try.ntmps5
      go_wp2_with fail
      refine HF.out.mono ?_
      rintro e w' ⟨rfl, rfl⟩
      go_wp2_with (go_at_call 10; go_must (refine (HLV.out _).mono ?_); rintro e w9 ⟨rfl, hb9⟩)
      go_ret
      exact ⟨rfl, HB0.out.trans (hb9.mono (by simp))⟩
    · have HAT := Lib.hid (at15 l t _ _ HL.out)
      obtain ⟨wk, wn, ws, hd, hwas⟩ : ∃ wk wn ws hd, atR l t = ((wk, wn, ws), hd) := ⟨_, _, _, _, rfl⟩
      rw [hwas] at HAT
      have HWAS := Lib.hid hwas
      unfold valV at HAT
      simp only at HAT
      clear hwas hfew
      go_enter Try.func5, Try.ntmps5
      go_wp2_with fail
      refine HF.out.mono ?_
      rintro e w' ⟨rfl, rfl⟩
      go_wp2_with fail
      refine HAT.out.mono ?_
      rintro e w1 ⟨rfl, hb1⟩
      have hb2 := below_new w1 (.cells #[.int .i64 wk, .int .i64 wn, .string ws] 25)
      have HB2 := Lib.hid ((HB0.out.trans (hb1.mono (by simp))).trans (hb2.mono (by have := hb1.size; simp at this; omega)))
      have HL2 := Lib.hid ((HL.out.step hb1).step hb2)
      have hvb := (HVB.out.step hb1).step hb2
      have HWB := Lib.hid (ValAt.new w1 wk wn ws)
      obtain ⟨p0, p1, p2⟩ := hvb
      simp only at p0 p1 p2
      have HVB2 := Lib.hid ((HVB.out.step hb1).step hb2)
      have v0 := ((HVB.out.step hb1)).c0
      have v1 := ((HVB.out.step hb1)).c1
      have v2 := ((HVB.out.step hb1)).c2
      simp only at v0 v1 v2
      have hws1 : w.heap.size < w1.heap.size := by have := hb1.size; simp at this; omega
      have HPU := Lib.hid (put11 l f to (vk, vn, vs) _ _ HL2.out)
      obtain ⟨L, c, hput⟩ : ∃ L c, putR l f to (vk, vn, vs) = (L, c) := ⟨_, _, rfl⟩
      rw [hput] at HPU
      unfold valV at HPU
      simp only at HPU
      have HPUT := Lib.hid hput
      clear hb1 hb2 HF HAT hput
      go_wp2_with fail
      refine HPU.out.mono ?_
      rintro e w3 ⟨v3, rfl, ho3, hb3⟩
      have HB3 := Lib.hid (HB2.out.trans (hb3.mono HB2.out.size))
      have HL3 := Lib.hid (HL2.out.step hb3)
      have HV3 := Lib.hid (HVB2.out.step hb3)
      have HW3 := Lib.hid (HWB.out.step hb3)
      have HRR := Lib.hid ho3.rows
      obtain ⟨A3, c3, rfl⟩ := ho3.slice
      clear hb3 ho3 HPU p0 p1 p2 v0 v1 v2 HVB HVB2 HWB HL2 HL HB0
      simp only
      go_upto_if 48 with fail
      go_cut [] from 13 (fun wx => Below w.heap.size w wx ∧ ValAt wx w1.heap.size (wk, wn, ws) ∧ RowsAt wx wx.heap.size (.slice lA l.length lc) l)
      case first =>
        cases hcc : (c == 0) with
        | false =>
          go_wp2_with fail
          go_meet
          case rel => exact ⟨HB3.out, HW3.out, HL3.out⟩
        | true =>
          have hc0 : (c : Int) = 0 := by simpa using hcc
          subst hc0
          obtain ⟨hLok, hin, hout⟩ := put_times HPUT.out t
          have HA2 := Lib.hid (at15 L t _ _ HRR.out)
          obtain ⟨xk, xn, xs, is, hx⟩ : ∃ xk xn xs is, atR L t = ((xk, xn, xs), is) := ⟨_, _, _, _, rfl⟩
          rw [hx] at HA2
          unfold valV at HA2
          simp only at HA2
          rw [hx] at hin hout
          rw [HWAS.out] at hout
          go_wp2_with fail
          refine HA2.out.mono ?_
          rintro e w4 ⟨rfl, hb4⟩
          have hb5 := below_new w4 (.cells #[.int .i64 xk, .int .i64 xn, .string xs] 25)
          have HB5 := Lib.hid ((HB3.out.trans (hb4.mono HB3.out.size)).trans (hb5.mono (by have := HB3.out.size; have := hb4.size; omega)))
          have HL5 := Lib.hid ((HL3.out.step hb4).step hb5)
          have HW5 := Lib.hid ((HW3.out.step hb4).step hb5)
          have HC5 := Lib.hid (check18 L _ _ ((HRR.out.step hb4).step hb5))
          rw [hLok] at HC5
          obtain ⟨d0, d1, d2⟩ := (HV3.out.step hb4).step hb5
          obtain ⟨g0, g1, g2⟩ := HW5.out
          obtain ⟨x0, x1, x2⟩ := ValAt.new w4 xk xn xs
          simp only at d0 d1 d2 g0 g1 g2 x0 x1 x2
          clear hb4 hb5 HA2 hx
          by_cases i1 : f ≤ t
          · by_cases i2 : t < to
            · have e1 := hin ⟨i1, i2⟩
              injection e1 with e1 e2
              injection e1 with e1 e3
              injection e3 with e3 e4
              subst e1 e2 e3 e4
              clear hin hout
              have hneq := neqVl (xk, xn, xs) (xk, xn, xs) false (by simp)
              unfold valV at hneq
              simp only at hneq
              go_wp2_with fail
              refine HC5.out.mono ?_
              rintro e w6 ⟨rfl, hb6⟩
              have HB6 := Lib.hid (HB5.out.trans (hb6.mono HB5.out.size))
              have HL6 := Lib.hid (HL5.out.step hb6)
              have HW6 := Lib.hid (HW5.out.step hb6)
              clear hb6
              go_wp2_with fail
              go_meet
              case rel => exact ⟨HB6.out, HW6.out, HL6.out⟩
            · have e1 := hout (fun h => i2 h.2)
              injection e1 with e1 e2
              injection e1 with e1 e3
              injection e3 with e3 e4
              subst e1 e2 e3 e4
              clear hin hout
              have hneq := neqVl (xk, xn, xs) (xk, xn, xs) false (by simp)
              unfold valV at hneq
              simp only at hneq
              go_wp2_with fail
              refine HC5.out.mono ?_
              rintro e w6 ⟨rfl, hb6⟩
              have HB6 := Lib.hid (HB5.out.trans (hb6.mono HB5.out.size))
              have HL6 := Lib.hid (HL5.out.step hb6)
              have HW6 := Lib.hid (HW5.out.step hb6)
              clear hb6
              go_wp2_with fail
              go_meet
              case rel => exact ⟨HB6.out, HW6.out, HL6.out⟩
          · have e1 := hout (fun h => i1 h.1)
            injection e1 with e1 e2
            injection e1 with e1 e3
            injection e3 with e3 e4
            subst e1 e2 e3 e4
            clear hin hout
            have hneq := neqVl (xk, xn, xs) (xk, xn, xs) false (by simp)
            unfold valV at hneq
            simp only at hneq
            go_wp2_with fail
            refine HC5.out.mono ?_
            rintro e w6 ⟨rfl, hb6⟩
            have HB6 := Lib.hid (HB5.out.trans (hb6.mono HB5.out.size))
            have HL6 := Lib.hid (HL5.out.step hb6)
            have HW6 := Lib.hid (HW5.out.step hb6)
            clear hb6
            go_wp2_with fail
            go_meet
            case rel => exact ⟨HB6.out, HW6.out, HL6.out⟩
      case rest =>
        obtain ⟨hbw, hwv, hrl⟩ := hcut
        have HB3' := Lib.hid hbw
        have HW3' := Lib.hid hwv
        have HL3' := Lib.hid hrl
        have HCU := Lib.hid (cut13 l f to _ _ hrl)
        obtain ⟨L2, c2, hcutr⟩ : ∃ L c, cutR l f to = (L, c) := ⟨_, _, rfl⟩
        rw [hcutr] at HCU
        simp only at HCU
        clear hbw hwv hrl HB3 HL3 HV3 HW3 HRR HPUT
        have HPUT := Lib.hid hcutr
        clear hcutr
        go_wp2_with fail
        refine HCU.out.mono ?_
        rintro e w3b ⟨v3, rfl, ho3, hb3⟩
        have HB3 := Lib.hid (HB3'.out.trans (hb3.mono HB3'.out.size))
        have HL3 := Lib.hid (HL3'.out.step hb3)
        have HW3 := Lib.hid (HW3'.out.step hb3)
        have HRR := Lib.hid ho3.rows
        obtain ⟨A3b, c3b, rfl⟩ := ho3.slice
        clear hb3 ho3 HCU HB3' HL3' HW3'
        simp only
        go_upto_if 100 with fail
        go_cut [] from 18 (fun wx => Below w.heap.size w wx)
        case first =>
          cases hcc : (c2 == 0) with
          | false =>
            go_wp2_with fail
            go_meet
            case rel => exact HB3.out
          | true =>
            have hc0 : (c2 : Int) = 0 := by simpa using hcc
            subst hc0
            obtain ⟨hLok, hin, hout⟩ := cut_times HPUT.out t
            have HA2 := Lib.hid (at15 L2 t _ _ HRR.out)
            obtain ⟨xk, xn, xs, is, hx⟩ : ∃ xk xn xs is, atR L2 t = ((xk, xn, xs), is) := ⟨_, _, _, _, rfl⟩
            rw [hx] at HA2
            unfold valV at HA2
            simp only at HA2
            rw [hx] at hin hout
            rw [HWAS.out] at hout
            go_wp2_with fail
            refine HA2.out.mono ?_
            rintro e w4 ⟨rfl, hb4⟩
            have hb5 := below_new w4 (.cells #[.int .i64 xk, .int .i64 xn, .string xs] 25)
            have HB5 := Lib.hid ((HB3.out.trans (hb4.mono HB3.out.size)).trans (hb5.mono (by have := HB3.out.size; have := hb4.size; omega)))
            have HC5 := Lib.hid (check18 L2 _ _ ((HRR.out.step hb4).step hb5))
            rw [hLok] at HC5
            obtain ⟨g0, g1, g2⟩ := (HW3.out.step hb4).step hb5
            obtain ⟨x0, x1, x2⟩ := ValAt.new w4 xk xn xs
            simp only at g0 g1 g2 x0 x1 x2
            clear hb4 hb5 HA2 hx
            by_cases i1 : f ≤ t
            · by_cases i2 : t < to
              · have e1 : is = false := hin ⟨i1, i2⟩
                subst e1
                clear hin hout
                go_wp2_with fail
                refine HC5.out.mono ?_
                rintro e w6 ⟨rfl, hb6⟩
                have HB6 := Lib.hid (HB5.out.trans (hb6.mono HB5.out.size))
                clear hb6
                go_wp2_with fail
                go_meet
                case rel => exact HB6.out
              · have e1 := hout (fun h => i2 h.2)
                injection e1 with e1 e2
                injection e1 with e1 e3
                injection e3 with e3 e4
                subst e1 e2 e3 e4
                clear hin hout
                have hneq := neqVl (xk, xn, xs) (xk, xn, xs) false (by simp)
                unfold valV at hneq
                simp only at hneq
                go_wp2_with fail
                refine HC5.out.mono ?_
                rintro e w6 ⟨rfl, hb6⟩
                have HB6 := Lib.hid (HB5.out.trans (hb6.mono HB5.out.size))
                clear hb6
                go_wp2_with fail
                go_meet
                case rel => exact HB6.out
            · have e1 := hout (fun h => i1 h.1)
              injection e1 with e1 e2
              injection e1 with e1 e3
              injection e3 with e3 e4
              subst e1 e2 e3 e4
              clear hin hout
              have hneq := neqVl (xk, xn, xs) (xk, xn, xs) false (by simp)
              unfold valV at hneq
              simp only at hneq
              go_wp2_with fail
              refine HC5.out.mono ?_
              rintro e w6 ⟨rfl, hb6⟩
              have HB6 := Lib.hid (HB5.out.trans (hb6.mono HB5.out.size))
              clear hb6
              go_wp2_with fail
              go_meet
              case rel => exact HB6.out
        case rest =>
          have HBF := Lib.hid hcut
          clear hcut
          go_wp2_with (go_at_call 10; go_must (refine (HLV.out _).mono ?_); rintro e w9 ⟨rfl, hb9⟩)
          go_ret
          exact ⟨rfl, HBF.out.trans (hb9.mono HBF.out.size)⟩
end Go.Proofs.Ytecefhoinggmgaa
