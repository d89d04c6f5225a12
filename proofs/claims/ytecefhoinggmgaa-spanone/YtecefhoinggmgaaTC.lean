/-
  SpanOne returns true. No condition.
-/
import Derived.Test.YtecefhoinggmgaaPG
import Derived.Test.YtecefhoinggmgaaSS
import Derived.Test.YtecefhoinggmgaaTA
namespace Go.Proofs.Ytecefhoinggmgaa
open Go.RowKit

set_option maxRecDepth 100000 in
set_option maxHeartbeats 2000000 in
theorem one6 (a b : List Row) (av bv : Value) (w : World) (ha : RowsAt w w.heap.size av a) (hb : RowsAt w w.heap.size bv b) :
    Calls Try.prog 6 #[av, bv] w fun e w' => e = .returned (.bool true) ∧ Below w.heap.size w w' := by
  have HFA := Lib.hid (few9 a av _ ha)
  have HFB := Lib.hid (few9 b bv _ hb)
  have HCA := Lib.hid (check18 a av _ ha)
  have HA := Lib.hid ha
  have HB := Lib.hid hb
  have HLV := Lib.hid lives10
  obtain ⟨aA, ac, rfl, -⟩ := ha
  obtain ⟨bA, bc, rfl, -⟩ := hb
  cases hfa : fewB a with
  | false =>
    rw [hfa] at HFA
    go_enter Try.func6, Try.ntmps6
    go_wp2_with fail
    refine HFA.out.mono ?_
    rintro e w' ⟨rfl, rfl⟩
    go_wp2_with (go_at_call 10; go_must (refine (HLV.out _).mono ?_); rintro e w9 ⟨rfl, hb9⟩)
    go_ret
    exact ⟨rfl, hb9⟩
  | true =>
  rw [hfa] at HFA
  cases hfb : fewB b with
  | false =>
    rw [hfb] at HFB
    go_enter Try.func6, Try.ntmps6
    go_wp2_with fail
    refine HFA.out.mono ?_
    rintro e w' ⟨rfl, rfl⟩
    go_wp2_with fail
    refine HFB.out.mono ?_
    rintro e w' ⟨rfl, rfl⟩
    go_wp2_with (go_at_call 10; go_must (refine (HLV.out _).mono ?_); rintro e w9 ⟨rfl, hb9⟩)
    go_ret
    exact ⟨rfl, hb9⟩
  | true =>
  rw [hfb] at HFB
  cases hoa : rowsOK a with
  | false =>
    rw [hoa] at HCA
    go_enter Try.func6, Try.ntmps6
    go_wp2_with fail
    refine HFA.out.mono ?_
    rintro e w' ⟨rfl, rfl⟩
    go_wp2_with fail
    refine HFB.out.mono ?_
    rintro e w' ⟨rfl, rfl⟩
    go_wp2_with fail
    refine HCA.out.mono ?_
    rintro e w1 ⟨rfl, hb1⟩
    go_wp2_with (go_at_call 10; go_must (refine (HLV.out _).mono ?_); rintro e w9 ⟨rfl, hb9⟩)
    go_ret
    exact ⟨rfl, hb1.trans (hb9.mono hb1.size)⟩
  | true =>
  rw [hoa] at HCA
  cases hob : rowsOK b with
  | false =>
    go_enter Try.func6, Try.ntmps6
    go_wp2_with fail
    refine HFA.out.mono ?_
    rintro e w' ⟨rfl, rfl⟩
    go_wp2_with fail
    refine HFB.out.mono ?_
    rintro e w' ⟨rfl, rfl⟩
    go_wp2_with fail
    refine HCA.out.mono ?_
    rintro e w1 ⟨rfl, hb1⟩
    have HCB := Lib.hid (check18 b _ _ (HB.out.step hb1))
    rw [hob] at HCB
    go_wp2_with fail
    refine HCB.out.mono ?_
    rintro e w2 ⟨rfl, hb2⟩
    go_wp2_with (go_at_call 10; go_must (refine (HLV.out _).mono ?_); rintro e w9 ⟨rfl, hb9⟩)
    go_ret
    exact ⟨rfl, (hb1.trans (hb2.mono hb1.size)).trans (hb9.mono (by have := hb1.size; have := hb2.size; omega))⟩
  | true =>
  have hal : a.length ≤ 64 := ((rowsOK_iff a).1 hoa).1
  have hbl : b.length ≤ 64 := ((rowsOK_iff b).1 hob).1
  have HALL := Lib.hid (one_all hoa hob)
  have HBEG := Lib.hid (diff_begin hoa hob)
  have HUP := Lib.hid (diff_up hoa hob)
  have HNIL := Lib.hid (diff_nil hoa hob)
  have HOB := Lib.hid hob
  clear hfa hfb hoa hob
  go_enter Try.func6, Try.ntmps6
  go_wp2_with fail
  refine HFA.out.mono ?_
  rintro e w' ⟨rfl, rfl⟩
  go_wp2_with fail
  refine HFB.out.mono ?_
  rintro e w' ⟨rfl, rfl⟩
  go_wp2_with fail
  refine HCA.out.mono ?_
  rintro e w1 ⟨rfl, hb1⟩
  have HCB := Lib.hid (check18 b _ _ (HB.out.step hb1))
  rw [HOB.out] at HCB
  have HB1 := Lib.hid hb1
  clear hb1 HFA HFB HCA
  go_wp2_with fail
  refine HCB.out.mono ?_
  rintro e w2 ⟨rfl, hb2⟩
  have HB2 := Lib.hid (HB1.out.trans (hb2.mono HB1.out.size))
  have HA2 := Lib.hid ((HA.out.step HB1.out).step hb2)
  have HBB2 := Lib.hid ((HB.out.step HB1.out).step hb2)
  clear hb2 HB1 HCB HA HB
  have hbl2 := below_new w2 (.cells #[] 52)
  go_wp2_with (at_builtin; go_must (refine wpList_append_rows rfl _ _ rfl w2.heap.size _ _ [] a rfl rfl ?own1 ?n1 ?r1 ?l1 ?_))
  case own1 => exact own_lit0 w2 _ (Nat.le_refl _)
  case n1 => simp
  case r1 => exact HA2.out.step hbl2
  case l1 => simp; omega
  rintro v3 w3 ho3 hg3 hat3
  have HB3 := Lib.hid (hbl2.trans ((below_grown (own_lit0 w2 _ (Nat.le_refl _)) (by simp) hg3).mono (by simp)))
  have HO3 := Lib.hid ho3
  obtain ⟨A3, c3, rfl⟩ := ho3.slice
  clear hbl2 hg3 hat3 ho3
  go_wp2_with (at_builtin; go_must (refine wpList_append_rows rfl _ _ rfl w2.heap.size _ _ a b rfl rfl ?own2 ?n2 ?r2 ?l2 ?_))
  case own2 => exact HO3.out
  case n2 => exact HB3.out.size
  case r2 => exact HBB2.out.step HB3.out
  case l2 => omega
  rintro v4 w4 ho4 hg4 hat4
  have hb34 := below_grown HO3.out HB3.out.size hg4
  have HB4 := Lib.hid (HB3.out.trans hb34)
  have HA4 := Lib.hid (HA2.out.step HB4.out)
  have HBB4 := Lib.hid (HBB2.out.step HB4.out)
  have HBT := Lib.hid (HB2.out.trans (HB4.out.mono HB2.out.size))
  obtain ⟨L, hL⟩ : ∃ L, a ++ b = L := ⟨_, rfl⟩
  rw [hL] at HALL ho4
  have hLl : L.length ≤ 128 := by rw [← hL, List.length_append]; omega
  have HL4 := Lib.hid ho4.rows
  obtain ⟨lA, lc, rfl⟩ := ho4.slice
  clear hL hb34 hg4 hat4 ho4 HO3 HB3 HB4 HA2 HBB2 HB2
  go_wp2
  go_loopw [5, 7] (fun s i wr => ∃ k : Nat, k ≤ L.length ∧ i = .int .i64 k ∧ s = .bool ((L.take k).all (sameB a b)) ∧ Hid (Below w4.heap.size w4 wr)) (fun _ i _ => L.length - (intOf i).toNat)
  case atStart => exact ⟨0, Nat.zero_le _, rfl, rfl, Below.refl _ _⟩
  case round =>
    obtain ⟨k, hk, rfl, rfl, HBW⟩ := hrel
    obtain ⟨q, hq⟩ : ∃ q, (L.take k).all (sameB a b) = q := ⟨_, rfl⟩
    rw [hq]
    have HQ := Lib.hid hq
    clear hq
    by_cases hlt : k < L.length
    · have hr := HL4.out
      obtain ⟨A', c', e, h1, h2, h3⟩ := hr
      injection e with e e1 e2
      subst e e2
      obtain ⟨rb, ro, rfl, hrb, hr⟩ := h3 (by omega)
      have htk : L.take (k + 1) = L.take k ++ [L[k]] := List.take_succ_eq_append_getElem hlt
      have hrk := hr k hlt
      have HTK : Hid ((L.take (k + 1)).all (sameB a b) = (q && sameB a b L[k])) := by
        unfold Hid
        rw [htk, List.all_append, HQ.out]
        simp
      clear htk hr h3
      generalize L[k] = r at HTK hrk
      have HRK := Lib.hid hrk
      obtain ⟨f, e, kk, n, s⟩ := r
      clear hrk e1
      unfold maxLen at h2
      have hw0 : rb < wr.heap.size := Nat.lt_of_lt_of_le hrb HBW.out.size
      obtain ⟨c0, -, -, -, -⟩ := HRK.out.below HBW.out hrb
      simp only at c0
      have HC1 := Lib.hid (at15 a f _ wr ((HA4.out.below HBW.out).more HBW.out.size))
      obtain ⟨xk, xn, xs, is, hx⟩ : ∃ xk xn xs is, atR a f = ((xk, xn, xs), is) := ⟨_, _, _, _, rfl⟩
      rw [hx] at HC1
      unfold valV at HC1
      simp only at HC1
      have HX := Lib.hid hx
      clear hx
      go_wp2_with fail
      refine HC1.out.mono ?_
      rintro e' w5 ⟨rfl, hb5⟩
      have hn5 := below_new w5 (.cells #[.int .i64 xk, .int .i64 xn, .string xs] 25)
      have HB5 : Hid (Below w4.heap.size w4 (w5.alloc (.cells #[.int .i64 xk, .int .i64 xn, .string xs] 25))) := HBW.out.trans ((hb5.trans (hn5.mono hb5.size)).mono HBW.out.size)
      have HV5 := Lib.hid (ValAt.new w5 xk xn xs)
      clear hb5 hn5 c0 HC1
      obtain ⟨c0, -, -, -, -⟩ := HRK.out.below HB5.out hrb
      simp only at c0
      have HC2 := Lib.hid (at15 b f _ _ ((HBB4.out.below HB5.out).more HB5.out.size))
      obtain ⟨yk, yn, ys, so, hy⟩ : ∃ yk yn ys so, atR b f = ((yk, yn, ys), so) := ⟨_, _, _, _, rfl⟩
      rw [hy] at HC2
      unfold valV at HC2
      simp only at HC2
      have HY := Lib.hid hy
      clear hy
      go_wp2_with fail
      refine HC2.out.mono ?_
      rintro e' w6 ⟨rfl, hb6⟩
      have hn6 := below_new w6 (.cells #[.int .i64 yk, .int .i64 yn, .string ys] 25)
      have HB6 : Hid (Below w4.heap.size w4 (w6.alloc (.cells #[.int .i64 yk, .int .i64 yn, .string ys] 25))) := HB5.out.trans ((hb6.trans (hn6.mono hb6.size)).mono HB5.out.size)
      have HV6 := Lib.hid (ValAt.new w6 yk yn ys)
      have HV5b := Lib.hid ((HV5.out.step hb6).step hn6)
      clear hb6 hn6 c0 HC2 HV5 HB5
      obtain ⟨-, c1, -, -, -⟩ := HRK.out.below HB6.out hrb
      simp only at c1
      have HC3 := Lib.hid (at15 a e _ _ ((HA4.out.below HB6.out).more HB6.out.size))
      obtain ⟨uk, un, us, am, hu⟩ : ∃ uk un us am, atR a e = ((uk, un, us), am) := ⟨_, _, _, _, rfl⟩
      rw [hu] at HC3
      unfold valV at HC3
      simp only at HC3
      have HU := Lib.hid hu
      clear hu
      go_wp2_with fail
      refine HC3.out.mono ?_
      rintro e' w7 ⟨rfl, hb7⟩
      have hn7 := below_new w7 (.cells #[.int .i64 uk, .int .i64 un, .string us] 25)
      have HB7 : Hid (Below w4.heap.size w4 (w7.alloc (.cells #[.int .i64 uk, .int .i64 un, .string us] 25))) := HB6.out.trans ((hb7.trans (hn7.mono hb7.size)).mono HB6.out.size)
      have HV7 := Lib.hid (ValAt.new w7 uk un us)
      have HV5c := Lib.hid ((HV5b.out.step hb7).step hn7)
      have HV6c := Lib.hid ((HV6.out.step hb7).step hn7)
      clear hb7 hn7 c1 HC3 HV5b HV6 HB6
      obtain ⟨-, c1, -, -, -⟩ := HRK.out.below HB7.out hrb
      simp only at c1
      have HC4 := Lib.hid (at15 b e _ _ ((HBB4.out.below HB7.out).more HB7.out.size))
      obtain ⟨zk, zn, zs, are, hz⟩ : ∃ zk zn zs are, atR b e = ((zk, zn, zs), are) := ⟨_, _, _, _, rfl⟩
      rw [hz] at HC4
      unfold valV at HC4
      simp only at HC4
      have HZ := Lib.hid hz
      clear hz
      go_wp2_with fail
      refine HC4.out.mono ?_
      rintro e' w8 ⟨rfl, hb8⟩
      have hn8 := below_new w8 (.cells #[.int .i64 zk, .int .i64 zn, .string zs] 25)
      have HB8 : Hid (Below w4.heap.size w4 (w8.alloc (.cells #[.int .i64 zk, .int .i64 zn, .string zs] 25))) := HB7.out.trans ((hb8.trans (hn8.mono hb8.size)).mono HB7.out.size)
      obtain ⟨x0, x1, x2⟩ := (HV5c.out.step hb8).step hn8
      obtain ⟨y0, y1, y2⟩ := (HV6c.out.step hb8).step hn8
      obtain ⟨u0, u1, u2⟩ := (HV7.out.step hb8).step hn8
      obtain ⟨z0, z1, z2⟩ := ValAt.new w8 zk zn zs
      simp only at x0 x1 x2 y0 y1 y2 u0 u1 u2 z0 z1 z2
      clear hb8 hn8 c1 HC4 HV5c HV6c HV7 HB7
      have HSB : Hid (sameB a b (f, e, kk, n, s) = ((decide (((xk, xn, xs) : Vl) = (yk, yn, ys)) && (is == so)) && (decide (((uk, un, us) : Vl) = (zk, zn, zs)) && (am == are)))) := by
        unfold Hid sameB
        show (decide (atR a f = atR b f) && decide (atR a e = atR b e)) = _
        rw [HX.out, HY.out, HU.out, HZ.out, Bool.eq_iff_iff]
        simp [Prod.ext_iff, and_assoc]
      rw [HSB.out] at HTK
      obtain ⟨q1, hq1⟩ : ∃ q1, decide (((xk, xn, xs) : Vl) = (yk, yn, ys)) = q1 := ⟨_, rfl⟩
      obtain ⟨q2, hq2⟩ : ∃ q2, decide (((uk, un, us) : Vl) = (zk, zn, zs)) = q2 := ⟨_, rfl⟩
      have heq1 := eqlVl (xk, xn, xs) (yk, yn, ys) q1 hq1
      have heq2 := eqlVl (uk, un, us) (zk, zn, zs) q2 hq2
      unfold valV at heq1 heq2
      simp only at heq1 heq2
      rw [hq1, hq2] at HTK
      clear hq1 hq2 HSB HX HY HU HZ
      go_upto_region 12 with fail
      obtain ⟨q3, hq3⟩ : ∃ q3, (is == so) = q3 := ⟨_, rfl⟩
      obtain ⟨q4, hq4⟩ : ∃ q4, (am == are) = q4 := ⟨_, rfl⟩
      rw [hq3, hq4] at HTK
      clear HQ HRK HBW HL4 HALL HBEG HUP HNIL
      cases q with
      | false =>
        go_wp2
        go_roundw
        case rel => exact ⟨k + 1, by omega, by go_num, by rw [HTK.out]; rfl, HB8⟩
        case measure => simp [intOf]; omega
      | true =>
        cases q1 with
        | false =>
          go_wp2
          go_roundw
          case rel => exact ⟨k + 1, by omega, by go_num, by rw [HTK.out]; rfl, HB8⟩
          case measure => simp [intOf]; omega
        | true =>
          cases q3 with
          | false =>
            go_wp2
            go_roundw
            case rel => exact ⟨k + 1, by omega, by go_num, by rw [HTK.out]; rfl, HB8⟩
            case measure => simp [intOf]; omega
          | true =>
            cases q2 with
            | false =>
              go_wp2
              go_roundw
              case rel => exact ⟨k + 1, by omega, by go_num, by rw [HTK.out]; rfl, HB8⟩
              case measure => simp [intOf]; omega
            | true =>
              cases q4 with
              | false =>
                go_wp2
                go_roundw
                case rel => exact ⟨k + 1, by omega, by go_num, by rw [HTK.out]; rfl, HB8⟩
                case measure => simp [intOf]; omega
              | true =>
                go_wp2
                go_roundw
                case rel => exact ⟨k + 1, by omega, by go_num, by rw [HTK.out]; rfl, HB8⟩
                case measure => simp [intOf]; omega
    · have hkl : k = L.length := by omega
      subst hkl
      have HQD : Hid (q = decide (a = b)) := by unfold Hid; rw [← HQ.out, List.take_length]; exact HALL.out
      have HDI := Lib.hid (diff25 a b _ _ wr ((HA4.out.below HBW.out).more HBW.out.size) ((HBB4.out.below HBW.out).more HBW.out.size))
      obtain ⟨D, hD⟩ : ∃ D, diffR a b = D := ⟨_, rfl⟩
      rw [hD] at HDI HBEG HUP HNIL
      clear HQ HALL HL4 hD
      go_wp2_with fail
      refine HDI.out.mono ?_
      rintro e' w5 ⟨v5, rfl, ho5, hb5⟩
      have HP5 := Lib.hid ho5.pcs
      obtain ⟨dA, dc, rfl⟩ := ho5.slice
      have HB5 := Lib.hid (HBW.out.trans (hb5.mono HBW.out.size))
      have HA5 := Lib.hid ((HA4.out.below HB5.out).more HB5.out.size)
      have HBB5 := Lib.hid ((HBB4.out.below HB5.out).more HB5.out.size)
      have HBT5 := Lib.hid (HBT.out.trans (HB5.out.mono HBT.out.size))
      have hdl : D.length ≤ 9223372036854775807 := by
        obtain ⟨A', c', e, h1, h2, -⟩ := HP5.out
        unfold maxLen at h2
        omega
      clear hb5 ho5 HDI HBW HA4 HBB4 HBT HB5
      go_wp2
      go_loopw [17] (fun i wr => ∃ k : Nat, k ≤ D.length ∧ i = .int .i64 k ∧ Hid (Below w5.heap.size w5 wr)) (fun i _ => D.length - (intOf i).toNat)
      case atStart => exact ⟨0, Nat.zero_le _, rfl, Below.refl _ _⟩
      case round =>
        obtain ⟨k, hk, rfl, HBW⟩ := hrel
        by_cases hlt : k < D.length
        · obtain ⟨A', c', e, h1, h2, h3⟩ := HP5.out
          injection e with e e1 e2
          subst e e2
          obtain ⟨rb, ro, rfl, hrb, hr⟩ := h3 (by omega)
          have hrk := hr k hlt
          have HPR := Lib.hid hr
          obtain ⟨b1, b2, b3⟩ := HBEG.out D[k] (List.getElem_mem hlt)
          have HNX : Hid (∀ j (hj : j + 1 = k), (D[j]'(by omega)).2.1 ≤ (D[k]'hlt).1) := by
            intro j hj
            subst hj
            exact ce_next HUP.out j hlt
          clear hr h3 e1
          generalize hp : D[k] = p at hrk b1 b2 b3 HNX
          clear hp
          have HRK := Lib.hid hrk
          obtain ⟨f, e, ⟨hk', hn, hs⟩, ⟨nk, nn, ns⟩⟩ := p
          clear hrk
          unfold maxLen at h2
          obtain ⟨is, hx⟩ : ∃ is, atR a f = ((hk', hn, hs), is) := ⟨_, Prod.ext b1 rfl⟩
          obtain ⟨so, hy⟩ : ∃ so, atR b f = ((nk, nn, ns), so) := ⟨_, Prod.ext b2 rfl⟩
          have hne : ((hk', hn, hs) : Vl) ≠ (nk, nn, ns) := b3
          clear b1 b2 b3
          have hw0 : rb < wr.heap.size := Nat.lt_of_lt_of_le hrb HBW.out.size
          have HPC : Hid (∀ W : World, Below w5.heap.size w5 W → PcAt W rb (ro + k * 8) (f, e, (hk', hn, hs), (nk, nn, ns))) := by
            intro W h
            exact HRK.out.keep fun o => h.cell (p := ⟨rb, o, none⟩) hrb
          obtain ⟨c0, -, -, -, -, -, -, -⟩ := HPC.out _ HBW.out
          simp only at c0
          have HC1 := Lib.hid (at15 a f _ wr ((HA5.out.below HBW.out).more HBW.out.size))
          rw [hx] at HC1
          unfold valV at HC1
          simp only at HC1
          clear hx
          go_wp2_with fail
          refine HC1.out.mono ?_
          rintro e' w6 ⟨rfl, hb6⟩
          have hn6 := below_new w6 (.cells #[.int .i64 hk', .int .i64 hn, .string hs] 25)
          have HB6 : Hid (Below w5.heap.size w5 (w6.alloc (.cells #[.int .i64 hk', .int .i64 hn, .string hs] 25))) := HBW.out.trans ((hb6.trans (hn6.mono hb6.size)).mono HBW.out.size)
          have HV6 := Lib.hid (ValAt.new w6 hk' hn hs)
          clear hb6 hn6 c0 HC1
          obtain ⟨c0, -, -, -, -, -, -, -⟩ := HPC.out _ HB6.out
          simp only at c0
          have HC2 := Lib.hid (at15 b f _ _ ((HBB5.out.below HB6.out).more HB6.out.size))
          rw [hy] at HC2
          unfold valV at HC2
          simp only at HC2
          clear hy
          go_wp2_with fail
          refine HC2.out.mono ?_
          rintro e' w7 ⟨rfl, hb7⟩
          have hn7 := below_new w7 (.cells #[.int .i64 nk, .int .i64 nn, .string ns] 25)
          have HB7 : Hid (Below w5.heap.size w5 (w7.alloc (.cells #[.int .i64 nk, .int .i64 nn, .string ns] 25))) := HB6.out.trans ((hb7.trans (hn7.mono hb7.size)).mono HB6.out.size)
          obtain ⟨x0, x1, x2⟩ := (HV6.out.step hb7).step hn7
          obtain ⟨y0, y1, y2⟩ := ValAt.new w7 nk nn ns
          obtain ⟨c0, c1, c2, c3, c4, c5, c6, c7⟩ := HPC.out _ HB7.out
          simp only at x0 x1 x2 y0 y1 y2 c0 c1 c2 c3 c4 c5 c6 c7
          have heq1 := neqVl (hk', hn, hs) (hk', hn, hs) false (by simp)
          have heq2 := neqVl (nk, nn, ns) (nk, nn, ns) false (by simp)
          have heq3 := eqlVl (hk', hn, hs) (nk, nn, ns) false (decide_eq_false hne)
          unfold valV at heq1 heq2 heq3
          simp only at heq1 heq2 heq3
          clear hb7 hn7 HC2 HV6 HB6 hne
          cases k with
          | zero =>
            go_wp2_with fail
            go_quiet (fail)
            go_wp2
            exact ⟨⟨1, by omega, rfl, below_drewN HB7.out _⟩, by simp [intOf]; omega⟩
          | succ j =>
            have hpj := (HPR.out j (by omega)).keep fun o => HB7.out.cell (p := ⟨rb, o, none⟩) hrb
            have hnx := HNX.out j rfl
            generalize D[j] = p at hpj hnx
            obtain ⟨pf, pe, ⟨pk, pn, ps⟩, ⟨mk, mn, ms⟩⟩ := p
            obtain ⟨-, p1, -, -, -, -, -, -⟩ := hpj
            simp only at p1 hnx
            go_wp2_with fail
            go_quiet (fail)
            go_wp2
            exact ⟨⟨j + 2, by omega, by go_num, below_drewN HB7.out _⟩, by simp [intOf]; omega⟩
        · have HSM : Hid (Calls Try.prog 17 #[.slice aA a.length ac, .slice bA b.length bc] wr fun e w' => e = .returned (.bool q) ∧ Below wr.heap.size wr w') := by
            unfold Hid
            rw [HQD.out]
            exact same17 a b _ _ wr ((HA5.out.below HBW.out).more HBW.out.size) ((HBB5.out.below HBW.out).more HBW.out.size)
          have HBX := Lib.hid (HBT5.out.trans (HBW.out.mono HBT5.out.size))
          have hlen : ((D.length : Int) == 0) = q := by
            rw [HQD.out, Bool.eq_iff_iff]
            simp only [beq_iff_eq, decide_eq_true_eq]
            rw [← HNIL.out]
            constructor
            · intro h; exact List.eq_nil_of_length_eq_zero (by omega)
            · intro h; rw [h]; rfl
          clear HQD HNIL HBEG HUP HBW HBT5 HA5 HBB5 HP5
          cases q with
          | false =>
            go_wp2_with fail
            refine HSM.out.mono ?_
            rintro e' w6 ⟨rfl, hb6⟩
            have HB6 := Lib.hid (HBX.out.trans (hb6.mono HBX.out.size))
            clear hb6
            go_wp2_with fail
            refine (HLV.out _).mono ?_
            rintro e' w9 ⟨rfl, hb9⟩
            have HB9 := Lib.hid (HB6.out.trans (hb9.mono HB6.out.size))
            clear hb9
            go_wp2
            go_ret
            exact ⟨rfl, HB9.out⟩
          | true =>
            go_wp2_with fail
            refine HSM.out.mono ?_
            rintro e' w6 ⟨rfl, hb6⟩
            have HB6 := Lib.hid (HBX.out.trans (hb6.mono HBX.out.size))
            clear hb6
            go_wp2_with fail
            refine (HLV.out _).mono ?_
            rintro e' w9 ⟨rfl, hb9⟩
            have HB9 := Lib.hid (HB6.out.trans (hb9.mono HB6.out.size))
            clear hb9
            go_wp2
            go_ret
            exact ⟨rfl, HB9.out⟩
end Go.Proofs.Ytecefhoinggmgaa
