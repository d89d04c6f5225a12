/-
  Contract of the document's over. No condition.
-/
import Derived.Test.YtecefhoinggmgaaSY
import Derived.Test.YtecefhoinggmgaaPI
namespace Go.Proofs.Ytecefhoinggmgaa
open Go.RowKit

theorem segs_get {α : Type} (g : Int → Int → α) : ∀ (b : List Int) (k : Nat) (h : k + 1 < b.length) (h' : k < (segs g b).length), (segs g b)[k] = (b[k], b[k + 1], g b[k] b[k + 1])
  | [], _, h, _ => by simp at h
  | [_], _, h, _ => by simp at h
  | a :: c :: r, 0, _, _ => rfl
  | a :: c :: r, k + 1, h, h' => segs_get g (c :: r) k (by simpa using h) (by simpa [segs] using h')

theorem joins_len_le {α : Type} [DecidableEq α] (nn : α → Bool) : ∀ (S out : List (Seg α)), (joins nn out S).length ≤ out.length + S.length
  | [], out => by simp [joins]
  | x :: S, out => by
    have h := joins_len_le nn S (joinStep nn out x)
    have h2 : (joinStep nn out x).length ≤ out.length + 1 := by
      unfold joinStep
      split
      · omega
      · exact (addL_length out x).2
    show (joins nn (joinStep nn out x) S).length ≤ _
    simp only [List.length_cons]
    omega

theorem gv_lkD (l : List Row) (t : Int) : gv l t = lkD l t := rfl
theorem addK_join (l : List Row) (r : Row) : addK l r = joinStep kindZ l r := rfl

/-- What a round of over holds: two bounds, the local x, what lay. -/
structure Rnd (wr : World) (b o0 o1 xb : Nat) (p0 p1 : Int) (x : Vl) (W : World) : Prop where
  c0 : W.cell? ⟨b, o0, none⟩ = some (.int .i64 p0)
  c1 : W.cell? ⟨b, o1, none⟩ = some (.int .i64 p1)
  x : ValAt W xb x
  hb : b < W.heap.size
  bel : Below wr.heap.size wr W
theorem Rnd.drew {wr : World} {b o0 o1 xb : Nat} {p0 p1 : Int} {x : Vl} {W : World} (h : Rnd wr b o0 o1 xb p0 p1 x W) : Rnd wr b o0 o1 xb p0 p1 x W.drew := ⟨h.c0, h.c1, ⟨h.x.c0, h.x.c1, h.x.c2⟩, h.hb, h.bel.drew⟩
theorem Rnd.step {wr : World} {b o0 o1 xb : Nat} {p0 p1 : Int} {x : Vl} {W W2 : World} (h : Rnd wr b o0 o1 xb p0 p1 x W) (hb : Below W.heap.size W W2) : Rnd wr b o0 o1 xb p0 p1 x W2 :=
  ⟨(hb.cell h.hb).trans h.c0, (hb.cell h.hb).trans h.c1, h.x.step hb, Nat.lt_of_lt_of_le h.hb hb.size, h.bel.trans (hb.mono h.bel.size)⟩
theorem SRn {wr : World} {b o0 o1 xb : Nat} {p0 p1 k n : Int} {s : ByteArray} {W : World} (h : Rnd wr b o0 o1 xb p0 p1 (k, n, s) W) : W.cell? ⟨b, o0, none⟩ = some (.int .i64 p0) ∧ W.cell? ⟨b, o1, none⟩ = some (.int .i64 p1) ∧ W.cell? ⟨xb, 0, none⟩ = some (.int .i64 k) ∧ W.cell? ⟨xb, 1, none⟩ = some (.int .i64 n) ∧ W.cell? ⟨xb, 2, none⟩ = some (.string s) ∧ Rnd wr b o0 o1 xb p0 p1 (k, n, s) W := ⟨h.c0, h.c1, h.x.c0, h.x.c1, h.x.c2, h⟩

set_option maxHeartbeats 1000000 in
theorem over34 (l : List Row) (f t : Int) (v : Vl) (lv : Value) (w : World) (hl : RowsAt w w.heap.size lv l) (hlen : l.length ≤ 40000) :
    Calls Try.prog 34 #[lv, .int .i64 f, .int .i64 t, valV v] w fun e w' => ∃ v', e = .returned v' ∧ RowsAt w' w'.heap.size v' (overL l f t v) ∧ Below w.heap.size w w' := by
  obtain ⟨k, n, s⟩ := v
  unfold valV
  simp only
  obtain ⟨ans, hans⟩ : ∃ ans, overL l f t (k, n, s) = ans := ⟨_, rfl⟩
  rw [hans]
  have HANS := Lib.hid hans
  clear hans
  have hb0 := below_new w (.cells #[.int .i64 k, .int .i64 n, .string s] 25)
  have HB0 := Lib.hid hb0
  have HV := Lib.hid (ValAt.new w k n s)
  have HL := Lib.hid (hl.step hb0)
  obtain ⟨A, cap, rfl, h1, h2, h3⟩ := hl
  unfold maxLen at h2
  clear h3 hb0
  go_enter Try.func34, Try.ntmps34
  go_wp2_with fail
  generalize w.alloc (.cells #[.int .i64 k, .int .i64 n, .string s] 25) = W0 at HB0 HL HV ⊢
  refine (insert49 [] f _ W0 (OwnI.nil W0 W0.heap.size).ints (by simp)).mono ?_
  rintro e' w1 ⟨v1, rfl, ho1, hb1⟩
  have HI2 := Lib.hid (insert49 (insL [] f) t _ w1 ho1.ints (by have := insL_length [] f; simp at this; omega))
  have HB1 := Lib.hid hb1
  obtain ⟨A1, c1, rfl⟩ := ho1.slice
  clear ho1 hb1
  go_wp2_with fail
  refine HI2.out.mono ?_
  rintro e' w2 ⟨v2, rfl, ho2, hb2⟩
  have HB2 : Hid (Below W0.heap.size W0 w2) := HB1.out.trans (hb2.mono HB1.out.size)
  have HBN := Lib.hid (bounds46 (insL (insL [] f) t) l _ _ w2 ho2.ints (HL.out.step HB2.out) (by
    have := insL_length [] f
    have := insL_length (insL [] f) t
    simp at *
    omega))
  obtain ⟨A2, c2, rfl⟩ := ho2.slice
  clear ho2 hb2 HB1 HI2
  go_wp2_with fail
  refine HBN.out.mono ?_
  rintro e' w3 ⟨v3, rfl, ho3, hb3⟩
  have HB3 : Hid (Below W0.heap.size W0 w3) := HB2.out.trans (hb3.mono HB2.out.size)
  have hbl : (overB l f t).length ≤ 90000 := by
    have h0 := boundsL_length l (insL (insL [] f) t)
    have h1 := insL_length [] f
    have h2 := insL_length (insL [] f) t
    unfold overB
    simp at h1
    omega
  have HANS2 : Hid (joins kindZ [] (segs (overG l f t (k, n, s)) (overB l f t)) = ans) := HANS.out
  have HBS : Hid (IntsAt w3 w3.heap.size v3 (overB l f t)) := ho3
  clear ho3 hb3 HBN HB2 HANS
  generalize overB l f t = bs at hbl HANS2 HBS
  obtain ⟨sA, sc, rfl, s1, s2, s3⟩ := HBS.out
  unfold maxLen at s2
  obtain ⟨S, hS⟩ : ∃ S, segs (overG l f t (k, n, s)) bs = S := ⟨_, rfl⟩
  rw [hS] at HANS2
  have hSl : S.length = bs.length - 1 := by rw [← hS, segs_length]
  have HSG : Hid (∀ (j : Nat) (h : j + 1 < bs.length) (h' : j < S.length), S[j] = (bs[j], bs[j + 1], overG l f t (k, n, s) bs[j] bs[j + 1])) := by
    unfold Hid
    subst hS
    exact segs_get _ bs
  clear hS
  go_wp2
  go_loopw [10, 11] (fun s6 i wr => ∃ (j : Nat), j ≤ bs.length - 1 ∧ i = .int .i64 ((j : Int) + 1) ∧ RowsAt wr wr.heap.size s6 (joins kindZ [] (S.take j)) ∧ Hid (Below W0.heap.size W0 wr) ∧ Hid (Below w3.heap.size w3 wr)) (fun _ i _ => bs.length - (intOf i).toNat)
  case atStart => exact ⟨0, Nat.zero_le _, rfl, (OwnR.nil w3 w3.heap.size).rows, HB3, Below.refl _ _⟩
  case round =>
    obtain ⟨j, hj, rfl, hout, HBW, HBV⟩ := hrel
    have HO := Lib.hid hout
    have hol : (joins kindZ [] (S.take j)).length ≤ 90000 := by
      have h := joins_len_le kindZ (S.take j) []
      rw [List.length_take] at h
      simp at h
      omega
    obtain ⟨out, hout2⟩ : ∃ out, joins kindZ [] (S.take j) = out := ⟨_, rfl⟩
    have HOUT := Lib.hid hout2
    rw [hout2] at hol HO hout
    obtain ⟨oA, oc, rfl, -⟩ := hout
    clear hout2
    by_cases hlt : j + 1 < bs.length
    · obtain ⟨b, o, rfl, hb, hr⟩ := s3 (by omega)
      have hc0 := (HBV.out.cell (p := ⟨b, o + j, none⟩) hb).trans (hr j (by omega))
      have hc1 := (HBV.out.cell (p := ⟨b, o + (j + 1), none⟩) hb).trans (hr (j + 1) hlt)
      have hbw : b < wr.heap.size := Nat.lt_of_lt_of_le hb HBV.out.size
      have HX := Lib.hid (HSG.out j hlt (by omega))
      have HTK : Hid (S.take (j + 1) = S.take j ++ [S[j]]) := List.take_succ_eq_append_getElem (by omega)
      have hGj : S[j]'(by omega) = (bs[j], bs[j + 1], overG l f t (k, n, s) bs[j] bs[j + 1]) := HX.out
      have HTK2 : Hid (joins kindZ [] (S.take (j + 1)) = addK out (bs[j], bs[j + 1], overG l f t (k, n, s) bs[j] bs[j + 1])) := by
        unfold Hid
        rw [HTK.out, hGj, addK_join, ← HOUT.out]
        unfold joins
        rw [List.foldl_append]; rfl
      clear hGj HX HTK hr
      generalize bs[j] = p0 at hc0 HTK2
      generalize bs[j + 1] = p1 at hc1 HTK2
      clear s3 HBS HSG
      have HLR := Lib.hid (HL.out.step HBW.out)
      have HVR := Lib.hid (HV.out.step HBW.out)
      have HH := Lib.hid (had37 l p0 _ wr HLR.out)
      have HG : Hid (overG l f t (k, n, s) p0 p1 = if f ≤ p0 ∧ p1 ≤ t then (k, n, s) else lkD l p0) := rfl
      generalize lkD l p0 = g at HH HG
      obtain ⟨gk, gn, gs⟩ := g
      unfold valV at HH
      simp only at HH
      have hi2 : (j : Int) + 1 - 1 = (j : Int) := by omega
      have hi3 : IntKind.i64.wrap (j : Int) = (j : Int) := IntWalk.i64_in _ (by omega)
      have hi4 : (j : Int) + 1 < bs.length := by omega
      have hi5 : (j : Int) < bs.length := by omega
      have hi6 : (0 : Int) ≤ (j : Int) + 1 := by omega
      have hi7 : ((j : Int) + 1).toNat = j + 1 := by omega
      have hlt' : j < bs.length := by omega
      go_wp2_with fail
      refine HH.out.mono ?_
      rintro e' w4 ⟨rfl, hb4⟩
      have HRA : Hid (∀ (yk yn : Int) (ys : ByteArray), Rnd wr b (o + j) (o + (j + 1)) w4.heap.size p0 p1 (yk, yn, ys) (w4.alloc (.cells #[.int .i64 yk, .int .i64 yn, .string ys] 25))) := fun yk yn ys =>
        have hb5 := below_new w4 (.cells #[.int .i64 yk, .int .i64 yn, .string ys] 25)
        ⟨(hb5.cell (Nat.lt_of_lt_of_le hbw hb4.size)).trans ((hb4.cell hbw).trans hc0), (hb5.cell (Nat.lt_of_lt_of_le hbw hb4.size)).trans ((hb4.cell hbw).trans hc1), ValAt.new w4 yk yn ys, Nat.lt_of_lt_of_le (Nat.lt_of_lt_of_le hbw hb4.size) hb5.size, hb4.trans (hb5.mono hb4.size)⟩
      have HR5 := Lib.hid (HRA.out gk gn gs)
      have HRK := Lib.hid (HRA.out k n s)
      have hb5 := below_new w4 (.cells #[.int .i64 gk, .int .i64 gn, .string gs] 25)
      clear HRA
      obtain ⟨d0, d1, d2, d3, d4, -⟩ := SRn HR5.out
      obtain ⟨v0, v1, v2⟩ := (HVR.out.step hb4).step hb5
      simp only at v0 v1 v2
      have hne : w.heap.size ≠ w4.heap.size := by
        have := HVR.out.lt
        have := hb4.size
        omega
      have hne2 : b ≠ w4.heap.size := by
        have := hb4.size
        omega
      clear hb4 hb5 HH
      by_cases hf : f ≤ p0
      · by_cases ht : p1 ≤ t
        · go_wp2_with fail
          have HRX := HRK
          have HXG : Hid (joins kindZ [] (S.take (j + 1)) = addK out (p0, p1, k, n, s)) := by
            unfold Hid
            rw [HTK2.out, HG.out, if_pos ⟨hf, ht⟩]
          have HADD : Hid (∀ W, Rnd wr b (o + j) (o + (j + 1)) w4.heap.size p0 p1 (k, n, s) W → Calls Try.prog 50 #[.slice oA out.length oc, .int .i64 p0, .int .i64 p1, .agg #[.int .i64 k, .int .i64 n, .string s]] W fun e w' => ∃ v', e = .returned v' ∧ RowsAt w' w'.heap.size v' (addK out (p0, p1, k, n, s)) ∧ Below W.heap.size W w') :=
            fun W h => add50 out p0 p1 (k, n, s) _ W (HO.out.step h.bel) (by omega)
          go_region_held3 (fun w'' => w''.cell? ⟨b, o + j, none⟩ = some (.int .i64 p0) ∧ w''.cell? ⟨b, o + (j + 1), none⟩ = some (.int .i64 p1) ∧ w''.cell? ⟨w4.heap.size, 0, none⟩ = some (.int .i64 k) ∧ w''.cell? ⟨w4.heap.size, 1, none⟩ = some (.int .i64 n) ∧ w''.cell? ⟨w4.heap.size, 2, none⟩ = some (.string s) ∧ Rnd wr b (o + j) (o + (j + 1)) w4.heap.size p0 p1 (k, n, s) w'')
            ((apply SRn; first | exact HRX.out.drew | exact Rnd.step HRX.out.drew (by assumption)))
            ((go_at_call 50; refine (HADD.out _ HRX.out.drew).mono ?_; rintro e' w6 ⟨v6, rfl, ho6, hb6⟩))
          rename_i hHeld
          have HB6 : Hid (Below wr.heap.size wr w6) := hHeld.2.2.2.2.2.bel
          have HO6 : Hid (RowsAt w6 w6.heap.size v6 (joins kindZ [] (S.take (j + 1)))) := by unfold Hid; rw [HXG.out]; exact ho6
          obtain ⟨A6, c6, rfl, -⟩ := ho6
          clear hHeld hb6 HADD HXG HRX
          go_wp2
          go_roundw
          case rel => exact ⟨j + 1, by omega, by go_num, HO6.out, HBW.out.trans (HB6.out.mono HBW.out.size), HBV.out.trans (HB6.out.mono HBV.out.size)⟩
          case measure => simp [intOf]; omega
        · go_wp2_with fail
          have HRX := HR5
          have HXG : Hid (joins kindZ [] (S.take (j + 1)) = addK out (p0, p1, gk, gn, gs)) := by
            unfold Hid
            rw [HTK2.out, HG.out, if_neg (by omega)]
          have HADD : Hid (∀ W, Rnd wr b (o + j) (o + (j + 1)) w4.heap.size p0 p1 (gk, gn, gs) W → Calls Try.prog 50 #[.slice oA out.length oc, .int .i64 p0, .int .i64 p1, .agg #[.int .i64 gk, .int .i64 gn, .string gs]] W fun e w' => ∃ v', e = .returned v' ∧ RowsAt w' w'.heap.size v' (addK out (p0, p1, gk, gn, gs)) ∧ Below W.heap.size W w') :=
            fun W h => add50 out p0 p1 (gk, gn, gs) _ W (HO.out.step h.bel) (by omega)
          go_region_held3 (fun w'' => w''.cell? ⟨b, o + j, none⟩ = some (.int .i64 p0) ∧ w''.cell? ⟨b, o + (j + 1), none⟩ = some (.int .i64 p1) ∧ w''.cell? ⟨w4.heap.size, 0, none⟩ = some (.int .i64 gk) ∧ w''.cell? ⟨w4.heap.size, 1, none⟩ = some (.int .i64 gn) ∧ w''.cell? ⟨w4.heap.size, 2, none⟩ = some (.string gs) ∧ Rnd wr b (o + j) (o + (j + 1)) w4.heap.size p0 p1 (gk, gn, gs) w'')
            ((apply SRn; first | exact HRX.out.drew | exact Rnd.step HRX.out.drew (by assumption)))
            ((go_at_call 50; refine (HADD.out _ HRX.out.drew).mono ?_; rintro e' w6 ⟨v6, rfl, ho6, hb6⟩))
          rename_i hHeld
          have HB6 : Hid (Below wr.heap.size wr w6) := hHeld.2.2.2.2.2.bel
          have HO6 : Hid (RowsAt w6 w6.heap.size v6 (joins kindZ [] (S.take (j + 1)))) := by unfold Hid; rw [HXG.out]; exact ho6
          obtain ⟨A6, c6, rfl, -⟩ := ho6
          clear hHeld hb6 HADD HXG HRX
          go_wp2
          go_roundw
          case rel => exact ⟨j + 1, by omega, by go_num, HO6.out, HBW.out.trans (HB6.out.mono HBW.out.size), HBV.out.trans (HB6.out.mono HBV.out.size)⟩
          case measure => simp [intOf]; omega
      · go_wp2_with fail
        have HRX := HR5
        have HXG : Hid (joins kindZ [] (S.take (j + 1)) = addK out (p0, p1, gk, gn, gs)) := by
          unfold Hid
          rw [HTK2.out, HG.out, if_neg (by omega)]
        have HADD : Hid (∀ W, Rnd wr b (o + j) (o + (j + 1)) w4.heap.size p0 p1 (gk, gn, gs) W → Calls Try.prog 50 #[.slice oA out.length oc, .int .i64 p0, .int .i64 p1, .agg #[.int .i64 gk, .int .i64 gn, .string gs]] W fun e w' => ∃ v', e = .returned v' ∧ RowsAt w' w'.heap.size v' (addK out (p0, p1, gk, gn, gs)) ∧ Below W.heap.size W w') :=
          fun W h => add50 out p0 p1 (gk, gn, gs) _ W (HO.out.step h.bel) (by omega)
        go_region_held3 (fun w'' => w''.cell? ⟨b, o + j, none⟩ = some (.int .i64 p0) ∧ w''.cell? ⟨b, o + (j + 1), none⟩ = some (.int .i64 p1) ∧ w''.cell? ⟨w4.heap.size, 0, none⟩ = some (.int .i64 gk) ∧ w''.cell? ⟨w4.heap.size, 1, none⟩ = some (.int .i64 gn) ∧ w''.cell? ⟨w4.heap.size, 2, none⟩ = some (.string gs) ∧ Rnd wr b (o + j) (o + (j + 1)) w4.heap.size p0 p1 (gk, gn, gs) w'')
          ((apply SRn; first | exact HRX.out.drew | exact Rnd.step HRX.out.drew (by assumption)))
          ((go_at_call 50; refine (HADD.out _ HRX.out.drew).mono ?_; rintro e' w6 ⟨v6, rfl, ho6, hb6⟩))
        rename_i hHeld
        have HB6 : Hid (Below wr.heap.size wr w6) := hHeld.2.2.2.2.2.bel
        have HO6 : Hid (RowsAt w6 w6.heap.size v6 (joins kindZ [] (S.take (j + 1)))) := by unfold Hid; rw [HXG.out]; exact ho6
        obtain ⟨A6, c6, rfl, -⟩ := ho6
        clear hHeld hb6 HADD HXG HRX
        go_wp2
        go_roundw
        case rel => exact ⟨j + 1, by omega, by go_num, HO6.out, HBW.out.trans (HB6.out.mono HBW.out.size), HBV.out.trans (HB6.out.mono HBV.out.size)⟩
        case measure => simp [intOf]; omega
    · have hjl : S.take j = S := List.take_of_length_le (by omega)
      have he : out = ans := by rw [← HOUT.out, hjl]; exact HANS2.out
      subst he
      have hge : ¬ ((j : Int) + 1 < bs.length) := by omega
      go_wp2
      go_ret
      exact ⟨_, rfl, HO.out, HB0.out.trans (HBW.out.mono HB0.out.size)⟩
end Go.Proofs.Ytecefhoinggmgaa
