/-
  The document's digit, Hex and Unhex.
-/
import Derived.Test.YtpabggcjmaobhaaDoorN
namespace Go.Proofs.YtpabggcjmaobhaaDoor
open Go.RowKit

/-- A digit's number, or -1. -/
def digitI (c : UInt8) : Int := match digit c with
  | some n => (n : Int)
  | none => -1

set_option maxHeartbeats 400000 in
theorem refDigit23 (c : UInt8) (w : World) :
    Calls Tryd.prog 23 #[.int .u8 (c.toNat : Int)] w fun e w' => e = .returned (.int .i64 (digitI c)) ∧ w = w' := by
  have hc := c.toNat_lt
  by_cases h1 : 48 ≤ c.toNat ∧ c.toNat ≤ 57
  · have hr : Hid (digitI c = (c.toNat : Int) - 48) := by
      unfold Hid digitI digit; rw [if_pos h1]; show ((c.toNat - 48 : Nat) : Int) = _; omega
    obtain ⟨h1, h2⟩ := h1
    rw [hr.out]
    clear hr
    go_enter Tryd.func23, Tryd.ntmps23
    go_wp2
    go_ret
    exact ⟨rfl, rfl⟩
  · by_cases h2 : 97 ≤ c.toNat ∧ c.toNat ≤ 102
    · have hr : Hid (digitI c = (c.toNat : Int) - 97 + 10) := by
        unfold Hid digitI digit; rw [if_neg h1, if_pos h2]; show ((c.toNat - 87 : Nat) : Int) = _; omega
      rw [hr.out]
      obtain ⟨h2, h3⟩ := h2
      have h4 : ¬ (c.toNat : Int) ≤ 57 := by omega
      clear hr h1
      go_enter Tryd.func23, Tryd.ntmps23
      go_wp2
      go_ret
      exact ⟨rfl, rfl⟩
    · have hr : Hid (digitI c = -1) := by unfold Hid digitI digit; rw [if_neg h1, if_neg h2]
      rw [hr.out]
      clear hr
      have ht1 : (decide (48 ≤ (c.toNat : Int)) && decide ((c.toNat : Int) ≤ 57)) = false := by
        simp; omega
      have ht2 : (decide (97 ≤ (c.toNat : Int)) && decide ((c.toNat : Int) ≤ 102)) = false := by
        simp; omega
      go_enter Tryd.func23, Tryd.ntmps23
      go_wp2
      all_goals (go_ret; exact ⟨rfl, rfl⟩)

theorem refDigit23q (c : UInt8) (w : World) :
    Calls Tryd.prog 23 #[.int .u8 (c.toNat : Int)] w fun e w' => e = .returned (.int .i64 (digitI c)) ∧ ∃ m, w' = w.drewN m :=
  (refDigit23 c w).mono fun _ _ ⟨he, hw⟩ => ⟨he, 0, hw.symm⟩

theorem cat_str (M x Mx : List UInt8) (h : M ++ x = Mx) : (⟨M.toArray⟩ : ByteArray) ++ ⟨x.toArray⟩ = ⟨Mx.toArray⟩ := by
  rw [← h]; apply ByteArray.ext; simp

theorem conv_one (z : Int) (q : UInt8) (h : (q.toNat : Int) = z) (w : World) :
    (convert 47 9 (.slice (some ⟨w.heap.size, 0, none⟩) 1 1)).run Tryd.prog (w.alloc (.cells #[.int .u8 z] 5)) = .ok (.string ⟨#[q]⟩) (w.alloc (.cells #[.int .u8 z] 5)) :=
  conv_own w.heap.size 1 1 (some ⟨w.heap.size, 0, none⟩) [q] _ (Own.new0 w w.heap.size (Nat.le_refl _) q z h) rfl

set_option maxHeartbeats 800000 in
theorem refUnhex12 (s : ByteArray) (hs : s.size ≤ 400000) (w : World) :
    Calls Tryd.prog 12 #[.string s] w fun e w' => e = .returned (unhexE (unhexL s.data.toList)) ∧ Below w.heap.size w w' := by
  have hsl : s.data.toList.length = s.size := by simp
  obtain ⟨E, hE⟩ : ∃ E, unhexE (unhexL s.data.toList) = E := ⟨_, rfl⟩
  rw [hE]
  by_cases hodd : s.size % 2 = 1
  · have h1 : (((s.size : Int) % 2) == 1) = true := by
      have : (s.size : Int) % 2 = 1 := by omega
      simpa using this
    have HE : Hid (E = .tuple #[.string ⟨#[]⟩, .int .i64 4]) := by
      unfold Hid; rw [← hE, unhexL_odd _ (by rw [hsl]; exact hodd)]; rfl
    clear hE
    go_enter Tryd.func12, Tryd.ntmps12
    go_wp2
    go_ret2
    exact ⟨by rw [HE.out]; rfl, Below.refl _ _⟩
  · have h1 : (((s.size : Int) % 2) == 1) = false := by
      have : ¬ (s.size : Int) % 2 = 1 := by omega
      simpa using this
    have HE := Lib.hid hE
    have HSL := Lib.hid hsl
    clear hE hsl
    go_enter Tryd.func12, Tryd.ntmps12
    go_wp2
    go_loopw [4, 5] (fun s4 s5 wr => ∃ (k : Nat) (out : List UInt8), 2 * k ≤ s.size ∧ s5 = .int .i64 (2 * (k : Int)) ∧ s4 = .string ⟨out.toArray⟩ ∧ Hid (out.length = k) ∧ Hid (unhexL s.data.toList = (unhexL (s.data.toList.drop (2 * k))).map (out ++ ·)) ∧ Hid (Below w.heap.size w wr)) (fun _ s5 _ => s.size - (intOf s5).toNat)
    case atStart => exact ⟨0, [], by omega, rfl, rfl, rfl, by simp [Hid], Below.refl _ _⟩
    case round =>
      obtain ⟨k, out, hk, rfl, rfl, HK, HU, HB⟩ := hrel
      have hB1 := HB.out.size
      by_cases hlt : 2 * k < s.size
      · have hj1 : 2 * k + 1 < s.size := by omega
        obtain ⟨j, hj⟩ : ∃ j, j = 2 * k := ⟨_, rfl⟩
        obtain ⟨j', hj'⟩ : ∃ j', j' = 2 * k + 1 := ⟨_, rfl⟩
        have e0 : 2 * (k : Int) = (j : Int) := by omega
        have e1 : IntKind.i64.wrap ((j : Int) + 1) = (j' : Int) := by rw [IntKind.wrap_i64]; omega
        have hb0 : (j : Int) < s.size := by omega
        have hb1 : (j' : Int) < s.size := by omega
        have hjn : j < s.size := by omega
        have hj'n : j' < s.size := by omega
        have hs1 := unhexL_step s.data.toList k out HU.out (by rw [HSL.out]; exact hj1)
        rw [← hj', ← hj, getD_byte s j hjn, getD_byte s j' hj'n] at hs1
        rw [e0]
        have HJ : Hid (((j : Int) + 2) = 2 * ((k + 1 : Nat) : Int)) := by unfold Hid; omega
        have HJK : Hid (2 * (k + 1) ≤ s.size) := by unfold Hid; omega
        have hjl : j ≤ 400000 := by omega
        have hol : out.length ≤ 400000 := by rw [HK.out]; omega
        have HS1 := Lib.hid hs1
        clear hj hj' e0 hj1 hlt hk hs1 HU
        have HX : Hid (digit s[j] = none ∧ digitI s[j] = -1 ∨ ∃ x : Nat, digit s[j] = some x ∧ digitI s[j] = (x : Int)) := by
          unfold Hid digitI
          cases digit s[j] with
          | none => exact Or.inl ⟨rfl, rfl⟩
          | some x => exact Or.inr ⟨x, rfl, rfl⟩
        have HY : Hid (digit s[j'] = none ∧ digitI s[j'] = -1 ∨ ∃ x : Nat, digit s[j'] = some x ∧ digitI s[j'] = (x : Int)) := by
          unfold Hid digitI
          cases digit s[j'] with
          | none => exact Or.inl ⟨rfl, rfl⟩
          | some x => exact Or.inr ⟨x, rfl, rfl⟩
        go_wp2
        go_quiet ((go_at_call 23; exact Calls.quiet_of (refDigit23q _ _)))
        generalize digitI s[j] = d1 at HX ⊢
        generalize digitI s[j'] = d2 at HY ⊢
        have HB3 : Hid (Below w.heap.size w (wr.drewN nq)) := HB.out.trans ⟨rfl, rfl, rfl, Nat.le_refl _, fun _ _ => rfl⟩
        have hB3 := HB3.out.size
        generalize wr.drewN nq = w3 at HB3 hB3 ⊢
        clear HB hB1
        rcases HX.out with ⟨hx, rfl⟩ | ⟨x, hx, rfl⟩
        · have HF : Hid (E = .tuple #[.string ⟨#[]⟩, .int .i64 4]) := by
            unfold Hid; rw [← HE.out, HS1.out.2 (Or.inl hx)]; rfl
          clear HS1 hx HX HY
          go_wp2
          go_ret2
          exact ⟨by rw [HF.out]; rfl, HB3.out⟩
        · have hx16 := digit_lt _ _ hx
          rcases HY.out with ⟨hy, rfl⟩ | ⟨y, hy, rfl⟩
          · have HF : Hid (E = .tuple #[.string ⟨#[]⟩, .int .i64 4]) := by
              unfold Hid; rw [← HE.out, HS1.out.2 (Or.inr hy)]; rfl
            clear HS1 hx hy HX HY
            go_wp2
            go_ret2
            exact ⟨by rw [HF.out]; rfl, HB3.out⟩
          · have hy16 := digit_lt _ _ hy
            have HU2 := Lib.hid (HS1.out.1 x y hx hy)
            have hq0 : ((UInt8.ofNat (16 * x + y)).toNat : Int) = 16 * (x : Int) + (y : Int) := by rw [UInt8.toNat_ofNat']; omega
            generalize UInt8.ofNat (16 * x + y) = q at HU2 hq0
            have hcv := conv_one (16 * (x : Int) + (y : Int)) q hq0 w3
            have hcat := cat_str out [q] (out ++ [q]) rfl
            have HO2 : Hid ((out ++ [q]).length = k + 1) := by unfold Hid; rw [List.length_append, HK.out]; rfl
            generalize out ++ [q] = out2 at hcat HU2 HO2
            have HB4 : Hid (Below w.heap.size w (w3.alloc (.cells #[.int .u8 (16 * (x : Int) + (y : Int))] 5))) := HB3.out.alloc hB3 _
            clear HS1 hx hy HX HY hq0
            go_wp2
            go_roundw
            case rel => exact ⟨k + 1, out2, HJK.out, by rw [HJ.out], rfl, HO2, HU2, HB4⟩
            case measure => simp [intOf]; omega
      · have hkl : s.data.toList.drop (2 * k) = [] := List.drop_of_length_le (by rw [HSL.out]; omega)
        have HF : Hid (E = .tuple #[.string ⟨out.toArray⟩, .int .i64 0]) := by
          unfold Hid; rw [← HE.out, HU.out, hkl]; simp [unhexL, unhexE]
        clear hkl HU HE
        go_wp2
        go_ret2
        exact ⟨by rw [HF.out]; rfl, HB.out⟩
theorem hexCut (n : Nat) (h1 : n < 16) : (⟨#[48, 49, 50, 51, 52, 53, 54, 55, 56, 57, 97, 98, 99, 100, 101, 102]⟩ : ByteArray).extract n (n + 1) = ⟨#[hexD n]⟩ := by
  have hn : n = 0 ∨ n = 1 ∨ n = 2 ∨ n = 3 ∨ n = 4 ∨ n = 5 ∨ n = 6 ∨ n = 7 ∨ n = 8 ∨ n = 9 ∨ n = 10 ∨ n = 11 ∨ n = 12 ∨ n = 13 ∨ n = 14 ∨ n = 15 := by omega
  rcases hn with rfl | rfl | rfl | rfl | rfl | rfl | rfl | rfl | rfl | rfl | rfl | rfl | rfl | rfl | rfl | rfl <;> (show _ = _; kernel_rfl)

set_option maxHeartbeats 800000 in
theorem refHex14 (s : ByteArray) (hs : s.size ≤ 400000) (w : World) :
    Calls Tryd.prog 14 #[.string s] w fun e w' => e = .returned (.string ⟨(hexL s.data.toList).toArray⟩) ∧ Below w.heap.size w w' := by
  have hsl : s.data.toList.length = s.size := by simp
  obtain ⟨R, hR⟩ : ∃ R, hexL s.data.toList = R := ⟨_, rfl⟩
  rw [hR]
  have HR := Lib.hid hR
  have HSL := Lib.hid hsl
  clear hR hsl
  go_enter Tryd.func14, Tryd.ntmps14
  go_wp2
  go_loopw [3, 4] (fun s3 s4 wr => ∃ k : Nat, k ≤ s.size ∧ s4 = .int .i64 k ∧ s3 = .string ⟨(hexL (s.data.toList.take k)).toArray⟩ ∧ Hid (Below w.heap.size w wr)) (fun _ s4 _ => s.size - (intOf s4).toNat)
  case atStart => exact ⟨0, by omega, rfl, rfl, Below.refl _ _⟩
  case round =>
    obtain ⟨k, hk, rfl, hs3, HB⟩ := hrel
    by_cases hlt : k < s.size
    · have hki : (k : Int) < (s.size : Int) := by omega
      have HN : Hid (hexL (s.data.toList.take k) ++ hex2 s[k] = hexL (s.data.toList.take (k + 1))) := by
        unfold Hid hexL
        rw [List.take_succ_eq_append_getElem (by rw [HSL.out]; exact hlt), List.flatMap_append]
        simp
        rfl
      have hll : (hexL (s.data.toList.take k)).length ≤ 800000 := by rw [hexL_length, List.length_take]; omega
      generalize hexL (s.data.toList.take k) = l at hs3 HN hll
      generalize hl2 : hexL (s.data.toList.take (k + 1)) = l2 at HN
      have HL2 := Lib.hid hl2
      clear hl2
      subst hs3
      have hc := s[k].toNat_lt
      have hc' : (s[k].toNat : Int) < 256 := by omega
      have e1 : (s[k].toNat : Int).tdiv 16 = (s[k].toNat : Int) / 16 := Int.tdiv_eq_ediv_of_nonneg (by omega)
      have e2 : (s[k].toNat : Int).tmod 16 = (s[k].toNat : Int) % 16 := Int.tmod_eq_emod_of_nonneg (by omega)
      go_wp2
      go_quiet (fail)
      have HB3 : Hid (Below w.heap.size w (wr.drewN nq)) := HB.out.trans ⟨rfl, rfl, rfl, Nat.le_refl _, fun _ _ => rfl⟩
      generalize wr.drewN nq = w3 at HB3 ⊢
      unfold hex2 at HN
      have f1 : (s[k].toNat : Int) / 16 = ((s[k].toNat / 16 : Nat) : Int) := by omega
      have f2 : (s[k].toNat : Int) % 16 = ((s[k].toNat % 16 : Nat) : Int) := by omega
      have g1 : s[k].toNat / 16 < 16 := by omega
      have g2 : s[k].toNat % 16 < 16 := by omega
      rw [f1, f2]
      have x1 := hexCut _ g1
      have x2 := hexCut _ g2
      generalize s[k].toNat / 16 = n1 at HN g1 x1 ⊢
      generalize s[k].toNat % 16 = n2 at HN g2 x2 ⊢
      generalize hexD n1 = d1 at HN x1
      generalize hexD n2 = d2 at HN x2
      have hcat1 := cat_str l [d1] (l ++ [d1]) rfl
      have hcat2 := cat_str (l ++ [d1]) [d2] l2 (by rw [← HN.out]; simp)
      have hq1 : (l ++ [d1]).length ≤ 800001 := by simp; omega
      generalize l ++ [d1] = l1 at hcat1 hcat2 hq1
      have y1 : IntKind.i64.wrap ((n1 : Int) + 1) = (n1 : Int) + 1 := by rw [IntKind.wrap_i64]; omega
      have y2 : IntKind.i64.wrap ((n2 : Int) + 1) = (n2 : Int) + 1 := by rw [IntKind.wrap_i64]; omega
      have z1 : (n1 : Int) < 16 := by omega
      have z2 : (n2 : Int) < 16 := by omega
      clear f1 f2 e1 e2 hc hc' HN HB
      go_wp2
      go_quiet (fail)
      have HB4 : Hid (Below w.heap.size w (w3.drewN nq)) := HB3.out.trans ⟨rfl, rfl, rfl, Nat.le_refl _, fun _ _ => rfl⟩
      generalize w3.drewN nq = w4 at HB4 ⊢
      clear x1 x2 hcat1 hcat2 HB3
      go_wp2
      go_roundw
      case rel => exact ⟨k + 1, by omega, by go_num, by rw [HL2.out], HB4⟩
      case measure => simp [intOf]; omega
    · have hkl : k = s.size := by omega
      rw [hkl, ← HSL.out, List.take_length, HR.out] at hs3
      subst hs3
      clear hkl
      go_wp2
      go_ret
      exact ⟨rfl, HB.out⟩
set_option maxHeartbeats 800000 in
theorem hexes4 (s : ByteArray) (w : World) (hT : Tabs keysL initS w) : Calls Tryd.prog 4 #[.string s] w fun e w' => e = .returned (.bool true) ∧ Below w.heap.size w w' := by
  have HL := Lib.hid (fun W (h : Below w.heap.size w W) => lives8 W (hT.below h hT.two))
  by_cases hlong : 3000 < s.size
  · go_enter Tryd.func4, Tryd.ntmps4
    go_wp2_with (go_at_call 8; refine (HL.out _ (Below.refl _ _)).mono ?_; rintro e w' ⟨rfl, hb⟩)
    go_ret
    exact ⟨rfl, hb⟩
  · have HU1 := Lib.hid (unhex11 s (by omega))
    have HU2 := Lib.hid (refUnhex12 s (by omega))
    have HH1 := Lib.hid (hex13 s (by omega))
    have HH2 := Lib.hid (refHex14 s (by omega))
    unfold unhexE at HU1 HU2
    generalize (unhexL s.data.toList).getD [] = u at HU1 HU2
    generalize (if (unhexL s.data.toList).isSome then (0 : Int) else 4) = c at HU1 HU2
    generalize hexL s.data.toList = h at HH1 HH2
    clear hT
    go_enter Tryd.func4, Tryd.ntmps4
    go_wp2_with fail
    refine (HU1.out _).mono ?_
    rintro e w1 ⟨rfl, b1⟩
    go_wp2_with fail
    refine (HU2.out _).mono ?_
    rintro e w2 ⟨rfl, b2⟩
    have B2 : Below w.heap.size w w2 := b1.trans (b2.mono b1.size)
    go_wp2_with fail
    refine (HH1.out _).mono ?_
    rintro e w3 ⟨rfl, b3⟩
    have B3 : Below w.heap.size w w3 := B2.trans (b3.mono B2.size)
    go_wp2_with fail
    refine (HH2.out _).mono ?_
    rintro e w4 ⟨rfl, b4⟩
    have B4 : Below w.heap.size w w4 := B3.trans (b4.mono B3.size)
    go_wp2_with fail
    refine (HL.out _ B4).mono ?_
    rintro e w5 ⟨rfl, b5⟩
    go_wp2
    go_ret
    exact ⟨rfl, B4.trans (b5.mono B4.size)⟩
end Go.Proofs.YtpabggcjmaobhaaDoor
