/-
  The contract of CellBack. No condition.
-/
import Derived.Test.YtdmalkkpcggifaaT
namespace Go.Proofs.Ytdmalkkpcggifaa
open Go.RowKit

theorem zero_same (A : Option Addr) (cap : Nat) (hc : cap ≤ maxLen) (w : World) : Calls Try.prog 15 #[.agg #[.int .i64 0, .int .i64 0, .string ⟨#[]⟩, .slice A 0 cap], .agg #[.int .i64 0, .int .i64 0, .string ⟨#[]⟩, .slice none 0 0]] w fun e w' => e = .returned (.bool true) ∧ Below w.heap.size w w' := by
  have := same15 1 1 0 0 ⟨#[]⟩ [] (.slice A 0 cap) 0 0 ⟨#[]⟩ [] (.slice none 0 0) w ⟨A, cap, rfl, Nat.zero_le _, hc, fun h => by simp at h⟩ (LAt.nil _ _ _)
  rw [sameB_self] at this
  exact this
theorem LAt.cap {w : World} {B d n cap : Nat} {A : Option Addr} {l : List C} (h : LAt w B d (.slice A n cap) l) : cap ≤ maxLen := by
  cases d with
  | zero => exact h.elim
  | succ d =>
    obtain ⟨A', c', e, h1, h2, _⟩ := h
    injection e with e1 e2 e3
    subst e3
    exact h2

set_option maxRecDepth 100000 in
set_option maxHeartbeats 3200000 in
theorem back5 (d : Nat) (ck cn : Int) (cs : ByteArray) (cl : List C) (u : Value) (s : ByteArray) (n : Int) (w : World) (h : LAt w w.heap.size d u cl) (hcs : cs.size ≤ 9223372036854775807) (hn0 : -9223372036854775808 ≤ cn) (hn1 : cn ≤ 9223372036854775807) :
    Calls Try.prog 5 #[.agg #[.int .i64 ck, .int .i64 cn, .string cs, u], .string s, .int .i64 n] w fun e w' => e = .returned (.bool true) ∧ Below w.heap.size w w' := by
  have HB := Lib.hid (Box.new w (.mk ck cn cs cl) u)
  have HL := Lib.hid h
  have HSM := Lib.hid (small7 d ck cn cs cl u (w.alloc (.cells #[.int .i64 ck, .int .i64 cn, .string cs, u] 25)) (h.step HB.out.old) hcs)
  obtain ⟨A, cap, rfl⟩ := h.slice
  have HF : Hid (∀ D, Fit (D + 1) (.mk ck cn cs cl)) := fun D => ⟨hn0, hn1, fit_of_lat d D _ _ h⟩
  generalize hcl : cl.length = cln at HB HL HSM ⊢
  clear h hcs hcl
  by_cases hsm : ¬ 0 < fewM 40 (.mk ck cn cs cl) 5000
  · rw [decide_eq_false hsm] at HSM
    clear hsm
    go_enter Try.func5, Try.ntmps5
    go_wp2_with fail
    refine HSM.out.mono ?_
    rintro e w2 ⟨rfl, hb2⟩
    have HX := Lib.hid (HB.out.step hb2)
    clear hb2 HB
    go_wp2_with fail
    refine (lives8 w2).mono ?_
    rintro e w3 ⟨rfl, hb3⟩
    have HX3 := Lib.hid (HX.out.step hb3)
    clear hb3 HX
    go_wp2_with fail
    go_ret
    exact ⟨rfl, HX3.out.old⟩
  replace hsm := Decidable.not_not.1 hsm
  have HSM2 := Lib.hid hsm
  rw [decide_eq_true hsm] at HSM
  clear hsm
  by_cases hs5 : (5000 : Int) < s.size
  · go_enter Try.func5, Try.ntmps5
    go_wp2_with fail
    refine HSM.out.mono ?_
    rintro e w2 ⟨rfl, hb2⟩
    have HX := Lib.hid (HB.out.step hb2)
    clear hb2 HB
    go_wp2_with fail
    refine (lives8 w2).mono ?_
    rintro e w3 ⟨rfl, hb3⟩
    have HX3 := Lib.hid (HX.out.step hb3)
    clear hb3 HX
    go_wp2_with fail
    go_ret
    exact ⟨rfl, HX3.out.old⟩
  have HLEN : Hid (okC 16 (.mk ck cn cs cl) = true → (encC 16 (.mk ck cn cs cl)).length ≤ 1000000) := fun hok => Nat.le_trans (few_len HSM2.out hok) (by omega)
  have HPUT := Lib.hid (fun w' (hL : LAt w' w'.heap.size d (.slice A cln cap) cl) => put9 d ck cn cs cl (.slice A cln cap) w' hL hn0 hn1 HLEN.out)
  have HSIZE := Lib.hid (fun w' (hL : LAt w' w'.heap.size d (.slice A cln cap) cl) => size13 d ck cn cs cl (.slice A cln cap) w' hL hn0 hn1 HLEN.out)
  by_cases hok : okC 16 (.mk ck cn cs cl) = true
  · have hpe : putE (.mk ck cn cs cl) = 0 := by unfold putE; rw [if_pos hok]
    rw [hpe] at HPUT
    have HTP := Lib.hid (take_put hok (HF.out 15))
    have hpl : (putS (.mk ck cn cs cl)).size ≤ 1000000 := by unfold putS; rw [if_pos hok]; exact HLEN.out hok
    obtain ⟨ps, hps⟩ : ∃ ps, putS (.mk ck cn cs cl) = ps := ⟨_, rfl⟩
    rw [hps] at HPUT HSIZE HTP hpl
    have HTK := Lib.hid (fun w' => take21 ps w' (by omega))
    rw [HTP.out] at HTK
    clear hok hpe hps HTP HLEN
    go_enter Try.func5, Try.ntmps5
    go_wp2_with fail
    refine HSM.out.mono ?_
    rintro e w2 ⟨rfl, hb2⟩
    have hX := HB.out.step hb2
    have b0 : w2.cell? ⟨w.heap.size, 0, none⟩ = some (.int .i64 ck) := hX.cell 0
    have b1 : w2.cell? ⟨w.heap.size, 1, none⟩ = some (.int .i64 cn) := hX.cell 1
    have b2 : w2.cell? ⟨w.heap.size, 2, none⟩ = some (.string cs) := hX.cell 2
    have b3 : w2.cell? ⟨w.heap.size, 3, none⟩ = some (.slice A cln cap) := hX.cell 3
    have HX := Lib.hid hX
    clear hb2 HB hX HSM
    go_wp2_with fail
    refine (HPUT.out w2 (HL.out.step HX.out.old)).mono ?_
    rintro e w3 ⟨rfl, hb3⟩
    have HX3 := Lib.hid (HX.out.step hb3)
    clear hb3 HX b0 b1 b2 b3
    go_wp2_with fail
    refine (HTK.out w3).mono ?_
    rintro e w4 ⟨u4, rfl, hL4, hb4⟩
    have hX4 := HX3.out.step hb4
    simp only at hL4 ⊢
    rw [l_mk] at hL4
    have HL4 := Lib.hid (hL4.lat (B := w4.heap.size) fun b hb => hb.2)
    obtain ⟨A4, cap4, rfl⟩ := hL4.slice
    obtain ⟨cln4, hcln4⟩ : ∃ x, cl.length = x := ⟨_, rfl⟩
    rw [hcln4] at HL4 ⊢
    unfold cellV
    simp only [k_mk, n_mk, s_mk]
    have HX4 := Lib.hid hX4
    have hX5 : Box w (.mk ck cn cs cl) (.slice A cln cap) (w4.alloc (.cells #[.int .i64 ck, .int .i64 cn, .string cs, .slice A4 cln4 cap4] 25)) := hX4.step ((Below.refl _ w4).alloc (Nat.le_refl _) _)
    have hz4 : w.heap.size < w4.heap.size := hX4.size
    have b0 : w4.cell? ⟨w.heap.size, 0, none⟩ = some (.int .i64 ck) := hX4.cell 0
    have b1 : w4.cell? ⟨w.heap.size, 1, none⟩ = some (.int .i64 cn) := hX4.cell 1
    have b2 : w4.cell? ⟨w.heap.size, 2, none⟩ = some (.string cs) := hX4.cell 2
    have b3 : w4.cell? ⟨w.heap.size, 3, none⟩ = some (.slice A cln cap) := hX4.cell 3
    have HX5 := Lib.hid hX5
    have hsame := same15 d 16 ck cn cs cl (.slice A cln cap) ck cn cs cl (.slice A4 cln4 cap4) (w4.alloc (.cells #[.int .i64 ck, .int .i64 cn, .string cs, .slice A4 cln4 cap4] 25)) (HL.out.step hX5.old) (HL4.out.step ((Below.refl _ w4).alloc (Nat.le_refl _) _))
    rw [sameB_self] at hsame
    have HSA := Lib.hid hsame
    clear hL4 hb4 hcln4 hX4 hX5 hsame HTK
    go_wp2_with fail
    refine HSA.out.mono ?_
    rintro e w5 ⟨rfl, hb5⟩
    have hX5 := HX5.out.step hb5
    have b0 : w5.cell? ⟨w.heap.size, 0, none⟩ = some (.int .i64 ck) := hX5.cell 0
    have b1 : w5.cell? ⟨w.heap.size, 1, none⟩ = some (.int .i64 cn) := hX5.cell 1
    have b2 : w5.cell? ⟨w.heap.size, 2, none⟩ = some (.string cs) := hX5.cell 2
    have b3 : w5.cell? ⟨w.heap.size, 3, none⟩ = some (.slice A cln cap) := hX5.cell 3
    have HX6 := Lib.hid hX5
    clear hb5 HX5 hX5 HSA HX3 HX4
    go_wp2_with fail
    refine (HSIZE.out w5 (HL.out.step HX6.out.old)).mono ?_
    rintro e w6 ⟨rfl, hb6⟩
    have HBW := Lib.hid (HX6.out.step hb6).old
    clear hb6 HX6 b0 b1 b2 b3 HSIZE HPUT HL HL4
    go_wp2_with fail
    obtain ⟨⟨xc, xt, xe⟩, hnx⟩ : ∃ x, nextM s n = x := ⟨_, rfl⟩
    have hN := next19 s n w6 (by omega)
    rw [hnx] at hN
    have HN := Lib.hid hN
    have HNX := Lib.hid hnx
    clear hN hnx
    refine HN.out.mono ?_
    rintro e w7 ⟨u7, rfl, hL7, hb7⟩
    have HBW7 := Lib.hid (HBW.out.trans (hb7.mono HBW.out.size))
    have HL7 := Lib.hid (hL7.lat (B := w7.heap.size) fun b hb => hb.2)
    simp only at hL7 HL7 ⊢
    obtain ⟨A7, cap7, rfl⟩ := hL7.slice
    obtain ⟨xk, xn, xs, xl⟩ := xc
    rw [l_mk] at hL7 HL7 ⊢
    unfold cellV
    simp only [k_mk, n_mk, s_mk]
    by_cases hxe : xe = 0
    · subst hxe
      obtain ⟨hn2, hn3, hn4, hok7, hfit7, hput7⟩ := next_ok HNX.out
      have hxl : (encC 16 (.mk xk xn xs xl)).length ≤ 1000000 := by
        have := congrArg ByteArray.size hput7
        unfold putS at this
        rw [if_pos hok7] at this
        have e1 : (⟨(encC 16 (.mk xk xn xs xl)).toArray⟩ : ByteArray).size = (encC 16 (.mk xk xn xs xl)).length := rfl
        rw [e1] at this
        have e2 : (cutS s n.toNat (xt.toNat - n.toNat)).size ≤ s.size := by
          unfold cutS
          show (List.toArray _).size ≤ _
          rw [List.size_toArray, List.length_take, List.length_drop, size_data]
          omega
        omega
      have hP7 := fun w' (hL : LAt w' w'.heap.size 16 (.slice A7 xl.length cap7) xl) => put9 16 xk xn xs xl (.slice A7 xl.length cap7) w' hL hfit7.1 hfit7.2.1 (fun _ => hxl)
      have hpe7 : putE (.mk xk xn xs xl) = 0 := by unfold putE; rw [if_pos hok7]
      obtain ⟨p7, hp7⟩ : ∃ p : Nat, (p : Int) = n := ⟨n.toNat, by omega⟩
      obtain ⟨q7, hq7⟩ : ∃ q : Nat, (q : Int) = xt := ⟨xt.toNat, by omega⟩
      subst hp7 hq7
      simp only [Int.toNat_natCast] at hput7
      have hext : s.extract p7 q7 = putS (.mk xk xn xs xl) := by rw [hput7, ← cutS_extract, show p7 + (q7 - p7) = q7 by omega]
      rw [← hext, hpe7] at hP7
      have HP7 := Lib.hid hP7
      have e1 : ¬ (p7 : Int) < 0 := by omega
      have e2 : ¬ (q7 : Int) ≤ (p7 : Int) := by omega
      have e3 : ¬ (s.size : Int) < (q7 : Int) := by omega
      obtain ⟨xll, hxll⟩ : ∃ x, xl.length = x := ⟨_, rfl⟩
      rw [hxll] at HP7 HL7 ⊢
      have HX7 := Lib.hid (Box.new w7 (.mk xk xn xs xl) (.slice A7 xll cap7))
      clear hok7 hfit7 hput7 hxl hpe7 hext hL7 hb7 hP7 hxll HNX HN hn2
      go_wp2_with fail
      refine (HP7.out (w7.alloc (.cells #[.int .i64 xk, .int .i64 xn, .string xs, .slice A7 xll cap7] 25)) (HL7.out.step HX7.out.old)).mono ?_
      rintro e w8 ⟨rfl, hb8⟩
      have HBW8 := Lib.hid (HBW7.out.trans ((HX7.out.step hb8).old.mono HBW7.out.size))
      clear hb8 HP7 HX7 HL7 HBW7 HBW
      go_wp2_with fail
      refine (lives8 w8).mono ?_
      rintro e w9 ⟨rfl, hb9⟩
      have HBW9 := Lib.hid (HBW8.out.trans (hb9.mono HBW8.out.size))
      clear hb9 HBW8
      go_wp2_with fail
      go_ret
      exact ⟨rfl, HBW9.out⟩
    · have hxe' : (xe != 0) = true := by simpa using hxe
      have hz := next_bad HNX.out hxe
      unfold zeroC at hz
      injection hz with z1 z2 z3 z4
      subst z1 z2 z3 z4
      have HZ := Lib.hid (zero_same A7 cap7 HL7.out.cap)
      have HX7 := Lib.hid (Box.new w7 (.mk 0 0 ⟨#[]⟩ []) (.slice A7 0 cap7))
      clear hL7 hb7 HNX HN hxe HL7
      go_wp2_with fail
      refine (HZ.out (w7.alloc (.cells #[.int .i64 0, .int .i64 0, .string ⟨#[]⟩, .slice A7 0 cap7] 25))).mono ?_
      rintro e w8 ⟨rfl, hb8⟩
      have HBW8 := Lib.hid (HBW7.out.trans ((HX7.out.step hb8).old.mono HBW7.out.size))
      clear hb8 HX7 HBW7 HBW HZ
      go_wp2_with fail
      refine (lives8 w8).mono ?_
      rintro e w9 ⟨rfl, hb9⟩
      have HBW9 := Lib.hid (HBW8.out.trans (hb9.mono HBW8.out.size))
      clear hb9 HBW8
      go_wp2_with fail
      go_ret
      exact ⟨rfl, HBW9.out⟩
  · have hpe : putE (.mk ck cn cs cl) = 2 := by unfold putE; rw [if_neg hok]
    rw [hpe] at HPUT
    obtain ⟨ps, hps⟩ : ∃ ps, putS (.mk ck cn cs cl) = ps := ⟨_, rfl⟩
    rw [hps] at HPUT
    clear hok hpe hps HLEN
    go_enter Try.func5, Try.ntmps5
    go_wp2_with fail
    refine HSM.out.mono ?_
    rintro e w2 ⟨rfl, hb2⟩
    have hX := HB.out.step hb2
    have b0 : w2.cell? ⟨w.heap.size, 0, none⟩ = some (.int .i64 ck) := hX.cell 0
    have b1 : w2.cell? ⟨w.heap.size, 1, none⟩ = some (.int .i64 cn) := hX.cell 1
    have b2 : w2.cell? ⟨w.heap.size, 2, none⟩ = some (.string cs) := hX.cell 2
    have b3 : w2.cell? ⟨w.heap.size, 3, none⟩ = some (.slice A cln cap) := hX.cell 3
    have HX := Lib.hid hX
    clear hb2 HB hX HSM
    go_wp2_with fail
    refine (HPUT.out w2 (HL.out.step HX.out.old)).mono ?_
    rintro e w3 ⟨rfl, hb3⟩
    have HBW := Lib.hid (HX.out.step hb3).old
    clear hb3 HX b0 b1 b2 b3 HPUT HSIZE HL
    go_wp2_with fail
    obtain ⟨⟨xc, xt, xe⟩, hnx⟩ : ∃ x, nextM s n = x := ⟨_, rfl⟩
    have hN := next19 s n w3 (by omega)
    rw [hnx] at hN
    have HN := Lib.hid hN
    have HNX := Lib.hid hnx
    clear hN hnx
    refine HN.out.mono ?_
    rintro e w7 ⟨u7, rfl, hL7, hb7⟩
    have HBW7 := Lib.hid (HBW.out.trans (hb7.mono HBW.out.size))
    have HL7 := Lib.hid (hL7.lat (B := w7.heap.size) fun b hb => hb.2)
    simp only at hL7 HL7 ⊢
    obtain ⟨A7, cap7, rfl⟩ := hL7.slice
    obtain ⟨xk, xn, xs, xl⟩ := xc
    rw [l_mk] at hL7 HL7 ⊢
    unfold cellV
    simp only [k_mk, n_mk, s_mk]
    by_cases hxe : xe = 0
    · subst hxe
      obtain ⟨hn2, hn3, hn4, hok7, hfit7, hput7⟩ := next_ok HNX.out
      have hxl : (encC 16 (.mk xk xn xs xl)).length ≤ 1000000 := by
        have := congrArg ByteArray.size hput7
        unfold putS at this
        rw [if_pos hok7] at this
        have e1 : (⟨(encC 16 (.mk xk xn xs xl)).toArray⟩ : ByteArray).size = (encC 16 (.mk xk xn xs xl)).length := rfl
        rw [e1] at this
        have e2 : (cutS s n.toNat (xt.toNat - n.toNat)).size ≤ s.size := by
          unfold cutS
          show (List.toArray _).size ≤ _
          rw [List.size_toArray, List.length_take, List.length_drop, size_data]
          omega
        omega
      have hP7 := fun w' (hL : LAt w' w'.heap.size 16 (.slice A7 xl.length cap7) xl) => put9 16 xk xn xs xl (.slice A7 xl.length cap7) w' hL hfit7.1 hfit7.2.1 (fun _ => hxl)
      have hpe7 : putE (.mk xk xn xs xl) = 0 := by unfold putE; rw [if_pos hok7]
      obtain ⟨p7, hp7⟩ : ∃ p : Nat, (p : Int) = n := ⟨n.toNat, by omega⟩
      obtain ⟨q7, hq7⟩ : ∃ q : Nat, (q : Int) = xt := ⟨xt.toNat, by omega⟩
      subst hp7 hq7
      simp only [Int.toNat_natCast] at hput7
      have hext : s.extract p7 q7 = putS (.mk xk xn xs xl) := by rw [hput7, ← cutS_extract, show p7 + (q7 - p7) = q7 by omega]
      rw [← hext, hpe7] at hP7
      have HP7 := Lib.hid hP7
      have e1 : ¬ (p7 : Int) < 0 := by omega
      have e2 : ¬ (q7 : Int) ≤ (p7 : Int) := by omega
      have e3 : ¬ (s.size : Int) < (q7 : Int) := by omega
      obtain ⟨xll, hxll⟩ : ∃ x, xl.length = x := ⟨_, rfl⟩
      rw [hxll] at HP7 HL7 ⊢
      have HX7 := Lib.hid (Box.new w7 (.mk xk xn xs xl) (.slice A7 xll cap7))
      clear hok7 hfit7 hput7 hxl hpe7 hext hL7 hb7 hP7 hxll HNX HN hn2
      go_wp2_with fail
      refine (HP7.out (w7.alloc (.cells #[.int .i64 xk, .int .i64 xn, .string xs, .slice A7 xll cap7] 25)) (HL7.out.step HX7.out.old)).mono ?_
      rintro e w8 ⟨rfl, hb8⟩
      have HBW8 := Lib.hid (HBW7.out.trans ((HX7.out.step hb8).old.mono HBW7.out.size))
      clear hb8 HP7 HX7 HL7 HBW7 HBW
      go_wp2_with fail
      refine (lives8 w8).mono ?_
      rintro e w9 ⟨rfl, hb9⟩
      have HBW9 := Lib.hid (HBW8.out.trans (hb9.mono HBW8.out.size))
      clear hb9 HBW8
      go_wp2_with fail
      go_ret
      exact ⟨rfl, HBW9.out⟩
    · have hxe' : (xe != 0) = true := by simpa using hxe
      have hz := next_bad HNX.out hxe
      unfold zeroC at hz
      injection hz with z1 z2 z3 z4
      subst z1 z2 z3 z4
      have HZ := Lib.hid (zero_same A7 cap7 HL7.out.cap)
      have HX7 := Lib.hid (Box.new w7 (.mk 0 0 ⟨#[]⟩ []) (.slice A7 0 cap7))
      clear hL7 hb7 HNX HN hxe HL7
      go_wp2_with fail
      refine (HZ.out (w7.alloc (.cells #[.int .i64 0, .int .i64 0, .string ⟨#[]⟩, .slice A7 0 cap7] 25))).mono ?_
      rintro e w8 ⟨rfl, hb8⟩
      have HBW8 := Lib.hid (HBW7.out.trans ((HX7.out.step hb8).old.mono HBW7.out.size))
      clear hb8 HX7 HBW7 HBW HZ
      go_wp2_with fail
      refine (lives8 w8).mono ?_
      rintro e w9 ⟨rfl, hb9⟩
      have HBW9 := Lib.hid (HBW8.out.trans (hb9.mono HBW8.out.size))
      clear hb9 HBW8
      go_wp2_with fail
      go_ret
      exact ⟨rfl, HBW9.out⟩
end Go.Proofs.Ytdmalkkpcggifaa
