/-
  The contract of CellBehind. No condition.
-/
import Derived.Test.YtdmalkkpcggifaaU
namespace Go.Proofs.Ytdmalkkpcggifaa
open Go.RowKit

theorem put_enc {c : C} (hok : okC 16 c = true) : (putS c).data.toList = encC 16 c := by unfold putS; rw [if_pos hok]
theorem put_size {c : C} (hok : okC 16 c = true) : (putS c).size = (encC 16 c).length := by rw [← size_data, put_enc hok]

theorem next_within {c : C} (hok : okC 16 c = true) (hf : Fit 16 c) (s : ByteArray) (a b : List UInt8) (hs : s.data.toList = a ++ (encC 16 c ++ b)) : nextM s a.length = (c, ((a.length + (putS c).size : Nat) : Int), 0) := by
  have hsz : s.size = a.length + ((encC 16 c).length + b.length) := by rw [← size_data, hs, List.length_append, List.length_append]
  unfold nextM
  rw [if_neg (by omega), Int.toNat_natCast, hs, List.drop_left, parse_enc 16 c b hok hf]
  unfold ansOf
  rw [put_size hok]
  simp only
  congr 2
  omega
theorem next_cut {c : C} (hok : okC 16 c = true) (hf : Fit 16 c) (s : ByteArray) (k : Nat) (hk : k < (putS c).size) (hs : s.data.toList = (encC 16 c).take k) : nextM s 0 = (zeroC, (k : Int), 3) := by
  rw [put_size hok] at hk
  have hsz : s.size = k := by rw [← size_data, hs, List.length_take]; omega
  unfold nextM
  rw [if_neg (by omega), hs]
  have := parse_cut hok hf k hk
  rw [show (0 : Int).toNat = 0 from rfl, List.drop_zero, this]
  unfold ansOf
  rw [hsz]
  simp
theorem take_more {c : C} (hok : okC 16 c = true) (hf : Fit 16 c) (s : ByteArray) (b : List UInt8) (hs : s.data.toList = encC 16 c ++ b) : takeM s = if b = [] then (c, 0) else (zeroC, 4) := by
  have hn := next_within hok hf s [] b (by simpa using hs)
  have hsz : s.size = (encC 16 c).length + b.length := by rw [← size_data, hs, List.length_append]
  rw [List.length_nil] at hn
  have hn' : nextM s 0 = (c, (((putS c).size : Nat) : Int), 0) := by simpa using hn
  unfold takeM
  rw [hn', put_size hok, hsz]
  cases b with
  | nil => simp
  | cons x b => simp; omega
theorem data_append (a b : ByteArray) : (a ++ b).data.toList = a.data.toList ++ b.data.toList := by
  rw [← ByteArray.toList_eq, ← ByteArray.toList_eq, ← ByteArray.toList_eq]
  simp [ByteArray.toList_eq]

set_option maxRecDepth 100000 in
set_option maxHeartbeats 3200000 in
theorem behind6 (d : Nat) (ck cn : Int) (cs : ByteArray) (cl : List C) (u : Value) (s1 s2 : ByteArray) (n : Int) (w : World) (h : LAt w w.heap.size d u cl) (hcs : cs.size ≤ 9223372036854775807) (hn0 : -9223372036854775808 ≤ cn) (hn1 : cn ≤ 9223372036854775807) :
    Calls Try.prog 6 #[.agg #[.int .i64 ck, .int .i64 cn, .string cs, u], .string s1, .string s2, .int .i64 n] w fun e w' => e = .returned (.bool true) ∧ Below w.heap.size w w' := by
  have HB := Lib.hid (Box.new w (.mk ck cn cs cl) u)
  have HL := Lib.hid h
  have HSM := Lib.hid (small7 d ck cn cs cl u (w.alloc (.cells #[.int .i64 ck, .int .i64 cn, .string cs, u] 25)) (h.step HB.out.old) hcs)
  obtain ⟨A, cap, rfl⟩ := h.slice
  have HF : Hid (∀ D, Fit (D + 1) (.mk ck cn cs cl)) := fun D => ⟨hn0, hn1, fit_of_lat d D _ _ h⟩
  generalize hcl : cl.length = cln at HB HL HSM ⊢
  clear h hcs hcl
  by_cases hsm : ¬ 0 < fewM 40 (.mk ck cn cs cl) 5000
  · rw [decide_eq_false hsm] at HSM
    clear hsm
    go_enter Try.func6, Try.ntmps6
    go_wp2_with fail
    refine HSM.out.mono ?_
    rintro e w2 ⟨rfl, hb2⟩
    have HX := Lib.hid (HB.out.step hb2)
    clear hb2 HB
    go_wp2_with fail
    refine (lives8 w2).mono ?_
    rintro e w3 ⟨rfl, hb3⟩
    have HX3 := Lib.hid (HX.out.step hb3)
    clear hb3 HX
    go_wp2_with fail
    go_ret
    exact ⟨rfl, HX3.out.old⟩
  replace hsm := Decidable.not_not.1 hsm
  have HSM2 := Lib.hid hsm
  rw [decide_eq_true hsm] at HSM
  clear hsm
  by_cases hs1 : (200 : Int) < s1.size
  · go_enter Try.func6, Try.ntmps6
    go_wp2_with fail
    refine HSM.out.mono ?_
    rintro e w2 ⟨rfl, hb2⟩
    have HX := Lib.hid (HB.out.step hb2)
    clear hb2 HB
    go_wp2_with fail
    refine (lives8 w2).mono ?_
    rintro e w3 ⟨rfl, hb3⟩
    have HX3 := Lib.hid (HX.out.step hb3)
    clear hb3 HX
    go_wp2_with fail
    go_ret
    exact ⟨rfl, HX3.out.old⟩
  by_cases hs2 : (200 : Int) < s2.size
  · go_enter Try.func6, Try.ntmps6
    go_wp2_with fail
    refine HSM.out.mono ?_
    rintro e w2 ⟨rfl, hb2⟩
    have HX := Lib.hid (HB.out.step hb2)
    clear hb2 HB
    go_wp2_with fail
    refine (lives8 w2).mono ?_
    rintro e w3 ⟨rfl, hb3⟩
    have HX3 := Lib.hid (HX.out.step hb3)
    clear hb3 HX
    go_wp2_with fail
    go_ret
    exact ⟨rfl, HX3.out.old⟩
  have HLEN : Hid (okC 16 (.mk ck cn cs cl) = true → (encC 16 (.mk ck cn cs cl)).length ≤ 1000000) := fun hok => Nat.le_trans (few_len HSM2.out hok) (by omega)
  have HPUT := Lib.hid (fun w' (hL : LAt w' w'.heap.size d (.slice A cln cap) cl) => put9 d ck cn cs cl (.slice A cln cap) w' hL hn0 hn1 HLEN.out)
  by_cases hok : ¬ okC 16 (.mk ck cn cs cl) = true
  · have hpe : putE (.mk ck cn cs cl) = 2 := by unfold putE; rw [if_neg hok]
    rw [hpe] at HPUT
    obtain ⟨ps, hps⟩ : ∃ ps, putS (.mk ck cn cs cl) = ps := ⟨_, rfl⟩
    rw [hps] at HPUT
    clear hok hpe hps HLEN
    go_enter Try.func6, Try.ntmps6
    go_wp2_with fail
    refine HSM.out.mono ?_
    rintro e w2 ⟨rfl, hb2⟩
    have hX := HB.out.step hb2
    have b0 : w2.cell? ⟨w.heap.size, 0, none⟩ = some (.int .i64 ck) := hX.cell 0
    have b1 : w2.cell? ⟨w.heap.size, 1, none⟩ = some (.int .i64 cn) := hX.cell 1
    have b2 : w2.cell? ⟨w.heap.size, 2, none⟩ = some (.string cs) := hX.cell 2
    have b3 : w2.cell? ⟨w.heap.size, 3, none⟩ = some (.slice A cln cap) := hX.cell 3
    have HX := Lib.hid hX
    clear hb2 HB hX HSM
    go_wp2_with fail
    refine (HPUT.out w2 (HL.out.step HX.out.old)).mono ?_
    rintro e w3 ⟨rfl, hb3⟩
    have HBW := Lib.hid (HX.out.step hb3).old
    clear hb3 HX b0 b1 b2 b3 HPUT HL
    go_wp2_with fail
    refine (lives8 w3).mono ?_
    rintro e w9 ⟨rfl, hb9⟩
    have HBW9 := Lib.hid (HBW.out.trans (hb9.mono HBW.out.size))
    clear hb9
    go_wp2_with fail
    go_ret
    exact ⟨rfl, HBW9.out⟩
  replace hok := Decidable.not_not.1 hok
  have hpe : putE (.mk ck cn cs cl) = 0 := by unfold putE; rw [if_pos hok]
  rw [hpe] at HPUT
  have hfit := HF.out 15
  have hpl : (putS (.mk ck cn cs cl)).size ≤ 1000000 := by unfold putS; rw [if_pos hok]; exact HLEN.out hok
  have hpp : 0 < (putS (.mk ck cn cs cl)).size := by rw [put_size hok]; exact encC_pos hok
  have hpd := put_enc hok
  have HN1 := Lib.hid (next_within hok hfit (s1 ++ putS (.mk ck cn cs cl) ++ s2) s1.data.toList s2.data.toList (by rw [data_append, data_append, hpd, List.append_assoc]))
  have HN2 := Lib.hid (fun k hk => next_cut hok hfit ((putS (.mk ck cn cs cl)).extract 0 k) k hk (by
    have := cutS_extract (putS (.mk ck cn cs cl)) 0 k
    rw [Nat.zero_add] at this
    rw [this]
    unfold cutS
    rw [data_mk, hpd]
    rfl))
  have HT := Lib.hid (take_more hok hfit (putS (.mk ck cn cs cl) ++ s2) s2.data.toList (by rw [data_append, hpd]))
  obtain ⟨ps, hps⟩ : ∃ ps, putS (.mk ck cn cs cl) = ps := ⟨_, rfl⟩
  rw [hps] at HPUT HN1 HN2 HT hpl hpp
  rw [size_data] at HN1
  have hz1 : (s1 ++ ps ++ s2).size ≤ 1000000000 := by rw [ByteArray.size_append, ByteArray.size_append]; omega
  have hz2 : (ps ++ s2).size ≤ 1000000000 := by rw [ByteArray.size_append]; omega
  have hA1 := fun w' => next19 (s1 ++ ps ++ s2) s1.size w' hz1
  rw [HN1.out] at hA1
  have HA1 := Lib.hid hA1
  have hA3 := fun w' => take21 (ps ++ s2) w' hz2
  rw [HT.out] at hA3
  have HA3 := Lib.hid hA3
  have HA2 : Hid (∀ k w', k < ps.size → Calls Try.prog 19 #[.string (ps.extract 0 k), .int .i64 0] w' (NextTo w' (zeroC, (k : Int), 3))) := fun k w' hk => by
    have := next19 (ps.extract 0 k) 0 w' (by rw [ByteArray.size_extract]; omega)
    rw [HN2.out k hk] at this
    exact this
  clear hok hpe hps HLEN hfit hpd HN1 HN2 HT hA1 hA3 hz1 hz2
  go_enter Try.func6, Try.ntmps6
  go_wp2_with fail
  refine HSM.out.mono ?_
  rintro e w2 ⟨rfl, hb2⟩
  have hX := HB.out.step hb2
  have b0 : w2.cell? ⟨w.heap.size, 0, none⟩ = some (.int .i64 ck) := hX.cell 0
  have b1 : w2.cell? ⟨w.heap.size, 1, none⟩ = some (.int .i64 cn) := hX.cell 1
  have b2 : w2.cell? ⟨w.heap.size, 2, none⟩ = some (.string cs) := hX.cell 2
  have b3 : w2.cell? ⟨w.heap.size, 3, none⟩ = some (.slice A cln cap) := hX.cell 3
  have HX := Lib.hid hX
  clear hb2 HB hX HSM
  go_wp2_with fail
  refine (HPUT.out w2 (HL.out.step HX.out.old)).mono ?_
  rintro e w3 ⟨rfl, hb3⟩
  have HX3 := Lib.hid (HX.out.step hb3)
  clear hb3 HX b0 b1 b2 b3 HPUT
  go_wp2_with fail
  refine (HA1.out w3).mono ?_
  rintro e w4 ⟨u4, rfl, hL4, hb4⟩
  have hX4 := HX3.out.step hb4
  simp only at hL4 ⊢
  rw [l_mk] at hL4
  have HL4 := Lib.hid (hL4.lat (B := w4.heap.size) fun b hb => hb.2)
  obtain ⟨A4, cap4, rfl⟩ := hL4.slice
  obtain ⟨cln4, hcln4⟩ : ∃ x, cl.length = x := ⟨_, rfl⟩
  rw [hcln4] at HL4 ⊢
  unfold cellV
  simp only [k_mk, n_mk, s_mk]
  have hX5 : Box w (.mk ck cn cs cl) (.slice A cln cap) (w4.alloc (.cells #[.int .i64 ck, .int .i64 cn, .string cs, .slice A4 cln4 cap4] 25)) := hX4.step ((Below.refl _ w4).alloc (Nat.le_refl _) _)
  have hz4 : w.heap.size < w4.heap.size := hX4.size
  have b0 : w4.cell? ⟨w.heap.size, 0, none⟩ = some (.int .i64 ck) := hX4.cell 0
  have b1 : w4.cell? ⟨w.heap.size, 1, none⟩ = some (.int .i64 cn) := hX4.cell 1
  have b2 : w4.cell? ⟨w.heap.size, 2, none⟩ = some (.string cs) := hX4.cell 2
  have b3 : w4.cell? ⟨w.heap.size, 3, none⟩ = some (.slice A cln cap) := hX4.cell 3
  have HX5 := Lib.hid hX5
  have hsame := same15 d 16 ck cn cs cl (.slice A cln cap) ck cn cs cl (.slice A4 cln4 cap4) (w4.alloc (.cells #[.int .i64 ck, .int .i64 cn, .string cs, .slice A4 cln4 cap4] 25)) (HL.out.step hX5.old) (HL4.out.step ((Below.refl _ w4).alloc (Nat.le_refl _) _))
  rw [sameB_self] at hsame
  have HSA := Lib.hid hsame
  have hadd : (((s1.size + ps.size : Nat) : Int)) = (s1.size : Int) + (ps.size : Int) := by omega
  rw [hadd]
  clear hL4 hb4 hcln4 hX4 hX5 hsame hadd
  go_wp2_with fail
  refine HSA.out.mono ?_
  rintro e w5 ⟨rfl, hb5⟩
  have HBW := Lib.hid (HX5.out.step hb5).old
  clear hb5 HX5 HSA HX3 HL HL4 b0 b1 b2 b3 HA1
  obtain ⟨k, hk, hkl⟩ : ∃ k : Nat, (IntKind.u64.wrap n).tmod ((ps.size : Int) + 1) = (k : Int) ∧ k ≤ ps.size := by
    have h0 : 0 ≤ IntKind.u64.wrap n := by rw [IntKind.wrap_u64]; omega
    have h1 := Int.tmod_eq_emod_of_nonneg (b := (ps.size : Int) + 1) h0
    have h2 := Int.emod_nonneg (IntKind.u64.wrap n) (show ((ps.size : Int) + 1) ≠ 0 by omega)
    have h3 := Int.emod_lt_of_pos (IntKind.u64.wrap n) (show (0 : Int) < (ps.size : Int) + 1 by omega)
    exact ⟨((IntKind.u64.wrap n) % ((ps.size : Int) + 1)).toNat, by rw [h1]; omega, by omega⟩
  by_cases hks : (k : Int) < ps.size
  · go_wp2_with fail
    refine (HA2.out k w5 (by omega)).mono ?_
    rintro e w6 ⟨u6, rfl, hL6, hb6⟩
    have HBW6 := Lib.hid (HBW.out.trans (hb6.mono HBW.out.size))
    simp only at hL6 ⊢
    unfold zeroC at hL6 ⊢
    rw [l_mk] at hL6
    obtain ⟨A6, cap6, rfl⟩ := hL6.slice
    unfold cellV
    simp only [k_mk, n_mk, s_mk, List.length_nil]
    have HBW7 := Lib.hid (HBW6.out.alloc HBW6.out.size (.cells #[.int .i64 0, .int .i64 0, .string ⟨#[]⟩, .slice A6 0 cap6] 25))
    clear hb6 hL6 HBW HBW6 HA2
    go_wp2_with fail
    by_cases hb2 : s2.data.toList = []
    · rw [if_pos hb2] at HA3
      have hs2e : s2 = ⟨#[]⟩ := by cases s2; simpa using hb2
      refine (HA3.out (w6.alloc (.cells #[.int .i64 0, .int .i64 0, .string ⟨#[]⟩, .slice A6 0 cap6] 25))).mono ?_
      rintro e w8 ⟨u8, rfl, hL8, hb8⟩
      have HBW8 := Lib.hid (HBW7.out.trans (hb8.mono HBW7.out.size))
      simp only at hL8 ⊢
      rw [l_mk] at hL8
      obtain ⟨A8, cap8, rfl⟩ := hL8.slice
      obtain ⟨cln8, hcln8⟩ : ∃ x, cl.length = x := ⟨_, rfl⟩
      rw [hcln8]
      unfold cellV
      simp only [k_mk, n_mk, s_mk]
      have HBW81 := Lib.hid (HBW8.out.alloc HBW8.out.size (.cells #[.int .i64 ck, .int .i64 cn, .string cs, .slice A8 cln8 cap8] 25))
      clear hb8 hL8 HBW8 HBW7 HA3 hcln8 hb2
      subst hs2e
      go_wp2_with fail
      refine (lives8 _).mono ?_
      rintro e w9 ⟨rfl, hb9⟩
      have HBW9 := Lib.hid (HBW81.out.trans (hb9.mono HBW81.out.size))
      clear hb9
      go_wp2_with fail
      go_ret
      exact ⟨rfl, HBW9.out⟩
    · rw [if_neg hb2] at HA3
      have hs2e : s2.toList.isEmpty = false := by rw [ByteArray.toList_eq]; cases h : s2.data.toList with | nil => exact absurd h hb2 | cons => rfl
      refine (HA3.out (w6.alloc (.cells #[.int .i64 0, .int .i64 0, .string ⟨#[]⟩, .slice A6 0 cap6] 25))).mono ?_
      rintro e w8 ⟨u8, rfl, hL8, hb8⟩
      have HBW8 := Lib.hid (HBW7.out.trans (hb8.mono HBW7.out.size))
      simp only at hL8 ⊢
      unfold zeroC at hL8 ⊢
      rw [l_mk] at hL8
      obtain ⟨A8, cap8, rfl⟩ := hL8.slice
      unfold cellV
      simp only [k_mk, n_mk, s_mk, List.length_nil]
      have HBW81 := Lib.hid (HBW8.out.alloc HBW8.out.size (.cells #[.int .i64 0, .int .i64 0, .string ⟨#[]⟩, .slice A8 0 cap8] 25))
      clear hb8 hL8 HBW8 HBW7 HA3 hb2
      go_wp2_with fail
      refine (lives8 _).mono ?_
      rintro e w9 ⟨rfl, hb9⟩
      have HBW9 := Lib.hid (HBW81.out.trans (hb9.mono HBW81.out.size))
      clear hb9
      go_wp2_with fail
      go_ret
      exact ⟨rfl, HBW9.out⟩
  · go_wp2_with fail
    by_cases hb2 : s2.data.toList = []
    · rw [if_pos hb2] at HA3
      have hs2e : s2 = ⟨#[]⟩ := by cases s2; simpa using hb2
      refine (HA3.out w5).mono ?_
      rintro e w8 ⟨u8, rfl, hL8, hb8⟩
      have HBW8 := Lib.hid (HBW.out.trans (hb8.mono HBW.out.size))
      simp only at hL8 ⊢
      rw [l_mk] at hL8
      obtain ⟨A8, cap8, rfl⟩ := hL8.slice
      obtain ⟨cln8, hcln8⟩ : ∃ x, cl.length = x := ⟨_, rfl⟩
      rw [hcln8]
      unfold cellV
      simp only [k_mk, n_mk, s_mk]
      have HBW81 := Lib.hid (HBW8.out.alloc HBW8.out.size (.cells #[.int .i64 ck, .int .i64 cn, .string cs, .slice A8 cln8 cap8] 25))
      clear hb8 hL8 HBW8 HBW HA3 hcln8 hb2
      subst hs2e
      go_wp2_with fail
      refine (lives8 _).mono ?_
      rintro e w9 ⟨rfl, hb9⟩
      have HBW9 := Lib.hid (HBW81.out.trans (hb9.mono HBW81.out.size))
      clear hb9
      go_wp2_with fail
      go_ret
      exact ⟨rfl, HBW9.out⟩
    · rw [if_neg hb2] at HA3
      have hs2e : s2.toList.isEmpty = false := by rw [ByteArray.toList_eq]; cases h : s2.data.toList with | nil => exact absurd h hb2 | cons => rfl
      refine (HA3.out w5).mono ?_
      rintro e w8 ⟨u8, rfl, hL8, hb8⟩
      have HBW8 := Lib.hid (HBW.out.trans (hb8.mono HBW.out.size))
      simp only at hL8 ⊢
      unfold zeroC at hL8 ⊢
      rw [l_mk] at hL8
      obtain ⟨A8, cap8, rfl⟩ := hL8.slice
      unfold cellV
      simp only [k_mk, n_mk, s_mk, List.length_nil]
      have HBW81 := Lib.hid (HBW8.out.alloc HBW8.out.size (.cells #[.int .i64 0, .int .i64 0, .string ⟨#[]⟩, .slice A8 0 cap8] 25))
      clear hb8 hL8 HBW8 HBW HA3 hb2
      go_wp2_with fail
      refine (lives8 _).mono ?_
      rintro e w9 ⟨rfl, hb9⟩
      have HBW9 := Lib.hid (HBW81.out.trans (hb9.mono HBW81.out.size))
      clear hb9
      go_wp2_with fail
      go_ret
      exact ⟨rfl, HBW9.out⟩
end Go.Proofs.Ytdmalkkpcggifaa
