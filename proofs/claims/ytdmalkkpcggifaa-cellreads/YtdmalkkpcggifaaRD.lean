/-
  The contract of CellReads. No condition.
-/
import Derived.Test.YtdmalkkpcggifaaRC
namespace Go.Proofs.Ytdmalkkpcggifaa
open Go.RowKit

set_option maxRecDepth 100000 in
set_option maxHeartbeats 3200000 in
theorem reads4 (s : ByteArray) (n : Int) (w : World) : Calls Try.prog 4 #[.string s, .int .i64 n] w fun e w' => e = .returned (.bool true) ∧ Below w.heap.size w w' := by
  by_cases hs5 : (5000 : Int) < s.size
  · go_enter Try.func4, Try.ntmps4
    go_wp2_with fail
    refine (lives8 w).mono ?_
    rintro e w3 ⟨rfl, hb3⟩
    have HX3 := Lib.hid hb3
    clear hb3
    go_wp2_with fail
    go_ret
    exact ⟨rfl, HX3.out⟩
  have hsz : s.size ≤ 1000000000 := by omega
  obtain ⟨⟨⟨xk, xn, xs, xl⟩, xt, xe⟩, hnx⟩ : ∃ x, nextM s n = x := ⟨_, rfl⟩
  obtain ⟨⟨⟨tk, tn, ts, tl⟩, te⟩, htk⟩ : ∃ x, takeM s = x := ⟨_, rfl⟩
  have hA1 := fun w' => next19 s n w' hsz
  have hA2 := fun w' => refNext20 s n w' hsz
  have hA3 := fun w' => take21 s w' hsz
  have hA4 := fun w' => refTake22 s w' hsz
  rw [hnx] at hA1 hA2
  rw [htk] at hA3 hA4
  have HA1 := Lib.hid hA1
  have HA2 := Lib.hid hA2
  have HA3 := Lib.hid hA3
  have HA4 := Lib.hid hA4
  clear hA1 hA2 hA3 hA4 hnx htk hsz
  go_enter Try.func4, Try.ntmps4
  go_wp2_with fail
  refine (HA1.out w).mono ?_
  rintro e w1 ⟨u1, rfl, hL1, hb1⟩
  simp only at hL1 ⊢
  rw [l_mk] at hL1
  have HL1 := Lib.hid (hL1.lat (B := w1.heap.size) fun b hb => hb.2)
  obtain ⟨A1, cap1, rfl⟩ := hL1.slice
  obtain ⟨ln1, hln1⟩ : ∃ x, xl.length = x := ⟨_, rfl⟩
  rw [hln1] at HL1 ⊢
  unfold cellV
  simp only [k_mk, n_mk, s_mk]
  have HBW1 := Lib.hid hb1
  have HX1 := Lib.hid (Box.new w1 (.mk xk xn xs xl) (.slice A1 ln1 cap1))
  clear hL1 hb1 hln1 HA1
  go_wp2_with fail
  refine (HA2.out (w1.alloc (.cells #[.int .i64 xk, .int .i64 xn, .string xs, .slice A1 ln1 cap1] 25))).mono ?_
  rintro e w2 ⟨u2, rfl, hL2, hb2⟩
  simp only at hL2 ⊢
  rw [l_mk] at hL2
  have HL2 := Lib.hid (hL2.lat (B := w2.heap.size) fun b hb => hb.2)
  obtain ⟨A2, cap2, rfl⟩ := hL2.slice
  obtain ⟨ln2, hln2⟩ : ∃ x, xl.length = x := ⟨_, rfl⟩
  rw [hln2] at HL2 ⊢
  unfold cellV
  simp only [k_mk, n_mk, s_mk]
  have HBW2 := Lib.hid (HBW1.out.trans ((HX1.out.step hb2).old.mono HBW1.out.size))
  have HX12 := Lib.hid (HX1.out.step hb2)
  have HX2 := Lib.hid (Box.new w2 (.mk xk xn xs xl) (.slice A2 ln2 cap2))
  clear hL2 hb2 hln2 HA2
  go_wp2_with fail
  refine (HA3.out (w2.alloc (.cells #[.int .i64 xk, .int .i64 xn, .string xs, .slice A2 ln2 cap2] 25))).mono ?_
  rintro e w3 ⟨u3, rfl, hL3, hb3⟩
  simp only at hL3 ⊢
  rw [l_mk] at hL3
  have HL3 := Lib.hid (hL3.lat (B := w3.heap.size) fun b hb => hb.2)
  obtain ⟨A3, cap3, rfl⟩ := hL3.slice
  obtain ⟨ln3, hln3⟩ : ∃ x, tl.length = x := ⟨_, rfl⟩
  rw [hln3] at HL3 ⊢
  unfold cellV
  simp only [k_mk, n_mk, s_mk]
  have HBW3 := Lib.hid (HBW2.out.trans ((HX2.out.step hb3).old.mono HBW2.out.size))
  have HX13 := Lib.hid ((HX12.out.step HX2.out.old).step hb3)
  have HX23 := Lib.hid (HX2.out.step hb3)
  have HX3 := Lib.hid (Box.new w3 (.mk tk tn ts tl) (.slice A3 ln3 cap3))
  clear hL3 hb3 hln3 HA3
  go_wp2_with fail
  refine (HA4.out (w3.alloc (.cells #[.int .i64 tk, .int .i64 tn, .string ts, .slice A3 ln3 cap3] 25))).mono ?_
  rintro e w4 ⟨u4, rfl, hL4, hb4⟩
  simp only at hL4 ⊢
  rw [l_mk] at hL4
  have HL4 := Lib.hid (hL4.lat (B := w4.heap.size) fun b hb => hb.2)
  obtain ⟨A4, cap4, rfl⟩ := hL4.slice
  obtain ⟨ln4, hln4⟩ : ∃ x, tl.length = x := ⟨_, rfl⟩
  rw [hln4] at HL4 ⊢
  unfold cellV
  simp only [k_mk, n_mk, s_mk]
  have HBW4 := Lib.hid (HBW3.out.trans ((HX3.out.step hb4).old.mono HBW3.out.size))
  have HX14 := Lib.hid ((HX13.out.step HX3.out.old).step hb4)
  have HX24 := Lib.hid ((HX23.out.step HX3.out.old).step hb4)
  have HX34 := Lib.hid (HX3.out.step hb4)
  have HX4 := Lib.hid (Box.new w4 (.mk tk tn ts tl) (.slice A4 ln4 cap4))
  clear hL4 hb4 hln4 HA4
  have hX15 := HX14.out
  have hX25 := HX24.out
  have hq1 : w1.heap.size < w4.heap.size := hX15.size
  have hq2 : w2.heap.size < w4.heap.size := hX25.size
  have a0 : w4.cell? ⟨w1.heap.size, 0, none⟩ = some (.int .i64 xk) := hX15.cell 0
  have a1 : w4.cell? ⟨w1.heap.size, 1, none⟩ = some (.int .i64 xn) := hX15.cell 1
  have a2 : w4.cell? ⟨w1.heap.size, 2, none⟩ = some (.string xs) := hX15.cell 2
  have a3 : w4.cell? ⟨w1.heap.size, 3, none⟩ = some (.slice A1 ln1 cap1) := hX15.cell 3
  have b0 : w4.cell? ⟨w2.heap.size, 0, none⟩ = some (.int .i64 xk) := hX25.cell 0
  have b1 : w4.cell? ⟨w2.heap.size, 1, none⟩ = some (.int .i64 xn) := hX25.cell 1
  have b2 : w4.cell? ⟨w2.heap.size, 2, none⟩ = some (.string xs) := hX25.cell 2
  have b3 : w4.cell? ⟨w2.heap.size, 3, none⟩ = some (.slice A2 ln2 cap2) := hX25.cell 3
  have hs1 := same15 16 17 xk xn xs xl (.slice A1 ln1 cap1) xk xn xs xl (.slice A2 ln2 cap2) (w4.alloc (.cells #[.int .i64 tk, .int .i64 tn, .string ts, .slice A4 ln4 cap4] 25)) (HL1.out.step (HX14.out.step HX4.out.old).old) (HL2.out.step (HX24.out.step HX4.out.old).old)
  rw [sameB_self] at hs1
  have HS1 := Lib.hid hs1
  clear hs1 hX15 hX25
  go_wp2_with fail
  refine HS1.out.mono ?_
  rintro e w5 ⟨rfl, hb5⟩
  have hX35 := (HX34.out.step HX4.out.old).step hb5
  have hX45 := HX4.out.step hb5
  have c0 : w5.cell? ⟨w3.heap.size, 0, none⟩ = some (.int .i64 tk) := hX35.cell 0
  have c1 : w5.cell? ⟨w3.heap.size, 1, none⟩ = some (.int .i64 tn) := hX35.cell 1
  have c2 : w5.cell? ⟨w3.heap.size, 2, none⟩ = some (.string ts) := hX35.cell 2
  have c3 : w5.cell? ⟨w3.heap.size, 3, none⟩ = some (.slice A3 ln3 cap3) := hX35.cell 3
  have d0 : w5.cell? ⟨w4.heap.size, 0, none⟩ = some (.int .i64 tk) := hX45.cell 0
  have d1 : w5.cell? ⟨w4.heap.size, 1, none⟩ = some (.int .i64 tn) := hX45.cell 1
  have d2 : w5.cell? ⟨w4.heap.size, 2, none⟩ = some (.string ts) := hX45.cell 2
  have d3 : w5.cell? ⟨w4.heap.size, 3, none⟩ = some (.slice A4 ln4 cap4) := hX45.cell 3
  have hs2 := same15 16 17 tk tn ts tl (.slice A3 ln3 cap3) tk tn ts tl (.slice A4 ln4 cap4) w5 (HL3.out.step hX35.old) (HL4.out.step hX45.old)
  rw [sameB_self] at hs2
  have HS2 := Lib.hid hs2
  have HBW5 := Lib.hid (HBW4.out.trans (hX45.old.mono HBW4.out.size))
  clear hs2 hX35 hX45 hb5 HS1 a0 a1 a2 a3 b0 b1 b2 b3
  go_wp2_with fail
  refine HS2.out.mono ?_
  rintro e w6 ⟨rfl, hb6⟩
  have HBW6 := Lib.hid (HBW5.out.trans (hb6.mono HBW5.out.size))
  clear hb6 HS2 c0 c1 c2 c3 d0 d1 d2 d3
  go_wp2_with fail
  refine (lives8 w6).mono ?_
  rintro e w7 ⟨rfl, hb7⟩
  have HBW7 := Lib.hid (HBW6.out.trans (hb7.mono HBW6.out.size))
  clear hb7
  go_wp2_with fail
  go_ret
  exact ⟨rfl, HBW7.out⟩
end Go.Proofs.Ytdmalkkpcggifaa
