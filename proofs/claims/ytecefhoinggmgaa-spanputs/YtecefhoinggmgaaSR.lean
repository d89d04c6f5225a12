/-
  The document's examples hold of the program. No condition.
-/
import Derived.Test.YtecefhoinggmgaaSQ
namespace Go.Proofs.Ytecefhoinggmgaa
open Go.RowKit

theorem ex1 : putR [] 0 10 (1, 7, ⟨#[]⟩) = ([(0, 10, 1, 7, ⟨#[]⟩)], 0) := by kernel_rfl
theorem ex2 : putR [(0, 10, 1, 7, ⟨#[]⟩)] 4 6 (1, 8, ⟨#[]⟩) = ([(0, 4, 1, 7, ⟨#[]⟩), (4, 6, 1, 8, ⟨#[]⟩), (6, 10, 1, 7, ⟨#[]⟩)], 0) := by kernel_rfl
theorem ex3 : putR [(0, 4, 1, 7, ⟨#[]⟩), (4, 6, 1, 8, ⟨#[]⟩), (6, 10, 1, 7, ⟨#[]⟩)] 4 6 (1, 7, ⟨#[]⟩) = ([(0, 10, 1, 7, ⟨#[]⟩)], 0) := by kernel_rfl
theorem ex4 : diffR [(0, 4, 1, 7, ⟨#[]⟩), (4, 6, 1, 8, ⟨#[]⟩), (6, 10, 1, 7, ⟨#[]⟩)] [(0, 10, 1, 7, ⟨#[]⟩)] = [(4, 6, (1, 8, ⟨#[]⟩), (1, 7, ⟨#[]⟩))] := by kernel_rfl

set_option maxHeartbeats 400000 in
theorem num27 (n : Int) (w : World) : Calls Try.prog 27 #[.int .i64 n] w fun e w' => e = .returned (.agg #[.int .i64 1, .int .i64 n, .string ⟨#[]⟩]) ∧ Below w.heap.size w w' := by
  go_enter Try.func27, Try.ntmps27
  go_wp2
  exact bodyPost_ret (v := .agg #[.int .i64 1, .int .i64 n, .string ⟨#[]⟩]) (by simp [results, Try.results27, go_sem]) rfl ⟨rfl, (Below.refl _ _).alloc (Nat.le_refl _) _⟩

theorem rows_lit1 (W : World) (f e k n : Int) (s : ByteArray) :
    RowsAt (W.alloc (.cells #[.int .i64 f, .int .i64 e, .int .i64 k, .int .i64 n, .string s] 52)) (W.heap.size + 1) (.slice (some ⟨W.heap.size, 0, none⟩) 1 1) [(f, e, k, n, s)] := by
  refine ⟨some ⟨W.heap.size, 0, none⟩, 1, rfl, Nat.le_refl _, by unfold maxLen; omega, fun _ => ⟨W.heap.size, 0, rfl, by omega, fun i hi => ?_⟩⟩
  have hi0 : i = 0 := by simp at hi; omega
  subst hi0
  exact ⟨by simp [go_sem], by simp [go_sem], by simp [go_sem], by simp [go_sem], by simp [go_sem]⟩
theorem rows_lit3 (W : World) (f e k n : Int) (s : ByteArray) (f' e' k' n' : Int) (s' : ByteArray) (f'' e'' k'' n'' : Int) (s'' : ByteArray) :
    RowsAt (W.alloc (.cells #[.int .i64 f, .int .i64 e, .int .i64 k, .int .i64 n, .string s, .int .i64 f', .int .i64 e', .int .i64 k', .int .i64 n', .string s', .int .i64 f'', .int .i64 e'', .int .i64 k'', .int .i64 n'', .string s''] 52)) (W.heap.size + 1) (.slice (some ⟨W.heap.size, 0, none⟩) 3 3) [(f, e, k, n, s), (f', e', k', n', s'), (f'', e'', k'', n'', s'')] := by
  refine ⟨some ⟨W.heap.size, 0, none⟩, 3, rfl, Nat.le_refl _, by unfold maxLen; omega, fun _ => ⟨W.heap.size, 0, rfl, by omega, fun i hi => ?_⟩⟩
  have hi3 : i = 0 ∨ i = 1 ∨ i = 2 := by simp at hi; omega
  rcases hi3 with rfl | rfl | rfl
  · exact ⟨by simp [go_sem], by simp [go_sem], by simp [go_sem], by simp [go_sem], by simp [go_sem]⟩
  · exact ⟨by simp [go_sem], by simp [go_sem], by simp [go_sem], by simp [go_sem], by simp [go_sem]⟩
  · exact ⟨by simp [go_sem], by simp [go_sem], by simp [go_sem], by simp [go_sem], by simp [go_sem]⟩

set_option maxHeartbeats 1000000 in
theorem lives10 (w : World) : Calls Try.prog 10 #[] w fun e w' => e = .returned (.bool true) ∧ Below w.heap.size w w' := by
  have HN := Lib.hid num27
  have HP := Lib.hid put11
  unfold valV at HP
  go_enter Try.func10, Try.ntmps10
  go_wp2_with fail
  refine (HN.out 7 _).mono ?_
  rintro e1 w1 ⟨rfl, hb1⟩
  go_wp2_with fail
  refine (HP.out [] 0 10 (1, 7, ⟨#[]⟩) _ w1 (OwnR.nil w1 0).rows).mono ?_
  rw [ex1]
  rintro e2 w2 ⟨v2, rfl, ho2, hb2⟩
  simp only
  have B2 := hb1.trans (hb2.mono hb1.size)
  have r2 := ho2.rows
  obtain ⟨A2, c2, rfl⟩ := ho2.slice
  clear hb1 hb2 ho2
  go_wp2_with fail
  refine (HN.out 8 _).mono ?_
  rintro e1 w3 ⟨rfl, hb3⟩
  replace r2 := r2.step hb3
  replace B2 := B2.trans (hb3.mono B2.size)
  clear hb3
  go_wp2_with fail
  refine (HP.out [(0, 10, 1, 7, ⟨#[]⟩)] 4 6 (1, 8, ⟨#[]⟩) _ w3 r2).mono ?_
  rw [ex2]
  rintro e2 w4 ⟨v4, rfl, ho4, hb4⟩
  simp only
  replace B2 := B2.trans (hb4.mono B2.size)
  have r4 := ho4.rows
  obtain ⟨A4, c4, rfl⟩ := ho4.slice
  clear hb4 ho4 r2
  go_wp2_with fail
  refine (HN.out 7 _).mono ?_
  rintro e1 w5 ⟨rfl, hbn⟩
  replace r4 := r4.step hbn
  replace B2 := B2.trans (hbn.mono B2.size)
  clear hbn
  go_wp2_with fail
  refine (HP.out [(0, 4, 1, 7, ⟨#[]⟩), (4, 6, 1, 8, ⟨#[]⟩), (6, 10, 1, 7, ⟨#[]⟩)] 4 6 (1, 7, ⟨#[]⟩) _ w5 r4).mono ?_
  rw [ex3]
  rintro e2 w6 ⟨v6, rfl, ho6, hb6⟩
  simp only
  replace B2 := B2.trans (hb6.mono B2.size)
  replace r4 := r4.step hb6
  have r6 := ho6.rows
  obtain ⟨A6, c6, rfl⟩ := ho6.slice
  clear hb6 ho6
  go_wp2_with fail
  refine (HN.out 7 _).mono ?_
  rintro e1 w7 ⟨rfl, hbn⟩
  replace r4 := r4.step hbn
  replace r6 := r6.step hbn
  replace B2 := B2.trans (hbn.mono B2.size)
  clear hbn
  go_wp2_with fail
  refine (HN.out 8 _).mono ?_
  rintro e1 w8 ⟨rfl, hbn⟩
  replace r4 := r4.step hbn
  replace r6 := r6.step hbn
  replace B2 := B2.trans (hbn.mono B2.size)
  clear hbn
  go_wp2_with fail
  refine (HN.out 7 _).mono ?_
  rintro e1 w9 ⟨rfl, hbn⟩
  replace r4 := r4.step hbn
  replace r6 := r6.step hbn
  replace B2 := B2.trans (hbn.mono B2.size)
  clear hbn
  have hbl : Below w9.heap.size w9 (w9.alloc (.cells #[.int .i64 0, .int .i64 4, .int .i64 1, .int .i64 7, .string ⟨#[]⟩, .int .i64 4, .int .i64 6, .int .i64 1, .int .i64 8, .string ⟨#[]⟩, .int .i64 6, .int .i64 10, .int .i64 1, .int .i64 7, .string ⟨#[]⟩] 52)) := (Below.refl _ _).alloc (Nat.le_refl _) _
  have rl := (rows_lit3 w9 0 4 1 7 ⟨#[]⟩ 4 6 1 8 ⟨#[]⟩ 6 10 1 7 ⟨#[]⟩).more (show w9.heap.size + 1 ≤ (w9.alloc (.cells #[.int .i64 0, .int .i64 4, .int .i64 1, .int .i64 7, .string ⟨#[]⟩, .int .i64 4, .int .i64 6, .int .i64 1, .int .i64 8, .string ⟨#[]⟩, .int .i64 6, .int .i64 10, .int .i64 1, .int .i64 7, .string ⟨#[]⟩] 52)).heap.size by simp)
  replace r4 := r4.step hbl
  replace r6 := r6.step hbl
  replace B2 := B2.trans (hbl.mono B2.size)
  have HS := Lib.hid (same17 _ _ _ _ _ r4 rl)
  rw [decide_eq_true rfl] at HS
  clear hbl rl
  go_wp2_with fail
  refine HS.out.mono ?_
  rintro e2 w10 ⟨rfl, hb10⟩
  replace r4 := r4.step hb10
  replace r6 := r6.step hb10
  replace B2 := B2.trans (hb10.mono B2.size)
  clear hb10 HS
  go_wp2_with fail
  refine (HN.out 7 _).mono ?_
  rintro e1 w11 ⟨rfl, hbn⟩
  replace r4 := r4.step hbn
  replace r6 := r6.step hbn
  replace B2 := B2.trans (hbn.mono B2.size)
  clear hbn
  have hbl : Below w11.heap.size w11 (w11.alloc (.cells #[.int .i64 0, .int .i64 10, .int .i64 1, .int .i64 7, .string ⟨#[]⟩] 52)) := (Below.refl _ _).alloc (Nat.le_refl _) _
  have rl := (rows_lit1 w11 0 10 1 7 ⟨#[]⟩).more (show w11.heap.size + 1 ≤ (w11.alloc (.cells #[.int .i64 0, .int .i64 10, .int .i64 1, .int .i64 7, .string ⟨#[]⟩] 52)).heap.size by simp)
  replace r4 := r4.step hbl
  replace r6 := r6.step hbl
  replace B2 := B2.trans (hbl.mono B2.size)
  have HS := Lib.hid (same17 _ _ _ _ _ r6 rl)
  rw [decide_eq_true rfl] at HS
  clear hbl rl
  go_wp2_with fail
  refine HS.out.mono ?_
  rintro e2 w12 ⟨rfl, hb12⟩
  replace r4 := r4.step hb12
  replace r6 := r6.step hb12
  replace B2 := B2.trans (hb12.mono B2.size)
  clear hb12 HS
  have HD := Lib.hid (diff25 _ _ _ _ w12 r4 r6)
  rw [ex4] at HD
  go_wp2_with fail
  refine HD.out.mono ?_
  rintro e2 w13 ⟨v13, rfl, ho13, hb13⟩
  have r13 := ho13.pcs
  obtain ⟨A13, c13, rfl⟩ := ho13.slice
  replace B2 := B2.trans (hb13.mono B2.size)
  clear hb13 ho13 HD r4 r6
  go_wp2_with fail
  refine (HN.out 8 _).mono ?_
  rintro e1 w14 ⟨rfl, hbn⟩
  replace r13 := r13.step hbn
  replace B2 := B2.trans (hbn.mono B2.size)
  clear hbn
  go_wp2_with fail
  refine (HN.out 7 _).mono ?_
  rintro e1 w15 ⟨rfl, hbn⟩
  replace r13 := r13.step hbn
  replace B2 := B2.trans (hbn.mono B2.size)
  clear hbn
  have hbl : Below w15.heap.size w15 (w15.alloc (.cells #[.int .i64 4, .int .i64 6, .int .i64 1, .int .i64 8, .string ⟨#[]⟩, .int .i64 1, .int .i64 7, .string ⟨#[]⟩] 44)) := (Below.refl _ _).alloc (Nat.le_refl _) _
  have rl := (pcs_one w15 4 6 1 8 ⟨#[]⟩ 1 7 ⟨#[]⟩).more (show w15.heap.size + 1 ≤ (w15.alloc (.cells #[.int .i64 4, .int .i64 6, .int .i64 1, .int .i64 8, .string ⟨#[]⟩, .int .i64 1, .int .i64 7, .string ⟨#[]⟩] 44)).heap.size by simp)
  replace r13 := r13.step hbl
  replace B2 := B2.trans (hbl.mono B2.size)
  have HS := Lib.hid (samePieces24 _ _ _ _ _ r13 rl)
  rw [decide_eq_true rfl] at HS
  clear hbl rl r13
  go_wp2_with fail
  refine HS.out.mono ?_
  rintro e2 w16 ⟨rfl, hb16⟩
  replace B2 := B2.trans (hb16.mono B2.size)
  have HB := Lib.hid B2
  clear hb16 HS B2
  go_wp2
  go_ret
  exact ⟨rfl, HB.out⟩
end Go.Proofs.Ytecefhoinggmgaa
