import Derived.Test.YtapfhonapejpjaaCuts
import Derived.Test.YtapfhonapejpjaaQ
import Derived.Test.YtapfhonapejpjaaEE
namespace Go.Proofs.Ytapfhonapejpjaa
open Go.RowKit

/-- A boxed value's cells. -/
structure V1 (p : Nat) (k n : Int) (s : ByteArray) (w : World) : Prop where
  c0 : w.cell? ⟨p, 0, none⟩ = some (.int .i64 k)
  c1 : w.cell? ⟨p, 1, none⟩ = some (.int .i64 n)
  c2 : w.cell? ⟨p, 2, none⟩ = some (.string s)
theorem V1.step {p : Nat} {k n : Int} {s : ByteArray} {w w' : World} (h : V1 p k n s w) (hb : Below w.heap.size w w') : V1 p k n s w' := ⟨cell_keep hb h.c0, cell_keep hb h.c1, cell_keep hb h.c2⟩
theorem V1.lt {p : Nat} {k n : Int} {s : ByteArray} {w : World} (h : V1 p k n s w) : p < w.heap.size := World.block_lt_of_cell? w _ h.c0
theorem V1.new (w : World) (k n : Int) (s : ByteArray) : V1 w.heap.size k n s (w.alloc (.cells #[.int .i64 k, .int .i64 n, .string s] 24)) := by
  constructor <;> simp [go_sem]
theorem V1.alloc {p : Nat} {k n : Int} {s : ByteArray} {w : World} (h : V1 p k n s w) (o : Obj) : V1 p k n s (w.alloc o) := h.step ((Below.refl _ w).alloc (Nat.le_refl _) o)

theorem neq24 (ka na : Int) (sa : ByteArray) (kb nb : Int) (sb : ByteArray) (t : Bool) (h : decide (ka = kb ∧ na = nb ∧ sa = sb) = !t) (w : World) :
    (binOp .neq 24 (.agg #[.int .i64 ka, .int .i64 na, .string sa]) (.agg #[.int .i64 kb, .int .i64 nb, .string sb])).run Try.prog w = .ok (.bool t) w := by
  have e := eql24 ka na sa kb nb sb (!t) h w
  rw [run_eql_struct] at e
  rw [run_neq_struct]
  cases hx : Sem.run Try.prog (Op.equalIn 10000 24 (.agg #[.int .i64 ka, .int .i64 na, .string sa]) (.agg #[.int .i64 kb, .int .i64 nb, .string sb])) w with
  | ok b w' =>
    rw [hx] at e
    simp only [Result.andThen_ok, Result.ok.injEq, Value.bool.injEq] at e ⊢
    exact ⟨by rw [e.1]; simp, e.2⟩
  | _ => rw [hx] at e; simp [Result.andThen] at e

theorem text10' (k n : Int) (s : ByteArray) (t : List UInt8) (e : Int) (h : textR k n s = (t, e)) (h0 : -9223372036854775808 ≤ n) (h1 : n < 9223372036854775808) (w : World) :
    Calls Try.prog 10 #[.agg #[.int .i64 k, .int .i64 n, .string s]] w fun e' w' => e' = .returned (.tuple #[.string ⟨t.toArray⟩, .int .i64 e]) ∧ Below w.heap.size w w' := by
  have := text10 k n s w h0 h1
  rw [h] at this
  exact this
theorem check14' (k n : Int) (s : ByteArray) (e : Int) (h : checkR k n s = e) (w : World) :
    Calls Try.prog 14 #[.agg #[.int .i64 k, .int .i64 n, .string s]] w fun e' w' => e' = .returned (.int .i64 e) ∧ Below w.heap.size w w' := by
  subst h; exact check14 k n s w

theorem below_next {w w1 w2 : World} (h : Below w.heap.size w w1) (h2 : Below w1.heap.size w1 w2) : Below w.heap.size w w2 := h.trans (h2.mono h.size)
theorem below_alloc {w w1 : World} (h : Below w.heap.size w w1) (o : Obj) : Below w.heap.size w (w1.alloc o) := h.alloc h.size o

/-- The second half of ValueBack: what is read of s. -/
def BackGoal (v : Value) (s : ByteArray) (w : World) : Prop := Calls Try.prog 5 #[v, .string s] w fun e w' => e = .returned (.bool true) ∧ Below w.heap.size w w'

set_option maxHeartbeats 400000 in
theorem back5_longA (k n : Int) (t s : ByteArray) (w : World) (h : decide ((t.size : Int) ≤ 5000) = false) : BackGoal (.agg #[.int .i64 k, .int .i64 n, .string t]) s w := by
  unfold BackGoal
  have HS := Lib.hid (shortK k n t _ h)
  clear h
  have hb0 := below_alloc (Below.refl w.heap.size w) (.cells #[.int .i64 k, .int .i64 n, .string t] 24)
  go_enter Try.func5, Try.ntmps5
  go_wp2_with fail
  refine (HS.out _).mono ?_
  rintro e w1 ⟨rfl, hb1⟩
  have hbw := below_next hb0 hb1
  go_wp2_with (go_at_call 9; go_must (refine (lives9 _).mono ?_); rintro e w9 ⟨rfl, hb9⟩)
  go_ret
  exact ⟨rfl, below_next hbw hb9⟩

set_option maxHeartbeats 400000 in
theorem back5_longB (k n : Int) (t s : ByteArray) (w : World) (h : decide ((t.size : Int) ≤ 5000) = true) (h2 : (5000 : Int) < s.size) : BackGoal (.agg #[.int .i64 k, .int .i64 n, .string t]) s w := by
  unfold BackGoal
  have HS := Lib.hid (shortK k n t _ h)
  clear h
  have hb0 := below_alloc (Below.refl w.heap.size w) (.cells #[.int .i64 k, .int .i64 n, .string t] 24)
  go_enter Try.func5, Try.ntmps5
  go_wp2_with fail
  refine (HS.out _).mono ?_
  rintro e w1 ⟨rfl, hb1⟩
  have hbw := below_next hb0 hb1
  go_wp2_with (go_at_call 9; go_must (refine (lives9 _).mono ?_); rintro e w9 ⟨rfl, hb9⟩)
  go_ret
  exact ⟨rfl, below_next hbw hb9⟩

set_option maxHeartbeats 1000000 in
theorem back5_valid_ok (k n : Int) (t s : ByteArray) (w : World) (h : decide ((t.size : Int) ≤ 5000) = true) (h2 : ¬ (5000 : Int) < s.size)
    (h0 : -9223372036854775808 ≤ n) (h1 : n < 9223372036854775808) (hv : validV k n t = true) (he : (parseR s.data.toList).e = 0) : BackGoal (.agg #[.int .i64 k, .int .i64 n, .string t]) s w := by
  unfold BackGoal
  have HS := Lib.hid (shortK k n t _ h)
  obtain ⟨tx, ht, hp⟩ := text_parse hv h0 h1
  have HT := Lib.hid (text10' k n t tx 0 ht h0 h1)
  have HP := Lib.hid (parse20' ⟨tx.toArray⟩ k n t tx.length 0 hp)
  have hlt : ((⟨tx.toArray⟩ : ByteArray).size : Int) = (tx.length : Int) := rfl
  rw [← hlt] at HP
  generalize (⟨tx.toArray⟩ : ByteArray) = tt at HT HP
  have hne := fun w => neq24 k n t k n t false (by simp) w
  clear ht hp hlt hv
  obtain ⟨b1, b2, b3, b4, b5⟩ := parse_text_back _ he
  have HP2 := Lib.hid (parse20' s _ _ _ _ _ (pres_eta _))
  rw [b1, he] at HP2
  generalize (parseR s.data.toList).k = k2 at b2 b3 HP2
  generalize (parseR s.data.toList).n = n2 at b2 b3 b4 b5 HP2
  generalize (parseR s.data.toList).s = t2 at b2 b3 HP2
  have HT2 := Lib.hid (text10' k2 n2 t2 _ 0 b3 b4 b5)
  have HC := Lib.hid (check14' k2 n2 t2 0 (by simp [checkR, b2]))
  have es : (⟨s.data.toList.toArray⟩ : ByteArray) = s := by simp
  rw [es] at HT2
  have hls : (s.data.toList.length : Int) = (s.size : Int) := rfl
  rw [hls] at HP2
  clear h he b1 b2 b3 b4 b5 es hls
  have hb0 := below_alloc (Below.refl w.heap.size w) (.cells #[.int .i64 k, .int .i64 n, .string t] 24)
  have hV := V1.new w k n t
  go_enter Try.func5, Try.ntmps5
  go_wp2_with fail
  refine (HS.out _).mono ?_
  rintro e w1 ⟨rfl, hb1⟩
  replace hb0 := below_next hb0 hb1
  replace hV := hV.step hb1
  clear hb1
  obtain ⟨c0, c1, c2⟩ := id hV
  go_wp2_with fail
  refine (HT.out _).mono ?_
  rintro e w2 ⟨rfl, hb2⟩
  replace hb0 := below_next hb0 hb2
  replace hV := hV.step hb2
  clear hb2 c0 c1 c2
  go_wp2_with fail
  refine (HP.out _).mono ?_
  rintro e w3 ⟨rfl, hb3⟩
  replace hb0 := below_alloc (below_next hb0 hb3) (.cells #[.int .i64 k, .int .i64 n, .string t] 24)
  replace hV := hV.step hb3
  have hlt3 := hV.lt
  obtain ⟨c0, c1, c2⟩ := id hV
  clear hb3
  go_wp2_with fail
  refine (HP2.out _).mono ?_
  rintro e w4 ⟨rfl, hb4⟩
  have hb5 := below_alloc (below_next hb0 hb4) (.cells #[.int .i64 k2, .int .i64 n2, .string t2] 24)
  clear hb0 hV hb4
  have hW := V1.new w4 k2 n2 t2
  go_wp2_with fail
  refine (HT2.out _).mono ?_
  rintro e w5 ⟨rfl, hb6⟩
  replace hb5 := below_next hb5 hb6
  replace hW := hW.step hb6
  clear hb6
  obtain ⟨d0, d1, d2⟩ := id hW
  go_wp2_with fail
  refine (HC.out _).mono ?_
  rintro e w6 ⟨rfl, hb7⟩
  replace hb5 := below_next hb5 hb7
  clear hb7 hW d0 d1 d2
  go_wp2_with (go_at_call 9; go_must (refine (lives9 _).mono ?_); rintro e w9 ⟨rfl, hb9⟩)
  go_ret
  exact ⟨rfl, below_next hb5 hb9⟩

set_option maxHeartbeats 1000000 in
theorem back5_valid_err (k n : Int) (t s : ByteArray) (w : World) (h : decide ((t.size : Int) ≤ 5000) = true) (h2 : ¬ (5000 : Int) < s.size)
    (h0 : -9223372036854775808 ≤ n) (h1 : n < 9223372036854775808) (hv : validV k n t = true) (he : ¬ (parseR s.data.toList).e = 0) : BackGoal (.agg #[.int .i64 k, .int .i64 n, .string t]) s w := by
  unfold BackGoal
  have HS := Lib.hid (shortK k n t _ h)
  obtain ⟨tx, ht, hp⟩ := text_parse hv h0 h1
  have HT := Lib.hid (text10' k n t tx 0 ht h0 h1)
  have HP := Lib.hid (parse20' ⟨tx.toArray⟩ k n t tx.length 0 hp)
  have hlt : ((⟨tx.toArray⟩ : ByteArray).size : Int) = (tx.length : Int) := rfl
  rw [← hlt] at HP
  generalize (⟨tx.toArray⟩ : ByteArray) = tt at HT HP
  have hne := fun w => neq24 k n t k n t false (by simp) w
  clear ht hp hlt hv
  obtain ⟨b1, b2, b3, b4, b5⟩ := parse_err _ he
  have HP2 := Lib.hid (parse20' s _ _ _ _ _ (pres_eta _))
  rw [b1, b2, b3] at HP2
  have hls : (s.data.toList.length : Int) = (s.size : Int) := rfl
  rw [hls] at b5
  generalize (parseR s.data.toList).at' = aa at b4 b5 HP2
  have bne : ((parseR s.data.toList).e != 0) = true := by simpa using he
  generalize (parseR s.data.toList).e = ee at bne HP2
  have heq := fun w => eql24 0 0 ⟨#[]⟩ 0 0 ⟨#[]⟩ true (by simp) w
  clear h he b1 b2 b3 hls
  have hb0 := below_alloc (Below.refl w.heap.size w) (.cells #[.int .i64 k, .int .i64 n, .string t] 24)
  have hV := V1.new w k n t
  go_enter Try.func5, Try.ntmps5
  go_wp2_with fail
  refine (HS.out _).mono ?_
  rintro e w1 ⟨rfl, hb1⟩
  replace hb0 := below_next hb0 hb1
  replace hV := hV.step hb1
  clear hb1
  obtain ⟨c0, c1, c2⟩ := id hV
  go_wp2_with fail
  refine (HT.out _).mono ?_
  rintro e w2 ⟨rfl, hb2⟩
  replace hb0 := below_next hb0 hb2
  replace hV := hV.step hb2
  clear hb2 c0 c1 c2
  go_wp2_with fail
  refine (HP.out _).mono ?_
  rintro e w3 ⟨rfl, hb3⟩
  replace hb0 := below_alloc (below_next hb0 hb3) (.cells #[.int .i64 k, .int .i64 n, .string t] 24)
  replace hV := hV.step hb3
  have hlt3 := hV.lt
  obtain ⟨c0, c1, c2⟩ := id hV
  clear hb3
  go_wp2_with fail
  refine (HP2.out _).mono ?_
  rintro e w4 ⟨rfl, hb4⟩
  have hb5 := below_alloc (below_next hb0 hb4) (.cells #[.int .i64 0, .int .i64 0, .string ⟨#[]⟩] 24)
  clear hb0 hV hb4
  go_wp2_with (go_at_call 9; go_must (refine (lives9 _).mono ?_); rintro e w9 ⟨rfl, hb9⟩)
  go_ret
  exact ⟨rfl, below_next hb5 hb9⟩

set_option maxHeartbeats 1000000 in
theorem back5_bad_ok (k n : Int) (t s : ByteArray) (w : World) (h : decide ((t.size : Int) ≤ 5000) = true) (h2 : ¬ (5000 : Int) < s.size)
    (h0 : -9223372036854775808 ≤ n) (h1 : n < 9223372036854775808) (hv : validV k n t = false) (he : (parseR s.data.toList).e = 0) : BackGoal (.agg #[.int .i64 k, .int .i64 n, .string t]) s w := by
  unfold BackGoal
  have HS := Lib.hid (shortK k n t _ h)
  have HT := Lib.hid (text10' k n t [] 2 (by simp [textR, hv]) h0 h1)
  clear hv
  obtain ⟨b1, b2, b3, b4, b5⟩ := parse_text_back _ he
  have HP2 := Lib.hid (parse20' s _ _ _ _ _ (pres_eta _))
  rw [b1, he] at HP2
  generalize (parseR s.data.toList).k = k2 at b2 b3 HP2
  generalize (parseR s.data.toList).n = n2 at b2 b3 b4 b5 HP2
  generalize (parseR s.data.toList).s = t2 at b2 b3 HP2
  have HT2 := Lib.hid (text10' k2 n2 t2 _ 0 b3 b4 b5)
  have HC := Lib.hid (check14' k2 n2 t2 0 (by simp [checkR, b2]))
  have es : (⟨s.data.toList.toArray⟩ : ByteArray) = s := by simp
  rw [es] at HT2
  have hls : (s.data.toList.length : Int) = (s.size : Int) := rfl
  rw [hls] at HP2
  clear h he b1 b2 b3 b4 b5 es hls
  have hb0 := below_alloc (Below.refl w.heap.size w) (.cells #[.int .i64 k, .int .i64 n, .string t] 24)
  have hV := V1.new w k n t
  go_enter Try.func5, Try.ntmps5
  go_wp2_with fail
  refine (HS.out _).mono ?_
  rintro e w1 ⟨rfl, hb1⟩
  replace hb0 := below_next hb0 hb1
  replace hV := hV.step hb1
  clear hb1
  obtain ⟨c0, c1, c2⟩ := id hV
  go_wp2_with fail
  refine (HT.out _).mono ?_
  rintro e w2 ⟨rfl, hb2⟩
  replace hb0 := below_next hb0 hb2
  replace hV := hV.step hb2
  clear hb2 c0 c1 c2
  go_wp2_with fail
  refine (HP2.out _).mono ?_
  rintro e w4 ⟨rfl, hb4⟩
  have hb5 := below_alloc (below_next hb0 hb4) (.cells #[.int .i64 k2, .int .i64 n2, .string t2] 24)
  clear hb0 hV hb4
  have hW := V1.new w4 k2 n2 t2
  go_wp2_with fail
  refine (HT2.out _).mono ?_
  rintro e w5 ⟨rfl, hb6⟩
  replace hb5 := below_next hb5 hb6
  replace hW := hW.step hb6
  clear hb6
  obtain ⟨d0, d1, d2⟩ := id hW
  go_wp2_with fail
  refine (HC.out _).mono ?_
  rintro e w6 ⟨rfl, hb7⟩
  replace hb5 := below_next hb5 hb7
  clear hb7 hW d0 d1 d2
  go_wp2_with (go_at_call 9; go_must (refine (lives9 _).mono ?_); rintro e w9 ⟨rfl, hb9⟩)
  go_ret
  exact ⟨rfl, below_next hb5 hb9⟩

set_option maxHeartbeats 1000000 in
theorem back5_bad_err (k n : Int) (t s : ByteArray) (w : World) (h : decide ((t.size : Int) ≤ 5000) = true) (h2 : ¬ (5000 : Int) < s.size)
    (h0 : -9223372036854775808 ≤ n) (h1 : n < 9223372036854775808) (hv : validV k n t = false) (he : ¬ (parseR s.data.toList).e = 0) : BackGoal (.agg #[.int .i64 k, .int .i64 n, .string t]) s w := by
  unfold BackGoal
  have HS := Lib.hid (shortK k n t _ h)
  have HT := Lib.hid (text10' k n t [] 2 (by simp [textR, hv]) h0 h1)
  clear hv
  obtain ⟨b1, b2, b3, b4, b5⟩ := parse_err _ he
  have HP2 := Lib.hid (parse20' s _ _ _ _ _ (pres_eta _))
  rw [b1, b2, b3] at HP2
  have hls : (s.data.toList.length : Int) = (s.size : Int) := rfl
  rw [hls] at b5
  generalize (parseR s.data.toList).at' = aa at b4 b5 HP2
  have bne : ((parseR s.data.toList).e != 0) = true := by simpa using he
  generalize (parseR s.data.toList).e = ee at bne HP2
  have heq := fun w => eql24 0 0 ⟨#[]⟩ 0 0 ⟨#[]⟩ true (by simp) w
  clear h he b1 b2 b3 hls
  have hb0 := below_alloc (Below.refl w.heap.size w) (.cells #[.int .i64 k, .int .i64 n, .string t] 24)
  have hV := V1.new w k n t
  go_enter Try.func5, Try.ntmps5
  go_wp2_with fail
  refine (HS.out _).mono ?_
  rintro e w1 ⟨rfl, hb1⟩
  replace hb0 := below_next hb0 hb1
  replace hV := hV.step hb1
  clear hb1
  obtain ⟨c0, c1, c2⟩ := id hV
  go_wp2_with fail
  refine (HT.out _).mono ?_
  rintro e w2 ⟨rfl, hb2⟩
  replace hb0 := below_next hb0 hb2
  replace hV := hV.step hb2
  clear hb2 c0 c1 c2
  go_wp2_with fail
  refine (HP2.out _).mono ?_
  rintro e w4 ⟨rfl, hb4⟩
  have hb5 := below_alloc (below_next hb0 hb4) (.cells #[.int .i64 0, .int .i64 0, .string ⟨#[]⟩] 24)
  clear hb0 hV hb4
  go_wp2_with (go_at_call 9; go_must (refine (lives9 _).mono ?_); rintro e w9 ⟨rfl, hb9⟩)
  go_ret
  exact ⟨rfl, below_next hb5 hb9⟩

theorem back5 (k n : Int) (t s : ByteArray) (w : World) (h0 : -9223372036854775808 ≤ n) (h1 : n < 9223372036854775808) : BackGoal (.agg #[.int .i64 k, .int .i64 n, .string t]) s w := by
  cases h : decide ((t.size : Int) ≤ 5000) with
  | false => exact back5_longA k n t s w h
  | true =>
    by_cases h2 : (5000 : Int) < s.size
    · exact back5_longB k n t s w h h2
    · cases hv : validV k n t with
      | true =>
        by_cases he : (parseR s.data.toList).e = 0
        · exact back5_valid_ok k n t s w h h2 h0 h1 hv he
        · exact back5_valid_err k n t s w h h2 h0 h1 hv he
      | false =>
        by_cases he : (parseR s.data.toList).e = 0
        · exact back5_bad_ok k n t s w h h2 h0 h1 hv he
        · exact back5_bad_err k n t s w h h2 h0 h1 hv he
end Go.Proofs.Ytapfhonapejpjaa
