import Derived.Test.YtapfhonapejpjaaRF
import Derived.Deep.QuietTactic
import Derived.IntWalk
namespace Go.Proofs.Ytapfhonapejpjaa
open Go.RowKit

set_option maxHeartbeats 400000 in
theorem digit42 (b : Nat) (t : Bool) (h : decide (48 ≤ b ∧ b ≤ 57) = t) (w : World) :
    Calls Try.prog 42 #[.int .u8 (b : Int)] w fun e w' => e = .returned (.bool t) ∧ w = w' := by
  subst h
  by_cases h1 : b < 48
  · rw [decide_eq_false (show ¬ (48 ≤ b ∧ b ≤ 57) by omega)]
    go_enter Try.func42, Try.ntmps42
    go_wp2
    go_ret
    exact ⟨rfl, rfl⟩
  · by_cases h2 : b ≤ 57
    · rw [decide_eq_true (show 48 ≤ b ∧ b ≤ 57 by omega)]
      have t1 : (48 : Int) ≤ (b : Int) := by omega
      have t2 : (b : Int) ≤ 57 := by omega
      have d2 : decide ((b : Int) ≤ 57) = true := by simp; omega
      go_enter Try.func42, Try.ntmps42
      go_wp2
      go_ret
      first | exact ⟨rfl, rfl⟩ | exact ⟨by simp; omega, rfl⟩
    · rw [decide_eq_false (show ¬ (48 ≤ b ∧ b ≤ 57) by omega)]
      have t1 : (48 : Int) ≤ (b : Int) := by omega
      have t2 : ¬ (b : Int) ≤ 57 := by omega
      go_enter Try.func42, Try.ntmps42
      go_wp2
      go_ret
      first | exact ⟨rfl, rfl⟩ | exact ⟨by simp; omega, rfl⟩

set_option maxHeartbeats 400000 in
theorem low59 (b : Nat) (hb : b < 256) (w : World) :
    Calls Try.prog 59 #[.int .u8 (b : Int)] w fun e w' => e = .returned (.int .i64 (lowB b)) ∧ w = w' := by
  by_cases h1 : 48 ≤ b ∧ b ≤ 57
  · have HD := Lib.hid (digit42 b true (decide_eq_true h1))
    rw [show lowB b = (b : Int) - 48 by unfold lowB; rw [if_pos h1]]
    obtain ⟨q1, q2⟩ := h1
    go_enter Try.func59, Try.ntmps59
    go_wp2_with (go_at_call 42; go_must (refine (HD.out _).mono ?_); rintro e w' ⟨rfl, rfl⟩)
    go_ret
    exact ⟨rfl, rfl⟩
  · have HD := Lib.hid (digit42 b false (decide_eq_false h1))
    by_cases h2 : 97 ≤ b ∧ b ≤ 102
    · rw [show lowB b = (b : Int) - 97 + 10 by unfold lowB; rw [if_neg h1, if_pos h2]; omega]
      obtain ⟨q1, q2⟩ := h2
      clear h1
      have t1 : (97 : Int) ≤ (b : Int) := by omega
      have t2 : (b : Int) ≤ 102 := by omega
      go_enter Try.func59, Try.ntmps59
      go_wp2_with (go_at_call 42; go_must (refine (HD.out _).mono ?_); rintro e w' ⟨rfl, rfl⟩)
      go_ret
      exact ⟨rfl, rfl⟩
    · rw [show lowB b = -1 by unfold lowB; rw [if_neg h1, if_neg h2]]
      clear h1
      by_cases h3 : b < 97
      · have t1 : ¬ (97 : Int) ≤ (b : Int) := by omega
        clear h2
        go_enter Try.func59, Try.ntmps59
        go_wp2_with (go_at_call 42; go_must (refine (HD.out _).mono ?_); rintro e w' ⟨rfl, rfl⟩)
        go_ret
        exact ⟨rfl, rfl⟩
      · have t1 : (97 : Int) ≤ (b : Int) := by omega
        have t2 : ¬ (b : Int) ≤ 102 := by omega
        clear h2
        go_enter Try.func59, Try.ntmps59
        go_wp2_with (go_at_call 42; go_must (refine (HD.out _).mono ?_); rintro e w' ⟨rfl, rfl⟩)
        go_ret
        exact ⟨rfl, rfl⟩

theorem low59q (b : Nat) (hb : b < 256) (w : World) :
    Calls Try.prog 59 #[.int .u8 (b : Int)] w fun e w' => e = .returned (.int .i64 (lowB b)) ∧ w' = w :=
  (low59 b hb w).mono fun _ _ ⟨h1, h2⟩ => ⟨h1, h2.symm⟩

set_option maxHeartbeats 400000 in
theorem stop55 (s : ByteArray) (a : Nat) (w : World) :
    Calls Try.prog 55 #[.string s, .int .i64 a] w fun e w' => e = .returned (.tuple #[.agg #[.int .i64 0, .int .i64 0, .string ⟨#[]⟩], .int .i64 (if s.size ≤ a then s.size else a : Nat), .int .i64 (if s.size ≤ a then 3 else 4)]) ∧ Below w.heap.size w w' := by
  by_cases h : s.size ≤ a
  · rw [if_pos h, if_pos h]
    go_enter Try.func55, Try.ntmps55
    go_wp2
    exact bodyPost_ret (v := .tuple #[.agg #[.int .i64 0, .int .i64 0, .string ⟨#[]⟩], .int .i64 s.size, .int .i64 3]) (by simp [results, Try.results55, go_sem]) rfl ⟨rfl, (Below.refl _ _).alloc (Nat.le_refl _) _⟩
  · rw [if_neg h, if_neg h]
    go_enter Try.func55, Try.ntmps55
    go_wp2
    exact bodyPost_ret (v := .tuple #[.agg #[.int .i64 0, .int .i64 0, .string ⟨#[]⟩], .int .i64 a, .int .i64 4]) (by simp [results, Try.results55, go_sem]) rfl ⟨rfl, (Below.refl _ _).alloc (Nat.le_refl _) _⟩

/-- What escape comes to. -/
def EscTo (a : Nat) (x : Int × Nat) (w : World) (e : Ending) (w' : World) : Prop := e = .returned (.tuple #[.int .i64 x.1, .int .i64 ((a : Int) + x.2)]) ∧ Below w.heap.size w w'

theorem drop_cons {s : ByteArray} {a : Nat} {b : UInt8} {t : List UInt8} (h : s.data.toList.drop a = b :: t) : a < s.size ∧ byteAt s.data.toList a = b.toNat ∧ s.data.toList.drop (a + 1) = t := by
  have hlen := drop_len s a
  rw [h, List.length_cons] at hlen
  refine ⟨by omega, ?_, ?_⟩
  · have := byteAt_drop s.data.toList a 0
    rw [h, byteAt0, Nat.add_zero] at this
    exact this.symm
  · rw [← List.drop_drop, h]; rfl
theorem drop_nil_le {s : ByteArray} {a : Nat} (h : s.data.toList.drop a = []) : s.size ≤ a := by
  have hlen := drop_len s a
  rw [h] at hlen
  simp only [List.length_nil] at hlen
  omega

set_option maxRecDepth 100000 in
set_option maxHeartbeats 2000000 in
theorem esc_tail1 (s : ByteArray) (a : Nat) (w : World) (b hn xn : Nat) (lh lx : Int) (_hs : s.size ≤ 5000) (ha : a ≤ 5000) (_hbl : b < 256) (_hbl2 : hn < 256) (_hbl3 : xn < 256)
    (hix : ∀ w, (Instr.index 9 (.string s) (.int .i64 (a : Int))).run Try.prog w = .ok (.int .u8 (b : Int)) w)
    (hix2 : ∀ w, (Instr.index 9 (.string s) (.int .i64 ((a : Int) + 1))).run Try.prog w = .ok (.int .u8 (hn : Int)) w)
    (hix3 : ∀ w, (Instr.index 9 (.string s) (.int .i64 ((a : Int) + 2))).run Try.prog w = .ok (.int .u8 (xn : Int)) w)
    (_t1 : (a : Int) < (s.size : Int)) (t2 : (a : Int) + 1 < (s.size : Int)) (t3 : (a : Int) + 2 < (s.size : Int))
    (c1 : ((b : Int) == 34) = false) (c2 : ((b : Int) == 92) = false) (c3 : ((b : Int) == 110) = false) (c4 : ((b : Int) == 120) = true)
    (q5 : ((hn : Int) != 48) = false ∨ (((hn : Int) != 48) = true ∧ ((hn : Int) != 49) = false) ∨ (((hn : Int) != 48) = true ∧ ((hn : Int) != 49) = true ∧ ((hn : Int) != 55) = false))
    (HL1Q : Hid (∀ w, Calls Try.prog 59 #[.int .u8 (hn : Int)] w fun e w' => e = .returned (.int .i64 lh) ∧ w' = w))
    (HL2 : Hid (∀ w, Calls Try.prog 59 #[.int .u8 (xn : Int)] w fun e w' => e = .returned (.int .i64 lx) ∧ w = w'))
    (HL2Q : Hid (∀ w, Calls Try.prog 59 #[.int .u8 (xn : Int)] w fun e w' => e = .returned (.int .i64 lx) ∧ w' = w))
    (h00 : 0 ≤ lh) (h07 : lh ≤ 7) (g0 : 0 ≤ lx) (g15 : lx ≤ 15)
    (y1 : (16 * lh + lx == 10) = true) : Calls Try.prog 54 #[.string s, .int .i64 a] w (EscTo a (-1, 2) w) := by
  have w1 : IntKind.i64.wrap (16 * lh) = 16 * lh := IntWalk.i64_in _ (by omega)
  have w2 : IntKind.i64.wrap (16 * lh + lx) = 16 * lh + lx := IntWalk.i64_in _ (by omega)
  have w3 : IntKind.i64.wrap ((a : Int) + 1) = (a : Int) + 1 := IntWalk.i64_in _ (by omega)
  have w4 : IntKind.i64.wrap ((a : Int) + 2) = (a : Int) + 2 := IntWalk.i64_in _ (by omega)
  have v1 : decide ((s.size : Int) ≤ (a : Int) + 1) = false := by simp; omega
  have v2 : decide ((s.size : Int) ≤ (a : Int) + 2) = false := by simp; omega
  have v3 : decide (lx < 0) = false := by simp; omega
  clear g0 g15 h00 h07
  rcases q5 with q | ⟨q, q'⟩ | ⟨q, q', q''⟩
  all_goals
    go_enter Try.func54, Try.ntmps54
    go_wp2_with (go_at_call 59; go_must (refine (HL2.out _).mono ?_); rintro e w' ⟨rfl, rfl⟩)
    go_quiet ((go_at_call 59; first | (with_reducible exact Calls.quiet_of_same (HL1Q.out _)) | (with_reducible exact Calls.quiet_of_same (HL2Q.out _))))
    go_wp2
    go_ret2
    exact ⟨rfl, below_drewN (Below.refl _ _) _⟩

set_option maxRecDepth 100000 in
set_option maxHeartbeats 2000000 in
theorem esc_tail2 (s : ByteArray) (a : Nat) (w : World) (b hn xn : Nat) (lh lx : Int) (_hs : s.size ≤ 5000) (ha : a ≤ 5000) (_hbl : b < 256) (_hbl2 : hn < 256) (_hbl3 : xn < 256)
    (hix : ∀ w, (Instr.index 9 (.string s) (.int .i64 (a : Int))).run Try.prog w = .ok (.int .u8 (b : Int)) w)
    (hix2 : ∀ w, (Instr.index 9 (.string s) (.int .i64 ((a : Int) + 1))).run Try.prog w = .ok (.int .u8 (hn : Int)) w)
    (hix3 : ∀ w, (Instr.index 9 (.string s) (.int .i64 ((a : Int) + 2))).run Try.prog w = .ok (.int .u8 (xn : Int)) w)
    (_t1 : (a : Int) < (s.size : Int)) (t2 : (a : Int) + 1 < (s.size : Int)) (t3 : (a : Int) + 2 < (s.size : Int))
    (c1 : ((b : Int) == 34) = false) (c2 : ((b : Int) == 92) = false) (c3 : ((b : Int) == 110) = false) (c4 : ((b : Int) == 120) = true)
    (q5 : ((hn : Int) != 48) = false ∨ (((hn : Int) != 48) = true ∧ ((hn : Int) != 49) = false) ∨ (((hn : Int) != 48) = true ∧ ((hn : Int) != 49) = true ∧ ((hn : Int) != 55) = false))
    (HL1Q : Hid (∀ w, Calls Try.prog 59 #[.int .u8 (hn : Int)] w fun e w' => e = .returned (.int .i64 lh) ∧ w' = w))
    (HL2 : Hid (∀ w, Calls Try.prog 59 #[.int .u8 (xn : Int)] w fun e w' => e = .returned (.int .i64 lx) ∧ w = w'))
    (HL2Q : Hid (∀ w, Calls Try.prog 59 #[.int .u8 (xn : Int)] w fun e w' => e = .returned (.int .i64 lx) ∧ w' = w))
    (h00 : 0 ≤ lh) (h07 : lh ≤ 7) (g0 : 0 ≤ lx) (g15 : lx ≤ 15)
    (y1 : (16 * lh + lx == 10) = false) (y2 : decide (32 ≤ 16 * lh + lx) = false) : Calls Try.prog 54 #[.string s, .int .i64 a] w (EscTo a (16 * lh + lx, 3) w) := by
  have w1 : IntKind.i64.wrap (16 * lh) = 16 * lh := IntWalk.i64_in _ (by omega)
  have w2 : IntKind.i64.wrap (16 * lh + lx) = 16 * lh + lx := IntWalk.i64_in _ (by omega)
  have w3 : IntKind.i64.wrap ((a : Int) + 1) = (a : Int) + 1 := IntWalk.i64_in _ (by omega)
  have w4 : IntKind.i64.wrap ((a : Int) + 2) = (a : Int) + 2 := IntWalk.i64_in _ (by omega)
  have v1 : decide ((s.size : Int) ≤ (a : Int) + 1) = false := by simp; omega
  have v2 : decide ((s.size : Int) ≤ (a : Int) + 2) = false := by simp; omega
  have v3 : decide (lx < 0) = false := by simp; omega
  clear g0 g15 h00 h07
  rcases q5 with q | ⟨q, q'⟩ | ⟨q, q', q''⟩
  all_goals
    go_enter Try.func54, Try.ntmps54
    go_wp2_with (go_at_call 59; go_must (refine (HL2.out _).mono ?_); rintro e w' ⟨rfl, rfl⟩)
    go_quiet ((go_at_call 59; first | (with_reducible exact Calls.quiet_of_same (HL1Q.out _)) | (with_reducible exact Calls.quiet_of_same (HL2Q.out _))))
    go_wp2
    go_ret2
    exact ⟨rfl, below_drewN (Below.refl _ _) _⟩

set_option maxRecDepth 100000 in
set_option maxHeartbeats 2000000 in
theorem esc_tail3 (s : ByteArray) (a : Nat) (w : World) (b hn xn : Nat) (lh lx : Int) (_hs : s.size ≤ 5000) (ha : a ≤ 5000) (_hbl : b < 256) (_hbl2 : hn < 256) (_hbl3 : xn < 256)
    (hix : ∀ w, (Instr.index 9 (.string s) (.int .i64 (a : Int))).run Try.prog w = .ok (.int .u8 (b : Int)) w)
    (hix2 : ∀ w, (Instr.index 9 (.string s) (.int .i64 ((a : Int) + 1))).run Try.prog w = .ok (.int .u8 (hn : Int)) w)
    (hix3 : ∀ w, (Instr.index 9 (.string s) (.int .i64 ((a : Int) + 2))).run Try.prog w = .ok (.int .u8 (xn : Int)) w)
    (_t1 : (a : Int) < (s.size : Int)) (t2 : (a : Int) + 1 < (s.size : Int)) (t3 : (a : Int) + 2 < (s.size : Int))
    (c1 : ((b : Int) == 34) = false) (c2 : ((b : Int) == 92) = false) (c3 : ((b : Int) == 110) = false) (c4 : ((b : Int) == 120) = true)
    (q5 : ((hn : Int) != 48) = false ∨ (((hn : Int) != 48) = true ∧ ((hn : Int) != 49) = false) ∨ (((hn : Int) != 48) = true ∧ ((hn : Int) != 49) = true ∧ ((hn : Int) != 55) = false))
    (HL1Q : Hid (∀ w, Calls Try.prog 59 #[.int .u8 (hn : Int)] w fun e w' => e = .returned (.int .i64 lh) ∧ w' = w))
    (HL2 : Hid (∀ w, Calls Try.prog 59 #[.int .u8 (xn : Int)] w fun e w' => e = .returned (.int .i64 lx) ∧ w = w'))
    (HL2Q : Hid (∀ w, Calls Try.prog 59 #[.int .u8 (xn : Int)] w fun e w' => e = .returned (.int .i64 lx) ∧ w' = w))
    (h00 : 0 ≤ lh) (h07 : lh ≤ 7) (g0 : 0 ≤ lx) (g15 : lx ≤ 15)
    (y1 : (16 * lh + lx == 10) = false) (y2 : decide (32 ≤ 16 * lh + lx) = true) (y3 : (16 * lh + lx != 127) = false) : Calls Try.prog 54 #[.string s, .int .i64 a] w (EscTo a (16 * lh + lx, 3) w) := by
  have w1 : IntKind.i64.wrap (16 * lh) = 16 * lh := IntWalk.i64_in _ (by omega)
  have w2 : IntKind.i64.wrap (16 * lh + lx) = 16 * lh + lx := IntWalk.i64_in _ (by omega)
  have w3 : IntKind.i64.wrap ((a : Int) + 1) = (a : Int) + 1 := IntWalk.i64_in _ (by omega)
  have w4 : IntKind.i64.wrap ((a : Int) + 2) = (a : Int) + 2 := IntWalk.i64_in _ (by omega)
  have v1 : decide ((s.size : Int) ≤ (a : Int) + 1) = false := by simp; omega
  have v2 : decide ((s.size : Int) ≤ (a : Int) + 2) = false := by simp; omega
  have v3 : decide (lx < 0) = false := by simp; omega
  clear g0 g15 h00 h07
  rcases q5 with q | ⟨q, q'⟩ | ⟨q, q', q''⟩
  all_goals
    go_enter Try.func54, Try.ntmps54
    go_wp2_with (go_at_call 59; go_must (refine (HL2.out _).mono ?_); rintro e w' ⟨rfl, rfl⟩)
    go_quiet ((go_at_call 59; first | (with_reducible exact Calls.quiet_of_same (HL1Q.out _)) | (with_reducible exact Calls.quiet_of_same (HL2Q.out _))))
    go_wp2
    go_ret2
    exact ⟨rfl, below_drewN (Below.refl _ _) _⟩

set_option maxRecDepth 100000 in
set_option maxHeartbeats 2000000 in
theorem esc_tail4 (s : ByteArray) (a : Nat) (w : World) (b hn xn : Nat) (lh lx : Int) (_hs : s.size ≤ 5000) (ha : a ≤ 5000) (_hbl : b < 256) (_hbl2 : hn < 256) (_hbl3 : xn < 256)
    (hix : ∀ w, (Instr.index 9 (.string s) (.int .i64 (a : Int))).run Try.prog w = .ok (.int .u8 (b : Int)) w)
    (hix2 : ∀ w, (Instr.index 9 (.string s) (.int .i64 ((a : Int) + 1))).run Try.prog w = .ok (.int .u8 (hn : Int)) w)
    (hix3 : ∀ w, (Instr.index 9 (.string s) (.int .i64 ((a : Int) + 2))).run Try.prog w = .ok (.int .u8 (xn : Int)) w)
    (_t1 : (a : Int) < (s.size : Int)) (t2 : (a : Int) + 1 < (s.size : Int)) (t3 : (a : Int) + 2 < (s.size : Int))
    (c1 : ((b : Int) == 34) = false) (c2 : ((b : Int) == 92) = false) (c3 : ((b : Int) == 110) = false) (c4 : ((b : Int) == 120) = true)
    (q5 : ((hn : Int) != 48) = false ∨ (((hn : Int) != 48) = true ∧ ((hn : Int) != 49) = false) ∨ (((hn : Int) != 48) = true ∧ ((hn : Int) != 49) = true ∧ ((hn : Int) != 55) = false))
    (HL1Q : Hid (∀ w, Calls Try.prog 59 #[.int .u8 (hn : Int)] w fun e w' => e = .returned (.int .i64 lh) ∧ w' = w))
    (HL2 : Hid (∀ w, Calls Try.prog 59 #[.int .u8 (xn : Int)] w fun e w' => e = .returned (.int .i64 lx) ∧ w = w'))
    (HL2Q : Hid (∀ w, Calls Try.prog 59 #[.int .u8 (xn : Int)] w fun e w' => e = .returned (.int .i64 lx) ∧ w' = w))
    (h00 : 0 ≤ lh) (h07 : lh ≤ 7) (g0 : 0 ≤ lx) (g15 : lx ≤ 15)
    (y1 : (16 * lh + lx == 10) = false) (y2 : decide (32 ≤ 16 * lh + lx) = true) (y3 : (16 * lh + lx != 127) = true) : Calls Try.prog 54 #[.string s, .int .i64 a] w (EscTo a (-1, 2) w) := by
  have w1 : IntKind.i64.wrap (16 * lh) = 16 * lh := IntWalk.i64_in _ (by omega)
  have w2 : IntKind.i64.wrap (16 * lh + lx) = 16 * lh + lx := IntWalk.i64_in _ (by omega)
  have w3 : IntKind.i64.wrap ((a : Int) + 1) = (a : Int) + 1 := IntWalk.i64_in _ (by omega)
  have w4 : IntKind.i64.wrap ((a : Int) + 2) = (a : Int) + 2 := IntWalk.i64_in _ (by omega)
  have v1 : decide ((s.size : Int) ≤ (a : Int) + 1) = false := by simp; omega
  have v2 : decide ((s.size : Int) ≤ (a : Int) + 2) = false := by simp; omega
  have v3 : decide (lx < 0) = false := by simp; omega
  clear g0 g15 h00 h07
  rcases q5 with q | ⟨q, q'⟩ | ⟨q, q', q''⟩
  all_goals
    go_enter Try.func54, Try.ntmps54
    go_wp2_with (go_at_call 59; go_must (refine (HL2.out _).mono ?_); rintro e w' ⟨rfl, rfl⟩)
    go_quiet ((go_at_call 59; first | (with_reducible exact Calls.quiet_of_same (HL1Q.out _)) | (with_reducible exact Calls.quiet_of_same (HL2Q.out _))))
    go_wp2
    go_ret2
    exact ⟨rfl, below_drewN (Below.refl _ _) _⟩

set_option maxRecDepth 100000 in
set_option maxHeartbeats 1000000 in
theorem escape54 (s : ByteArray) (a : Nat) (w : World) (hs : s.size ≤ 5000) (ha : a ≤ 5000) :
    Calls Try.prog 54 #[.string s, .int .i64 a] w (EscTo a (escR (s.data.toList.drop a)) w) := by
  cases hl : s.data.toList.drop a with
  | nil =>
    have h := drop_nil_le hl
    have t1 : (s.size : Int) ≤ (a : Int) := by omega
    rw [show escR [] = (-1, 0) from rfl]
    clear hl
    go_enter Try.func54, Try.ntmps54
    go_wp2
    go_ret2
    exact ⟨by simp, Below.refl _ _⟩
  | cons b t =>
    obtain ⟨h1, hb, ht⟩ := drop_cons hl
    have hix := str_index s a a rfl h1
    rw [hb] at hix
    have hbl := b.toNat_lt
    have t1 : (a : Int) < (s.size : Int) := by omega
    unfold escR
    simp only
    clear hl hb
    by_cases q1 : b.toNat = 34 ∨ b.toNat = 92
    · rw [if_pos q1]
      clear ht
      rcases q1 with q | q
      · have c1 : ((b.toNat : Int) == 34) = true := by simp; omega
        clear q
        go_enter Try.func54, Try.ntmps54
        go_wp2
        go_ret2
        exact ⟨rfl, Below.refl _ _⟩
      · have c1 : ((b.toNat : Int) == 34) = false := by simp; omega
        have c2 : ((b.toNat : Int) == 92) = true := by simp; omega
        clear q
        go_enter Try.func54, Try.ntmps54
        go_wp2
        go_ret2
        exact ⟨rfl, Below.refl _ _⟩
    rw [if_neg q1]
    have c1 : ((b.toNat : Int) == 34) = false := by simp; omega
    have c2 : ((b.toNat : Int) == 92) = false := by simp; omega
    clear q1
    by_cases q2 : b.toNat = 110
    · rw [if_pos q2]
      have c3 : ((b.toNat : Int) == 110) = true := by simp; omega
      clear q2 ht
      go_enter Try.func54, Try.ntmps54
      go_wp2
      go_ret2
      exact ⟨rfl, Below.refl _ _⟩
    rw [if_neg q2]
    have c3 : ((b.toNat : Int) == 110) = false := by simp; omega
    clear q2
    by_cases q3 : b.toNat = 120
    · rw [if_pos q3]
      have c4 : ((b.toNat : Int) == 120) = true := by simp; omega
      clear q3
      cases ht' : t with
      | nil =>
        rw [ht'] at ht
        have h2 := drop_nil_le ht
        have t2 : (s.size : Int) ≤ (a : Int) + 1 := by omega
        clear ht ht'
        go_enter Try.func54, Try.ntmps54
        go_wp2
        go_ret2
        exact ⟨rfl, Below.refl _ _⟩
      | cons h u =>
        rw [ht'] at ht
        obtain ⟨h2, hb2, ht2⟩ := drop_cons ht
        have hix2 := str_index s (a + 1) ((a : Int) + 1) (by omega) h2
        rw [hb2] at hix2
        have hbl2 := h.toNat_lt
        have t2 : (a : Int) + 1 < (s.size : Int) := by omega
        clear ht ht' hb2
        simp only
        by_cases q4 : h.toNat = 48 ∨ h.toNat = 49 ∨ h.toNat = 55
        · rw [if_pos q4]
          have hlh : lowB h.toNat = (h.toNat : Int) - 48 := by unfold lowB; rw [if_pos (by omega)]
          have hl1 := low59q h.toNat hbl2
          have hl00 : 0 ≤ lowB h.toNat := by omega
          have hl07 : lowB h.toNat ≤ 7 := by omega
          have q5 : ((h.toNat : Int) != 48) = false ∨ (((h.toNat : Int) != 48) = true ∧ ((h.toNat : Int) != 49) = false) ∨ (((h.toNat : Int) != 48) = true ∧ ((h.toNat : Int) != 49) = true ∧ ((h.toNat : Int) != 55) = false) := by
            rcases q4 with q | q | q <;> simp [q]
          clear q4 hlh
          generalize lowB h.toNat = lh at hl1 hl00 hl07 ⊢
          generalize h.toNat = hn at hix2 hl1 q5 hbl2
          cases hu : u with
          | nil =>
            rw [hu] at ht2
            have h3 := drop_nil_le ht2
            have t3 : (s.size : Int) ≤ (a : Int) + 2 := by omega
            clear ht2 hu hl1 hl00 hl07
            rcases q5 with q | ⟨q, q'⟩ | ⟨q, q', q''⟩
            all_goals
              go_enter Try.func54, Try.ntmps54
              go_wp2
              go_ret2
              exact ⟨rfl, Below.refl _ _⟩
          | cons x v =>
            rw [hu] at ht2
            obtain ⟨h3, hb3, -⟩ := drop_cons ht2
            have hix3 := str_index s (a + 1 + 1) ((a : Int) + 2) (by omega) h3
            rw [hb3] at hix3
            have hbl3 := x.toNat_lt
            have t3 : (a : Int) + 2 < (s.size : Int) := by omega
            have hl2 := low59 x.toNat hbl3
            have hl2q := low59q x.toNat hbl3
            have hlx15 : lowB x.toNat ≤ 15 := by unfold lowB; repeat' split; all_goals omega
            have hlxm : -1 ≤ lowB x.toNat := by unfold lowB; repeat' split; all_goals omega
            simp only
            clear ht2 hu hb3
            generalize lowB x.toNat = lx at hl2 hl2q hlx15 hlxm ⊢
            generalize x.toNat = xn at hix3 hl2 hl2q hbl3
            have HL1Q := Lib.hid hl1; clear hl1
            have HL2 := Lib.hid hl2; clear hl2
            have HL2Q := Lib.hid hl2q; clear hl2q
            by_cases q6 : lx < 0
            · rw [if_pos q6]
              rcases q5 with q | ⟨q, q'⟩ | ⟨q, q', q''⟩
              all_goals
                go_enter Try.func54, Try.ntmps54
                go_wp2_with (go_at_call 59; go_must (refine (HL2.out _).mono ?_); rintro e w' ⟨rfl, rfl⟩)
                go_ret2
                exact ⟨rfl, Below.refl _ _⟩
            · rw [if_neg q6]
              have hpp : 16 * lh + lx = 10 ∨ (¬ 16 * lh + lx = 10 ∧ 16 * lh + lx < 32) ∨ (32 ≤ 16 * lh + lx ∧ 16 * lh + lx = 127) ∨ (32 ≤ 16 * lh + lx ∧ ¬ 16 * lh + lx = 127) := by omega
              rcases hpp with z | ⟨z1, z2⟩ | ⟨z1, z2⟩ | ⟨z1, z2⟩
              · rw [show pointOk (16 * lh + lx) = false by rw [z]; rfl, if_neg (by simp)]
                exact esc_tail1 s a w _ _ _ lh lx hs ha hbl hbl2 hbl3 hix hix2 hix3 t1 t2 t3 c1 c2 c3 c4 q5 HL1Q HL2 HL2Q hl00 hl07 (by omega) hlx15 (by simpa using z)
              · rw [show pointOk (16 * lh + lx) = true by simp only [pointOk, isCtl, Bool.and_eq_true, Bool.or_eq_true, decide_eq_true_eq]; exact ⟨by simpa using z1, .inl z2⟩, if_pos rfl]
                exact esc_tail2 s a w _ _ _ lh lx hs ha hbl hbl2 hbl3 hix hix2 hix3 t1 t2 t3 c1 c2 c3 c4 q5 HL1Q HL2 HL2Q hl00 hl07 (by omega) hlx15 (by simpa using z1) (by simp; omega)
              · rw [show pointOk (16 * lh + lx) = true by rw [z2]; rfl, if_pos rfl]
                exact esc_tail3 s a w _ _ _ lh lx hs ha hbl hbl2 hbl3 hix hix2 hix3 t1 t2 t3 c1 c2 c3 c4 q5 HL1Q HL2 HL2Q hl00 hl07 (by omega) hlx15 (by simp; omega) (by simpa using z1) (by simpa using z2)
              · rw [show pointOk (16 * lh + lx) = false by
                  cases hq : pointOk (16 * lh + lx) with
                  | false => rfl
                  | true => exfalso; simp only [pointOk, isCtl, Bool.and_eq_true, Bool.or_eq_true, decide_eq_true_eq, beq_iff_eq] at hq; omega, if_neg (by simp)]
                exact esc_tail4 s a w _ _ _ lh lx hs ha hbl hbl2 hbl3 hix hix2 hix3 t1 t2 t3 c1 c2 c3 c4 q5 HL1Q HL2 HL2Q hl00 hl07 (by omega) hlx15 (by simp; omega) (by simpa using z1) (by simpa using z2)
        · rw [if_neg q4]
          have d1 : ((h.toNat : Int) != 48) = true := by simp; omega
          have d2 : ((h.toNat : Int) != 49) = true := by simp; omega
          have d3 : ((h.toNat : Int) != 55) = true := by simp; omega
          clear q4 ht2
          go_enter Try.func54, Try.ntmps54
          go_wp2
          go_ret2
          exact ⟨rfl, Below.refl _ _⟩
    · rw [if_neg q3]
      have c4 : ((b.toNat : Int) == 120) = false := by simp; omega
      clear q3 ht
      go_enter Try.func54, Try.ntmps54
      go_wp2
      go_ret2
      exact ⟨by simp, Below.refl _ _⟩
end Go.Proofs.Ytapfhonapejpjaa
