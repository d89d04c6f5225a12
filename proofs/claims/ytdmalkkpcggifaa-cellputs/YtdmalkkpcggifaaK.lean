/-
  The contracts of meaningOf, limits, Num and Text. No condition.
-/
import Derived.Test.YtdmalkkpcggifaaJ
namespace Go.Proofs.Ytdmalkkpcggifaa
open Go.RowKit

theorem and15 (b : Nat) (h : b < 256) : bits .and .u8 (b : Int) 15 = ((b % 16 : Nat) : Int) := by
  have := u8_and_nat b 15 h (by omega)
  rw [show ((15 : Nat) : Int) = 15 from rfl] at this
  rw [this]
  congr 1
  exact (show ∀ x : Fin 256, x.val &&& 15 = x.val % 16 by decide +kernel) ⟨b, h⟩
theorem and240 (b : Nat) (h : b < 256) : bits .and .u8 (b : Int) 240 = ((b / 16 * 16 : Nat) : Int) := by
  have := u8_and_nat b 240 h (by omega)
  rw [show ((240 : Nat) : Int) = 240 from rfl] at this
  rw [this]
  congr 1
  exact (show ∀ x : Fin 256, x.val &&& 240 = x.val / 16 * 16 by decide +kernel) ⟨b, h⟩

def tyOf (m : Nat) : TypeId := if m = 1 then 88 else if m = 2 then 89 else if m = 3 then 90 else 95
def headV (m w : Nat) : Value := .agg #[.int .i64 w, .int .u64 (mostOf m)]
def meaningV (m w : Nat) : Value := if headOk m w = true then .iface (tyOf m) (headV m w) else .nilIface

set_option maxHeartbeats 1000000 in
theorem meaningOf40 (b : Nat) (hb : b < 256) (w : World) : Calls Try.prog 40 #[.int .u8 b] w fun e w' => e = .returned (meaningV (b / 16) (b % 16)) ∧ w = w' := by
  have h15 := and15 b hb
  have h240 := and240 b hb
  have hw16 : b % 16 < 16 := by omega
  have hm16 : b / 16 < 16 := by omega
  generalize b % 16 = wd at h15 hw16 ⊢
  generalize b / 16 = m at h240 hm16 ⊢
  by_cases m1 : m = 1
  · subst m1
    rw [show ((1 * 16 : Nat) : Int) = 16 from rfl] at h240
    by_cases hw : (wd : Int) ≤ 8
    · have e : meaningV 1 wd = .iface 88 (.agg #[.int .i64 wd, .int .u64 9223372036854775807]) := by unfold meaningV; rw [if_pos (by unfold headOk; simp; omega)]; rfl
      rw [e]; clear e
      go_enter Try.func40, Try.ntmps40
      go_wp2_with fail
      go_ret
      exact ⟨rfl, rfl⟩
    · have e : meaningV 1 wd = .nilIface := by unfold meaningV; rw [if_neg (by unfold headOk; simp; omega)]
      rw [e]; clear e
      go_enter Try.func40, Try.ntmps40
      go_wp2_with fail
      go_ret
      exact ⟨rfl, rfl⟩
  by_cases m2 : m = 2
  · subst m2
    rw [show ((2 * 16 : Nat) : Int) = 32 from rfl] at h240
    by_cases hw : (wd : Int) ≤ 8
    · have e : meaningV 2 wd = .iface 89 (.agg #[.int .i64 wd, .int .u64 9223372036854775807]) := by unfold meaningV; rw [if_pos (by unfold headOk; simp; omega)]; rfl
      rw [e]; clear e
      go_enter Try.func40, Try.ntmps40
      go_wp2_with fail
      go_ret
      exact ⟨rfl, rfl⟩
    · have e : meaningV 2 wd = .nilIface := by unfold meaningV; rw [if_neg (by unfold headOk; simp; omega)]
      rw [e]; clear e
      go_enter Try.func40, Try.ntmps40
      go_wp2_with fail
      go_ret
      exact ⟨rfl, rfl⟩
  by_cases m3 : m = 3
  · subst m3
    rw [show ((3 * 16 : Nat) : Int) = 48 from rfl] at h240
    by_cases hw : (wd : Int) ≤ 2
    · have e : meaningV 3 wd = .iface 90 (.agg #[.int .i64 wd, .int .u64 65535]) := by unfold meaningV; rw [if_pos (by unfold headOk; simp; omega)]; rfl
      rw [e]; clear e
      go_enter Try.func40, Try.ntmps40
      go_wp2_with fail
      go_ret
      exact ⟨rfl, rfl⟩
    · have e : meaningV 3 wd = .nilIface := by unfold meaningV; rw [if_neg (by unfold headOk; simp; omega)]
      rw [e]; clear e
      go_enter Try.func40, Try.ntmps40
      go_wp2_with fail
      go_ret
      exact ⟨rfl, rfl⟩
  by_cases m4 : m = 4
  · subst m4
    rw [show ((4 * 16 : Nat) : Int) = 64 from rfl] at h240
    by_cases hw : (wd : Int) ≤ 2
    · have e : meaningV 4 wd = .iface 95 (.agg #[.int .i64 wd, .int .u64 4095]) := by unfold meaningV; rw [if_pos (by unfold headOk; simp; omega)]; rfl
      rw [e]; clear e
      go_enter Try.func40, Try.ntmps40
      go_wp2_with fail
      go_ret
      exact ⟨rfl, rfl⟩
    · have e : meaningV 4 wd = .nilIface := by unfold meaningV; rw [if_neg (by unfold headOk; simp; omega)]
      rw [e]; clear e
      go_enter Try.func40, Try.ntmps40
      go_wp2_with fail
      go_ret
      exact ⟨rfl, rfl⟩
  · have e : meaningV m wd = .nilIface := by unfold meaningV; rw [if_neg (by unfold headOk; simp; omega)]
    rw [e]; clear e
    have e1 : (((m * 16 : Nat) : Int) == 16) = false := beq_eq_false_iff_ne.2 (by omega)
    have e2 : (((m * 16 : Nat) : Int) == 32) = false := beq_eq_false_iff_ne.2 (by omega)
    have e3 : (((m * 16 : Nat) : Int) == 48) = false := beq_eq_false_iff_ne.2 (by omega)
    have e4 : (((m * 16 : Nat) : Int) == 64) = false := beq_eq_false_iff_ne.2 (by omega)
    generalize ((m * 16 : Nat) : Int) = mk at h240 e1 e2 e3 e4
    clear m1 m2 m3 m4 hm16
    go_enter Try.func40, Try.ntmps40
    go_wp2_with fail
    go_ret
    exact ⟨rfl, rfl⟩

theorem size85 : (Try.prog.info? 85).map (·.size) = some 2 := by kernel_rfl
theorem size25 : (Try.prog.info? 25).map (·.size) = some 4 := by kernel_rfl

set_option maxHeartbeats 400000 in
theorem limits62 (wd most : Nat) (w : World) : Calls Try.prog 62 #[.agg #[.int .i64 wd, .int .u64 most]] w fun e w' => e = .returned (.agg #[.int .i64 wd, .int .u64 most]) ∧ Below w.heap.size w w' := by
  go_enter Try.func62, Try.ntmps62
  go_wp2_with fail
  refine bodyPost_ret (results_cell_row (p := 2) (ty := 85) rfl _ _ (w.heap.size + 1) 85 #[.int .i64 wd, .int .u64 most] (0, 0) _ rfl ?hg Try.underlying85 rfl size85) rfl ?_
  case hg => simpa using heap_alloc_new (w.alloc (.cells #[.int .i64 wd, .int .u64 most] 85)) (.cells #[.int .i64 wd, .int .u64 most] 85)
  exact ⟨rfl, ((Below.refl _ w).alloc (Nat.le_refl _) _).alloc (by simp) _⟩

set_option maxHeartbeats 400000 in
theorem num16 (n : Int) (w : World) : Calls Try.prog 16 #[.int .i64 n] w fun e w' => e = .returned (.agg #[.int .i64 1, .int .i64 n, .string ⟨#[]⟩, .slice none 0 0]) ∧ Below w.heap.size w w' := by
  go_enter Try.func16, Try.ntmps16
  go_wp2_with fail
  refine bodyPost_ret (results_cell_row (p := 2) (ty := 25) rfl _ _ w.heap.size 25 #[.int .i64 1, .int .i64 n, .string ⟨#[]⟩, .slice none 0 0] (0, 0) _ rfl ?hg Try.underlying25 rfl size25) rfl ?_
  case hg => exact heap_alloc_new w _
  exact ⟨rfl, (Below.refl _ w).alloc (Nat.le_refl _) _⟩

set_option maxHeartbeats 400000 in
theorem text17 (s : ByteArray) (w : World) : Calls Try.prog 17 #[.string s] w fun e w' => e = .returned (.agg #[.int .i64 2, .int .i64 0, .string s, .slice none 0 0]) ∧ Below w.heap.size w w' := by
  go_enter Try.func17, Try.ntmps17
  go_wp2_with fail
  refine bodyPost_ret (results_cell_row (p := 2) (ty := 25) rfl _ _ w.heap.size 25 #[.int .i64 2, .int .i64 0, .string s, .slice none 0 0] (0, 0) _ rfl ?hg Try.underlying25 rfl size25) rfl ?_
  case hg => exact heap_alloc_new w _
  exact ⟨rfl, (Below.refl _ w).alloc (Nat.le_refl _) _⟩
end Go.Proofs.Ytdmalkkpcggifaa
