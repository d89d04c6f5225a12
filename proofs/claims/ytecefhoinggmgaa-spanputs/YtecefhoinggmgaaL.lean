import Derived.Test.YtecefhoinggmgaaK
namespace Go.Proofs.Ytecefhoinggmgaa
open Go.RowKit

def validV (k n : Int) (s : ByteArray) : Bool := (k == 1 && s.toList.isEmpty) || (k == 2 && (n == 0 && (decide ((s.size : Int) ≤ 40) && decide (0 ≤ runesR s.data.toList))))
def checkR (k n : Int) (s : ByteArray) : Int := if validV k n s then 0 else 2

set_option maxHeartbeats 800000 in
theorem check14 (k n : Int) (s : ByteArray) (w : World) :
    Calls Try.prog 28 #[.agg #[.int .i64 k, .int .i64 n, .string s]] w fun e w' => e = .returned (.int .i64 (checkR k n s)) ∧ Below w.heap.size w w' := by
  have hend : Below w.heap.size w (w.alloc (.cells #[.int .i64 k, .int .i64 n, .string s] 25)) := (Below.refl _ _).alloc (Nat.le_refl _) _
  by_cases k1 : k = 1
  · subst k1
    cases e : s.toList.isEmpty with
    | true =>
      have hA : Hid (checkR 1 n s = 0) := by simp [Hid, checkR, validV, e]
      have e' : (!s.toList.isEmpty) = false := by rw [e]; rfl
      rw [hA.out]
      go_enter Try.func28, Try.ntmps28
      go_wp2
      go_ret
      exact ⟨rfl, hend⟩
    | false =>
      have hA : Hid (checkR 1 n s = 2) := by simp [Hid, checkR, validV, e]
      have e' : (!s.toList.isEmpty) = true := by rw [e]; rfl
      rw [hA.out]
      go_enter Try.func28, Try.ntmps28
      go_wp2
      go_ret
      exact ⟨rfl, hend⟩
  have b1 : (k == 1) = false := by simpa using k1
  cases b2 : (k == 2) with
  | false =>
    have hA : Hid (checkR k n s = 2) := by simp [Hid, checkR, validV, b1, b2]
    rw [hA.out]
    clear k1
    go_enter Try.func28, Try.ntmps28
    go_wp2
    go_ret
    exact ⟨rfl, hend⟩
  | true =>
    cases b3 : (n == 0) with
    | false =>
      have hA : Hid (checkR k n s = 2) := by simp [Hid, checkR, validV, b1, b3]
      rw [hA.out]
      clear k1
      go_enter Try.func28, Try.ntmps28
      go_wp2
      go_ret
      exact ⟨rfl, hend⟩
    | true =>
      by_cases h4 : (s.size : Int) ≤ 40
      · have hru := runes18 s (w.alloc (.cells #[.int .i64 k, .int .i64 n, .string s] 25)) (by omega)
        by_cases h5 : 0 ≤ runesR s.data.toList
        · have hA : Hid (checkR k n s = 0) := by simp [Hid, checkR, validV, b1, b2, b3, h4, h5]
          rw [hA.out]
          generalize runesR s.data.toList = ru at hru h5
          have HR := Lib.hid hru; clear hru
          clear k1
          go_enter Try.func28, Try.ntmps28
          go_wp2_with (go_at_call 47; go_must (refine HR.out.mono ?_); rintro e w1 ⟨rfl, hb1⟩)
          go_ret
          exact ⟨rfl, hend.trans (hb1.mono (by simp))⟩
        · have hA : Hid (checkR k n s = 2) := by simp [Hid, checkR, validV, b1, b2, b3, h4, h5]
          rw [hA.out]
          generalize runesR s.data.toList = ru at hru h5
          have HR := Lib.hid hru; clear hru
          clear k1
          go_enter Try.func28, Try.ntmps28
          go_wp2_with (go_at_call 47; go_must (refine HR.out.mono ?_); rintro e w1 ⟨rfl, hb1⟩)
          go_ret
          exact ⟨rfl, hend.trans (hb1.mono (by simp))⟩
      · have hA : Hid (checkR k n s = 2) := by simp [Hid, checkR, validV, b1, b2, b3, h4]
        rw [hA.out]
        clear k1
        go_enter Try.func28, Try.ntmps28
        go_wp2
        go_ret
        exact ⟨rfl, hend⟩

def textR (k n : Int) (s : ByteArray) : List UInt8 × Int := if validV k n s then (if k = 2 then quoteR s.data.toList else (intText n, 0)) else ([], 2)

theorem toList_empty {s : ByteArray} (h : s.toList.isEmpty = true) : s.size = 0 := by
  rw [ByteArray.toList_eq] at h
  have := List.isEmpty_iff.1 h
  have hl : s.data.toList.length = s.size := rfl
  rw [this] at hl
  exact hl.symm

end Go.Proofs.Ytecefhoinggmgaa
