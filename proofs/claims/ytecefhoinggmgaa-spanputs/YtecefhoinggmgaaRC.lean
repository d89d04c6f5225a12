import Derived.Test.YtecefhoinggmgaaRB
import Derived.Test.YtecefhoinggmgaaQ
import Derived.Test.YtecefhoinggmgaaEE
namespace Go.Proofs.Ytecefhoinggmgaa
open Go.RowKit

def RLoop (s : ByteArray) (res : Nat ⊕ Int) (nv av : Value) : Prop :=
  ∃ (pos f : Nat) (n : Int), av = .int .i64 pos ∧ nv = .int .i64 n ∧ 0 ≤ n ∧ n ≤ pos ∧ pos ≤ s.size ∧ runL countStep f pos (s.data.toList.drop pos) n = res ∧ s.size ≤ pos + f

theorem width_of_dec {l : List UInt8} {c d : Nat} (h : dec4 l = some (c, d)) : widthL l = d := by unfold widthL; rw [h]
theorem width_of_none {l : List UInt8} (h : dec4 l = none) : widthL l = 0 := by unfold widthL; rw [h]

set_option maxHeartbeats 400000 in
theorem refRunes19 (s : ByteArray) (w : World) (hs : s.size ≤ 5000) :
    Calls Try.prog 48 #[.string s] w fun e w' => e = .returned (.int .i64 (runesR s.data.toList)) ∧ w = w' := by
  have hP : runesR s.data.toList = runesEnd (runL countStep s.size 0 s.data.toList 0) := rfl
  rw [hP]
  clear hP
  have hst : RLoop s (runL countStep s.size 0 s.data.toList 0) (.int .i64 0) (.int .i64 0) := ⟨0, s.size, 0, rfl, rfl, by omega, by omega, by omega, by simp, by omega⟩
  generalize runL countStep s.size 0 s.data.toList 0 = res at hst ⊢
  have HST := Lib.hid hst; clear hst
  go_enter Try.func48, Try.ntmps48
  go_wp2
  go_loop [3, 4] (fun n a => RLoop s res n a) (fun _ a => s.size - (intOf a).toNat)
  case atStart => exact HST.out
  case round =>
    obtain ⟨pos, f, n, rfl, rfl, hn0, hn1, hpl, hrun, hf⟩ := hrel
    by_cases hp : pos < s.size
    · have hw := width35 s pos w hp hs
      cases f with
      | zero => omega
      | succ f =>
      rw [runL_step countStep f pos (drop_ne hp)] at hrun
      cases hd : dec4 (s.data.toList.drop pos) with
      | none =>
        rw [hd] at hrun
        rw [width_of_none hd] at hw
        have HW := Lib.hid hw; clear hw hd
        simp only at hrun
        subst hrun
        go_wp2_with (go_at_call 59; go_must (refine HW.out.mono ?_); rintro e w' ⟨rfl, rfl⟩)
        go_ret
        exact ⟨rfl, rfl⟩
      | some cd =>
        obtain ⟨c, d⟩ := cd
        obtain ⟨d1, d4, dl, _⟩ := dec4_split hd
        rw [drop_len] at dl
        rw [hd] at hrun
        rw [width_of_dec hd] at hw
        have HW := Lib.hid hw; clear hw hd
        simp only [countStep, List.drop_drop] at hrun
        have HR := Lib.hid hrun; clear hrun
        have b0 : ((d : Int) == 0) = false := by simp; omega
        go_wp2_with (go_at_call 59; go_must (refine HW.out.mono ?_); rintro e w' ⟨rfl, rfl⟩)
        go_round
        case rel => first
          | exact ⟨pos + d, f, n + 1, by go_num, rfl, by omega, by omega, by omega, HR.out, by omega⟩
          | exact ⟨_, _, _, ⟨pos + d, f, n + 1, by go_num, rfl, by omega, by omega, by omega, HR.out, by omega⟩, rfl, rfl, rfl⟩
          | exact ⟨_, _, _, _, ⟨pos + d, f, n + 1, by go_num, rfl, by omega, by omega, by omega, HR.out, by omega⟩, rfl, rfl, rfl, rfl⟩
        case measure => simp [intOf]; omega
    · have HR := Lib.hid hrun; clear hrun
      go_wp2
      go_ret
      have hr := HR.out
      rw [drop_nil hp, runL_end] at hr
      rw [← hr]
      exact ⟨rfl, rfl⟩

theorem below_of_eq {w w' : World} (h : w = w') : Below w.heap.size w w' := by subst h; exact Below.refl _ _

set_option maxHeartbeats 800000 in
theorem right23 (k n : Int) (s : ByteArray) (w : World) :
    Calls Try.prog 31 #[.agg #[.int .i64 k, .int .i64 n, .string s]] w fun e w' => e = .returned (.bool (validV k n s)) ∧ Below w.heap.size w w' := by
  have hend : Below w.heap.size w (w.alloc (.cells #[.int .i64 k, .int .i64 n, .string s] 25)) := (Below.refl _ _).alloc (Nat.le_refl _) _
  by_cases k1 : k = 1
  · subst k1
    cases e : s.toList.isEmpty with
    | true =>
      have hA : Hid (validV 1 n s = true) := by simp [Hid, validV, e]
      have e' : (!s.toList.isEmpty) = false := by rw [e]; rfl
      rw [hA.out]
      go_enter Try.func31, Try.ntmps31
      go_wp2
      go_ret
      exact ⟨rfl, hend⟩
    | false =>
      have hA : Hid (validV 1 n s = false) := by simp [Hid, validV, e]
      have e' : (!s.toList.isEmpty) = true := by rw [e]; rfl
      rw [hA.out]
      go_enter Try.func31, Try.ntmps31
      go_wp2
      go_ret
      exact ⟨rfl, hend⟩
  have b1 : (k == 1) = false := by simpa using k1
  cases b2 : (k == 2) with
  | false =>
    have hA : Hid (validV k n s = false) := by simp [Hid, validV, b1, b2]
    rw [hA.out]
    clear k1
    go_enter Try.func31, Try.ntmps31
    go_wp2
    go_ret
    exact ⟨rfl, hend⟩
  | true =>
    cases b3 : (n == 0) with
    | false =>
      have hA : Hid (validV k n s = false) := by simp [Hid, validV, b1, b3]
      rw [hA.out]
      clear k1
      go_enter Try.func31, Try.ntmps31
      go_wp2
      go_ret
      exact ⟨rfl, hend⟩
    | true =>
      by_cases h4 : (s.size : Int) ≤ 40
      · have hru := refRunes19 s (w.alloc (.cells #[.int .i64 k, .int .i64 n, .string s] 25)) (by omega)
        have hA : Hid (validV k n s = decide (0 ≤ runesR s.data.toList)) := by simp [Hid, validV, b1, b2, b3, h4]
        rw [hA.out]
        generalize runesR s.data.toList = ru at hru ⊢
        have HR := Lib.hid hru; clear hru hA
        clear k1
        go_enter Try.func31, Try.ntmps31
        go_wp2_with (go_at_call 48; go_must (refine HR.out.mono ?_); rintro e w1 ⟨rfl, rfl⟩)
        go_ret
        exact ⟨rfl, hend⟩
      · have hA : Hid (validV k n s = false) := by simp [Hid, validV, b1, b2, b3, h4]
        rw [hA.out]
        clear k1
        go_enter Try.func31, Try.ntmps31
        go_wp2
        go_ret
        exact ⟨rfl, hend⟩

end Go.Proofs.Ytecefhoinggmgaa
