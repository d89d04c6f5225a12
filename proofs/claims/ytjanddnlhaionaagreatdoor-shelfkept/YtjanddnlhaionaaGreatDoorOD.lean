/-
  Contracts of areParents, isNode, isCommit, Check. No condition.
-/
import Derived.Test.YtjanddnlhaionaaGreatDoorOC
namespace Go.Proofs.YtjanddnlhaionaaGreatDoor
open Go.RowKit
open L4 (C)
open L2 (Row Vl RowsAt rowsOK valOK)

set_option maxRecDepth 100000 in
set_option maxHeartbeats 1000000 in
theorem areParents47 (l : List ByteArray) (v : Value) (w : World) (h : TxtsAt w w.heap.size v l) :
    Calls Tryz.prog 112 #[v] w fun e w' => e = .returned (.bool (parentsOK l)) ∧ w = w' := by
  have HTA := Lib.hid h
  obtain ⟨A, cap, rfl, h1, h2, h3⟩ := h
  unfold maxLen at h2
  by_cases h64 : (2 : Int) < l.length
  · have hA : Hid (parentsOK l = false) := by unfold Hid parentsOK; rw [decide_eq_true h64]; rfl
    rw [hA.out]
    go_enter Tryz.func112, Tryz.ntmps112
    go_wp2
    go_ret
    exact ⟨rfl, rfl⟩
  · obtain ⟨q, hq⟩ : ∃ q, parentsOK l = q := ⟨_, rfl⟩
    rw [hq]
    have HQ : Hid (parentsFrom (l.take 0) (l.drop 0) = q) := by unfold Hid; rw [← hq]; unfold parentsOK; rw [decide_eq_false h64]; rfl
    clear hq
    go_enter Tryz.func112, Tryz.ntmps112
    go_wp2_with fail
    go_loopw [3, 4, 10] (fun _ _ i wr => ∃ k : Nat, k ≤ l.length ∧ i = .int .i64 k ∧ wr = w ∧ Hid (parentsFrom (l.take k) (l.drop k) = q)) (fun _ _ i _ => l.length - (intOf i).toNat)
    case atStart => exact ⟨0, Nat.zero_le _, rfl, rfl, HQ⟩
    case round =>
      obtain ⟨k, hk, rfl, rfl, HK⟩ := hrel
      by_cases hlt : k < l.length
      · have hta := HTA.out.take k hk
        obtain ⟨b, o, rfl, hb, hr⟩ := h3 (by omega)
        have hd := L2.drop_get l k hlt
        have ht : l.take (k + 1) = l.take k ++ [l[k]] := List.take_succ_eq_append_getElem hlt
        have c0 := hr k hlt
        have HID := Lib.hid (isId49 l[k])
        have HC := Lib.hid (contains68 (l.take k) _ l[k] wr hta)
        have HD : Hid (parentsFrom (l.take k) (l.drop k) = (isIdB l[k] && (!memB l[k] (l.take k) && parentsFrom (l.take (k + 1)) (l.drop (k + 1))))) := by unfold Hid; rw [hd, ht]; rfl
        clear hd ht hta h3 hr HTA
        generalize l[k] = s at c0 HID HC HD
        generalize isIdB s = q1 at HID HD
        generalize memB s (l.take k) = q2 at HC HD
        cases q1 with
        | false =>
          have hq : q = false := by rw [← HK.out, HD.out]; simp
          subst hq
          clear HQ HK HD HC
          go_wp2_with (go_at_call 114; refine (HID.out _).mono ?_; rintro e w' ⟨rfl, rfl⟩)
          go_wp2
          go_ret
          exact ⟨rfl, rfl⟩
        | true =>
          cases q2 with
          | true =>
            have hq : q = false := by rw [← HK.out, HD.out]; simp
            subst hq
            clear HQ HK HD
            go_wp2_with (first | (go_at_call 114; refine (HID.out _).mono ?_; rintro e w' ⟨rfl, rfl⟩) | (go_at_call 152; refine HC.out.mono ?_; rintro e w' ⟨rfl, rfl⟩))
            go_ret
            exact ⟨rfl, rfl⟩
          | false =>
            have HN : Hid (parentsFrom (l.take (k + 1)) (l.drop (k + 1)) = q) := by unfold Hid; rw [← HK.out, HD.out]; simp
            clear HQ HK HD
            go_wp2_with (first | (go_at_call 114; refine (HID.out _).mono ?_; rintro e w' ⟨rfl, rfl⟩) | (go_at_call 152; refine HC.out.mono ?_; rintro e w' ⟨rfl, rfl⟩))
            go_roundw
            case rel => exact ⟨k + 1, by omega, by go_num, by trivial, HN⟩
            case measure => simp [intOf]; omega
      · have hq : q = true := by rw [← HK.out, List.drop_of_length_le (by omega)]; unfold parentsFrom; rfl
        subst hq
        clear HQ HK h3 HTA
        go_wp2
        go_ret
        exact ⟨rfl, rfl⟩
end Go.Proofs.YtjanddnlhaionaaGreatDoor
