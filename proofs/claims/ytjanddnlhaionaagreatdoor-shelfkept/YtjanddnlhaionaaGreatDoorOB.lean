/-
  Contracts of isId, isTime, Index, Contains, areKids, areParents. No condition.
-/
import Derived.Test.YtjanddnlhaionaaGreatDoorOA
namespace Go.Proofs.YtjanddnlhaionaaGreatDoor
open Go.RowKit
open L4 (C)
open L2 (Row Vl RowsAt rowsOK valOK)

set_option maxRecDepth 100000 in
theorem isId49 (s : ByteArray) (w : World) : Calls Tryz.prog 114 #[.string s] w fun e w' => e = .returned (.bool (isIdB s)) ∧ w = w' := by
  obtain ⟨q, hq⟩ : ∃ q, isIdB s = q := ⟨_, rfl⟩
  rw [hq]
  have h : ((s.size : Int) == 32) = q := hq
  clear hq
  go_enter Tryz.func114, Tryz.ntmps114
  go_wp2
  go_ret
  exact ⟨rfl, rfl⟩

set_option maxRecDepth 100000 in
theorem isTime48 (t : Int) (w : World) : Calls Tryz.prog 113 #[.int .i64 t] w fun e w' => e = .returned (.bool (L2.isTimeB t)) ∧ w = w' := by
  cases h0 : decide (0 ≤ t) with
  | false =>
    have hA : Hid (L2.isTimeB t = false) := by simp [Hid, L2.isTimeB, h0]
    rw [hA.out]
    go_enter Tryz.func113, Tryz.ntmps113
    go_wp2
    go_ret
    exact ⟨rfl, rfl⟩
  | true =>
    have hA : Hid (L2.isTimeB t = decide (t ≤ 1099511627776)) := by simp [Hid, L2.isTimeB, h0]
    rw [hA.out]
    go_enter Tryz.func113, Tryz.ntmps113
    go_wp2
    go_ret
    exact ⟨rfl, rfl⟩

set_option maxRecDepth 100000 in
set_option maxHeartbeats 400000 in
theorem index77 (l : List ByteArray) (v : Value) (s : ByteArray) (w : World) (h : TxtsAt w w.heap.size v l) :
    Calls Tryz.prog 182 #[v, .string s] w fun e w' => ∃ i : Int, e = .returned (.int .i64 i) ∧ decide (0 ≤ i) = memB s l ∧ w = w' := by
  obtain ⟨A, cap, rfl, h1, h2, h3⟩ := h
  unfold maxLen at h2
  obtain ⟨q, hq⟩ : ∃ q, memB s l = q := ⟨_, rfl⟩
  rw [hq]
  have HQ : Hid (memB s (l.drop 0) = q) := hq
  clear hq
  go_enter Tryz.func182, Tryz.ntmps182
  go_wp2
  go_loop [5, 8] (fun _ i => ∃ k : Nat, k ≤ l.length ∧ i = .int .i64 k ∧ Hid (memB s (l.drop k) = q)) (fun _ i => l.length - (intOf i).toNat)
  case atStart => exact ⟨0, Nat.zero_le _, rfl, HQ⟩
  case round =>
    obtain ⟨k, hk, rfl, HK⟩ := hrel
    by_cases hlt : k < l.length
    · obtain ⟨b, o, rfl, hb, hr⟩ := h3 (by omega)
      have hd := L2.drop_get l k hlt
      have c0 := hr k hlt
      generalize l[k] = t at hd c0
      clear h3 hr
      obtain ⟨e, he⟩ : ∃ e, (s.toList == t.toList) = e := ⟨_, rfl⟩
      have HD : Hid (memB s (l.drop k) = (e || memB s (l.drop (k + 1)))) := by unfold Hid memB; rw [hd, List.any_cons, he]
      clear hd
      cases e with
      | true =>
        have hq : q = true := by rw [← HK.out, HD.out, Bool.true_or]
        subst hq
        clear HQ HK HD
        go_wp2
        go_ret
        exact ⟨_, rfl, by simp, rfl⟩
      | false =>
        have HN : Hid (memB s (l.drop (k + 1)) = q) := by unfold Hid; rw [← HK.out, HD.out, Bool.false_or]
        clear HK HD HQ
        go_wp2
        go_round
        case rel => exact ⟨k + 1, by omega, by go_num, HN⟩
        case measure => simp [intOf]; omega
    · have hq : q = false := by rw [← HK.out, List.drop_of_length_le (by omega)]; rfl
      subst hq
      clear HQ HK h3
      go_wp2
      go_ret
      exact ⟨_, rfl, by decide, rfl⟩

set_option maxRecDepth 100000 in
theorem contains68 (l : List ByteArray) (v : Value) (s : ByteArray) (w : World) (h : TxtsAt w w.heap.size v l) :
    Calls Tryz.prog 152 #[v, .string s] w fun e w' => e = .returned (.bool (memB s l)) ∧ w = w' := by
  have HI := Lib.hid (index77 l v s w h)
  obtain ⟨q, hq⟩ : ∃ q, memB s l = q := ⟨_, rfl⟩
  rw [hq] at HI ⊢
  clear hq h
  go_enter Tryz.func152, Tryz.ntmps152
  go_wp2_with fail
  refine HI.out.mono ?_
  rintro e w' ⟨i, rfl, hi, rfl⟩
  go_wp2
  go_ret
  exact ⟨rfl, rfl⟩

set_option maxRecDepth 100000 in
theorem TxtsAt.take {w : World} {B : Nat} {A : Option Addr} {n cap : Nat} {l : List ByteArray} (h : TxtsAt w B (.slice A n cap) l) (k : Nat) (hk : k ≤ n) : TxtsAt w B (.slice A k cap) (l.take k) := by
  obtain ⟨A', cap', e, h1, h2, h3⟩ := h
  injection e with e1 e2 e3
  subst e1 e2 e3
  have hl : (l.take k).length = k := by rw [List.length_take]; omega
  refine ⟨A, cap, by rw [hl], by omega, h2, fun hz => ?_⟩
  obtain ⟨b, o, rfl, hb, hr⟩ := h3 (by omega)
  refine ⟨b, o, rfl, hb, fun i hi => ?_⟩
  rw [List.getElem_take]
  exact hr i (by omega)

def prevK (l : List Kd) (k : Nat) : Option Kd := if k = 0 then none else l[k - 1]?
end Go.Proofs.YtjanddnlhaionaaGreatDoor
