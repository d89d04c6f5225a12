import Derived.Test.YtapfhonapejpjaaK
namespace Go.Proofs.Ytapfhonapejpjaa
open Go.RowKit

def validV (k n : Int) (s : ByteArray) : Bool := (k == 1 && s.toList.isEmpty) || (k == 2 && (n == 0 && (decide ((s.size : Int) ≤ 40) && decide (0 ≤ runesR s.data.toList))))
def checkR (k n : Int) (s : ByteArray) : Int := if validV k n s then 0 else 2

set_option maxHeartbeats 800000 in
theorem check14 (k n : Int) (s : ByteArray) (w : World) :
    Calls Try.prog 14 #[.agg #[.int .i64 k, .int .i64 n, .string s]] w fun e w' => e = .returned (.int .i64 (checkR k n s)) ∧ Below w.heap.size w w' := by
  have hend : Below w.heap.size w (w.alloc (.cells #[.int .i64 k, .int .i64 n, .string s] 24)) := (Below.refl _ _).alloc (Nat.le_refl _) _
  by_cases k1 : k = 1
  · subst k1
    cases e : s.toList.isEmpty with
    | true =>
      have hA : Hid (checkR 1 n s = 0) := by simp [Hid, checkR, validV, e]
      have e' : (!s.toList.isEmpty) = false := by rw [e]; rfl
      rw [hA.out]
      go_enter Try.func14, Try.ntmps14
      go_wp2
      go_ret
      exact ⟨rfl, hend⟩
    | false =>
      have hA : Hid (checkR 1 n s = 2) := by simp [Hid, checkR, validV, e]
      have e' : (!s.toList.isEmpty) = true := by rw [e]; rfl
      rw [hA.out]
      go_enter Try.func14, Try.ntmps14
      go_wp2
      go_ret
      exact ⟨rfl, hend⟩
  have b1 : (k == 1) = false := by simpa using k1
  cases b2 : (k == 2) with
  | false =>
    have hA : Hid (checkR k n s = 2) := by simp [Hid, checkR, validV, b1, b2]
    rw [hA.out]
    clear k1
    go_enter Try.func14, Try.ntmps14
    go_wp2
    go_ret
    exact ⟨rfl, hend⟩
  | true =>
    cases b3 : (n == 0) with
    | false =>
      have hA : Hid (checkR k n s = 2) := by simp [Hid, checkR, validV, b1, b3]
      rw [hA.out]
      clear k1
      go_enter Try.func14, Try.ntmps14
      go_wp2
      go_ret
      exact ⟨rfl, hend⟩
    | true =>
      by_cases h4 : (s.size : Int) ≤ 40
      · have hru := runes18 s (w.alloc (.cells #[.int .i64 k, .int .i64 n, .string s] 24)) (by omega)
        by_cases h5 : 0 ≤ runesR s.data.toList
        · have hA : Hid (checkR k n s = 0) := by simp [Hid, checkR, validV, b1, b2, b3, h4, h5]
          rw [hA.out]
          generalize runesR s.data.toList = ru at hru h5
          have HR := Lib.hid hru; clear hru
          clear k1
          go_enter Try.func14, Try.ntmps14
          go_wp2_with (go_at_call 18; go_must (refine HR.out.mono ?_); rintro e w1 ⟨rfl, hb1⟩)
          go_ret
          exact ⟨rfl, hend.trans (hb1.mono (by simp))⟩
        · have hA : Hid (checkR k n s = 2) := by simp [Hid, checkR, validV, b1, b2, b3, h4, h5]
          rw [hA.out]
          generalize runesR s.data.toList = ru at hru h5
          have HR := Lib.hid hru; clear hru
          clear k1
          go_enter Try.func14, Try.ntmps14
          go_wp2_with (go_at_call 18; go_must (refine HR.out.mono ?_); rintro e w1 ⟨rfl, hb1⟩)
          go_ret
          exact ⟨rfl, hend.trans (hb1.mono (by simp))⟩
      · have hA : Hid (checkR k n s = 2) := by simp [Hid, checkR, validV, b1, b2, b3, h4]
        rw [hA.out]
        clear k1
        go_enter Try.func14, Try.ntmps14
        go_wp2
        go_ret
        exact ⟨rfl, hend⟩

def textR (k n : Int) (s : ByteArray) : List UInt8 × Int := if validV k n s then (if k = 2 then quoteR s.data.toList else (intText n, 0)) else ([], 2)

theorem toList_empty {s : ByteArray} (h : s.toList.isEmpty = true) : s.size = 0 := by
  rw [ByteArray.toList_eq] at h
  have := List.isEmpty_iff.1 h
  have hl : s.data.toList.length = s.size := rfl
  rw [this] at hl
  exact hl.symm

set_option maxHeartbeats 800000 in
theorem text10 (k n : Int) (s : ByteArray) (w : World) (h0 : -9223372036854775808 ≤ n) (h1 : n < 9223372036854775808) :
    Calls Try.prog 10 #[.agg #[.int .i64 k, .int .i64 n, .string s]] w fun e w' => e = .returned (.tuple #[.string ⟨(textR k n s).1.toArray⟩, .int .i64 (textR k n s).2]) ∧ Below w.heap.size w w' := by
  have hend : Below w.heap.size w (w.alloc (.cells #[.int .i64 k, .int .i64 n, .string s] 24)) := (Below.refl _ _).alloc (Nat.le_refl _) _
  have hch := check14 k n s (w.alloc (.cells #[.int .i64 k, .int .i64 n, .string s] 24))
  cases hv : validV k n s with
  | false =>
    have hA : Hid (textR k n s = ([], 2)) := by simp [Hid, textR, hv]
    rw [hA.out]
    rw [show checkR k n s = 2 by simp [checkR, hv]] at hch
    have HC := Lib.hid hch; clear hch hv
    go_enter Try.func10, Try.ntmps10
    go_wp2_with (go_at_call 14; go_must (refine HC.out.mono ?_); rintro e w1 ⟨rfl, hb1⟩)
    go_ret2
    exact ⟨rfl, hend.trans (hb1.mono (by simp))⟩
  | true =>
    rw [show checkR k n s = 0 by simp [checkR, hv]] at hch
    have HC := Lib.hid hch; clear hch
    have hcells : ∀ w1 : World, Below (w.alloc (.cells #[.int .i64 k, .int .i64 n, .string s] 24)).heap.size (w.alloc (.cells #[.int .i64 k, .int .i64 n, .string s] 24)) w1 →
        w1.cell? ⟨w.heap.size, 0, none⟩ = some (.int .i64 k) ∧ w1.cell? ⟨w.heap.size, 1, none⟩ = some (.int .i64 n) ∧ w1.cell? ⟨w.heap.size, 2, none⟩ = some (.string s) := by
      intro w1 hb
      refine ⟨?_, ?_, ?_⟩ <;> (rw [hb.cell (by simp)]; simp [go_sem])
    by_cases k2 : k = 2
    · have hA : Hid (textR k n s = quoteR s.data.toList) := by rw [Hid, textR, if_pos hv, if_pos k2]
      rw [hA.out]
      have hsz : s.size ≤ 40 := by simp [validV, k2] at hv; have h := hv.2.1; omega
      have hq := fun w1 => quote12 s w1 (by omega)
      generalize quoteR s.data.toList = qr at hq ⊢
      have HQ := Lib.hid hq; clear hq hv
      have HCE := Lib.hid hcells; clear hcells
      have b2 : (k == 2) = true := by simpa using k2
      have HK := Lib.hid k2; clear k2
      go_enter Try.func10, Try.ntmps10
      go_wp2_with fail
      refine HC.out.mono ?_
      rintro e w1 ⟨rfl, hb1⟩
      obtain ⟨c0, c1, c2⟩ := HCE.out w1 hb1
      go_wp2_with (go_at_call 12; go_must (refine (HQ.out w1).mono ?_); rintro e w2 ⟨rfl, hb2⟩)
      go_ret2
      refine ⟨rfl, (hend.trans (hb1.mono (by simp))).trans (hb2.mono ?_)⟩
      exact Nat.le_trans hend.size hb1.size
    · have hA : Hid (textR k n s = (intText n, 0)) := by simp [Hid, textR, hv, k2]
      rw [hA.out]
      have hi := fun w1 => appendInteger22 n w1 h0 h1
      generalize intText n = it at hi ⊢
      have HI := Lib.hid hi; clear hi hv
      have HCE := Lib.hid hcells; clear hcells
      have b2 : (k == 2) = false := by simpa using k2
      clear k2
      go_enter Try.func10, Try.ntmps10
      go_wp2_with fail
      refine HC.out.mono ?_
      rintro e w1 ⟨rfl, hb1⟩
      obtain ⟨c0, c1, c2⟩ := HCE.out w1 hb1
      go_wp2_with fail
      refine (HI.out w1).mono ?_
      rintro e w2 ⟨v2, rfl, ho2, hg2⟩
      obtain ⟨va, vc, hv⟩ := ownsRow_slice ho2
      rw [hv] at ho2
      rw [hv]
      have hcnv := conv_own _ _ _ _ _ w2 ho2
      clear ho2 hv
      go_wp2
      go_ret2
      refine ⟨rfl, (hend.trans (hb1.mono (by simp))).trans (hg2.1.mono ?_)⟩
      exact Nat.le_trans hend.size hb1.size
end Go.Proofs.Ytapfhonapejpjaa
