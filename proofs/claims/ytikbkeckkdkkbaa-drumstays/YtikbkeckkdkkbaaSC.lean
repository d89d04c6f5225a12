/-
  Contract of alike. No condition.
-/
import Derived.Test.YtikbkeckkdkkbaaSB
namespace Go.Proofs.Ytikbkeckkdkkbaa
open Go.RowKit

theorem Both.parts {w : World} {F : Nat → Prop} {b r : Nat} {d : D} (h : Both w F b r d) : (∃ F1, PAt w F1 b d) ∧ ∃ F2, RAt w F2 r d := by
  obtain ⟨F1, F2, hP, hR, _⟩ := h.ex
  exact ⟨⟨F1, hP⟩, ⟨F2, hR⟩⟩
theorem same_quiet {f : Nat} {args : Array Value} {w : World} {v : Value} (h : Calls Try.prog f args w fun e w' => e = .returned v ∧ w = w') : Calls Try.prog f args w fun e w' => e = .returned v ∧ w' = w := h.mono fun _ _ ⟨a, b⟩ => ⟨a, b.symm⟩

set_option maxRecDepth 100000 in
set_option maxHeartbeats 1000000 in
theorem alike14 {w : World} {F : Nat → Prop} {b r : Nat} {d : D} (h : Both w F b r d) (hw : d.W.length ≤ 1000) :
    Calls Try.prog 14 #[.pointer (some ⟨b, 0, none⟩), .pointer (some ⟨r, 0, none⟩)] w fun e w' => e = .returned (.bool true) ∧ Below w.heap.size w w' := by
  obtain ⟨⟨F1, hP⟩, ⟨F2, hR⟩⟩ := h.parts
  have HP : Hid (∀ W, Below w.heap.size w W → PAt W F1 b d) := fun W hb => hP.below hb
  have HRR : Hid (∀ W, Below w.heap.size w W → RAt W F2 r d) := fun W hb => hR.below hb
  have HW : Hid (d.W.length ≤ 1000000) := by unfold Hid; omega
  obtain ⟨v1, v2, hRW⟩ := hR
  obtain ⟨g, c, rfl⟩ := row_some hRW.is.o1 hRW.ok.n1
  obtain ⟨a, cp, rfl⟩ := row_slice hRW.is.o2
  have hn2 := hRW.ok.n2
  have HCC : Hid (∀ W, Below w.heap.size w W → W.cell? ⟨r, 0, none⟩ = some (.slice (some ⟨g, 0, none⟩) d.S.length c) ∧ W.cell? ⟨r, 1, none⟩ = some (.slice a d.W.length cp) ∧ W.cell? ⟨r, 3, none⟩ = some (.bool d.gone)) := fun W hb => ⟨(hRW.below hb).is.c0, (hRW.below hb).is.c1, (hRW.below hb).is.c3⟩
  have HL : Hid (∀ W, Below w.heap.size w W → Calls Try.prog 20 #[.pointer (some ⟨b, 0, none⟩)] W fun e w' => e = .returned (.int .i64 (d.W.length : Int)) ∧ w' = W) := fun W hb => same_quiet (loose20 (HP.out W hb))
  have HZ : Hid (∀ W, Below w.heap.size w W → Calls Try.prog 25 #[.pointer (some ⟨b, 0, none⟩)] W fun e w' => e = .returned (.int .i64 (d.S.length : Int)) ∧ w' = W) := fun W hb => same_quiet (size25 (HP.out W hb))
  have HD : Hid (∀ W, Below w.heap.size w W → Calls Try.prog 24 #[.pointer (some ⟨b, 0, none⟩)] W fun e w' => e = .returned (.bool d.gone) ∧ w' = W) := fun W hb => same_quiet (down24 (HP.out W hb))
  have HRD : Hid (∀ W (i : Int), Below w.heap.size w W → Calls Try.prog 22 #[.pointer (some ⟨b, 0, none⟩), .int .i64 i] W fun e w' => e = .returned (.tuple #[.string (readS d i), .int .i64 (readE d i)]) ∧ Below W.heap.size W w') := fun W i hb => read22 (HP.out W hb) i HW.out
  have HRF : Hid (∀ W (i : Int), Below w.heap.size w W → Calls Try.prog 31 #[.pointer (some ⟨r, 0, none⟩), .int .i64 i] W fun e w' => e = .returned (.tuple #[.string (readS d i), .int .i64 (readE d i)]) ∧ W = w') := fun W i hb => refRead31 (HRR.out W hb) i HW.out
  have HSU : Hid (∀ W (i : Int), Below w.heap.size w W → Calls Try.prog 17 #[.pointer (some ⟨b, 0, none⟩), .int .i64 i] W fun e w' => e = .returned (.string (sureS d i)) ∧ Below W.heap.size W w') := fun W i hb => sure17 (HP.out W hb) i
  have HSR : Hid (∀ W (i : Int), Below w.heap.size w W → Calls Try.prog 32 #[.pointer (some ⟨r, 0, none⟩), .int .i64 i] W fun e w' => e = .returned (.string (sureS d i)) ∧ W = w') := fun W i hb => refSure32 (HRR.out W hb) i
  generalize d.S.length = n at hn2 HCC HZ
  generalize d.W.length = m at HCC HL hw
  generalize d.gone = q at HCC HD
  generalize readS d = rs at HRD HRF
  generalize readE d = re at HRD HRF
  generalize sureS d = su at HSU HSR
  clear hP hRW h HP HRR HW
  go_enter Try.func14, Try.ntmps14
  go_wp2
  go_loopw [5] (fun s5 wr => ∃ i : Int, -1 ≤ i ∧ i ≤ 9 ∧ s5 = .int .i64 i ∧ Hid (Below w.heap.size w wr)) (fun s5 _ => (9 - intOf s5).toNat)
  case atStart => exact ⟨-1, by omega, by omega, rfl, Below.refl _ _⟩
  case round =>
    obtain ⟨i, hi1, hi2, rfl, HB⟩ := hrel
    obtain ⟨c0, c1, c3⟩ := HCC.out wr HB.out
    by_cases hlt : i < (n : Int) + 1 ∧ i < 9
    · obtain ⟨hl1, hl2⟩ := hlt
      have t1 : decide (i < (n : Int) + 1) = true := by simpa using hl1
      have t2 : decide (i < 9) = true := by simpa using hl2
      go_wp2_with fail
      refine (HRD.out _ _ HB.out).mono ?_
      rintro e w1 ⟨rfl, hb⟩
      have HB1 := Lib.hid (HB.out.trans (hb.mono HB.out.size))
      clear hb
      go_wp2_with fail
      refine (HRF.out _ _ HB1.out).mono ?_
      rintro e w' ⟨rfl, rfl⟩
      go_wp2_with fail
      refine (HSU.out _ _ HB1.out).mono ?_
      rintro e w2 ⟨rfl, hb⟩
      have HB2 := Lib.hid (HB1.out.trans (hb.mono HB1.out.size))
      clear hb
      go_wp2_with fail
      refine (HSR.out _ _ HB2.out).mono ?_
      rintro e w' ⟨rfl, rfl⟩
      go_wp2
      go_roundw
      case rel => exact ⟨i + 1, by omega, by omega, rfl, HB2⟩
      case measure => simp [intOf]; omega
    · have HDN := Lib.hid hlt
      have HBN : ∀ j, Below w.heap.size w (wr.drewN j) := fun j => ⟨HB.out.os, HB.out.tape, HB.out.output, HB.out.size, HB.out.block⟩
      have HLQ := Lib.hid (fun j => HL.out (wr.drewN j) (HBN j))
      have HZQ := Lib.hid (fun j => HZ.out (wr.drewN j) (HBN j))
      have HDQ := Lib.hid (fun j => HD.out (wr.drewN j) (HBN j))
      have HFN := Lib.hid HBN
      clear HBN
      by_cases hl1 : i < (n : Int) + 1
      · have t1 : decide (i < (n : Int) + 1) = true := by simpa using hl1
        have t2 : decide (i < 9) = false := by simp; omega
        clear hlt
        go_wp2_with fail
        go_quiet (first | (go_at_call 20; exact Calls.quiet_of_same (HLQ.out _)) | (go_at_call 25; exact Calls.quiet_of_same (HZQ.out _)) | (go_at_call 24; exact Calls.quiet_of_same (HDQ.out _)))
        go_wp2
        go_ret
        exact ⟨rfl, HFN.out _⟩
      · have t1 : decide (i < (n : Int) + 1) = false := by simpa using hl1
        clear hlt
        go_wp2_with fail
        go_quiet (first | (go_at_call 20; exact Calls.quiet_of_same (HLQ.out _)) | (go_at_call 25; exact Calls.quiet_of_same (HZQ.out _)) | (go_at_call 24; exact Calls.quiet_of_same (HDQ.out _)))
        go_wp2
        go_ret
        exact ⟨rfl, HFN.out _⟩
end Go.Proofs.Ytikbkeckkdkkbaa
