/-
  Contracts of the document's Sure, Shows, Read. No condition.
-/
import Derived.Test.YtelfomdlbldnpaaDoorRA
namespace Go.Proofs.YtelfomdlbldnpaaDoor
open Go.RowKit

set_option maxRecDepth 100000 in
set_option maxHeartbeats 1000000 in
theorem shows41 {F : Nat → Prop} {b : Nat} {d : D} {w : World} (h : RAt w F b d) (i : Nat) (hi : i < d.S.length) (hw : d.W.length ≤ 1000000) :
    Calls Tryd.prog 51 #[.pointer (some ⟨b, 0, none⟩), .int .i64 (i : Int)] w fun e w' => e = .returned (.string (sh d i d.W.length)) ∧ w = w' := by
  obtain ⟨v1, v2, h⟩ := h
  have hI := h.is
  obtain ⟨g, c, rfl⟩ := row_some hI.o1 h.ok.n1
  obtain ⟨a, cp, rfl⟩ := row_slice hI.o2
  have c0 := hI.c0
  have c1 := hI.c1
  have hc := hI.sec rfl hi
  have HI := Lib.hid hI
  have hn2 := h.ok.n2
  obtain ⟨n, hn⟩ : ∃ n, d.S.length = n := ⟨_, rfl⟩
  rw [hn] at c0 hn2 hi
  obtain ⟨m, hm⟩ : ∃ m, d.W.length = m := ⟨_, rfl⟩
  rw [hm] at c1 hw
  rw [hm]
  have HM := Lib.hid hm
  obtain ⟨s0, hs0⟩ : ∃ s0, sh d i 0 = s0 := ⟨_, rfl⟩
  have hs0' : d.S.getD i ByteArray.empty = s0 := hs0
  rw [hs0'] at hc
  have HS0 := Lib.hid hs0
  have hin : (i : Int) < (n : Int) := by omega
  clear hs0 hs0' hm hn h hI
  go_enter Tryd.func51, Tryd.ntmps51
  go_wp2
  go_loop [5, 6] (fun s5 s6 => ∃ (k : Nat) (s : ByteArray), k ≤ m ∧ s6 = .int .i64 k ∧ s5 = .string s ∧ Hid (sh d i k = s)) (fun _ s6 => m - (intOf s6).toNat)
  case atStart => exact ⟨0, s0, by omega, rfl, rfl, HS0⟩
  case round =>
    obtain ⟨k, s, hk, rfl, rfl, HK⟩ := hrel
    by_cases hlt : k < m
    · have hk' : k < d.W.length := by rw [HM.out]; exact hlt
      obtain ⟨gp, cp', hv⟩ := row_some HI.out.o2 (by omega)
      injection hv with hv1 hv2 hv3
      subst hv1
      obtain ⟨p0, p1⟩ := HI.out.pen rfl hk'
      have HN : Hid (sh d i (k + 1) = if (pw d.W k).1 = i then (pw d.W k).2 else s) := by
        unfold Hid
        rw [sh, HK.out]
      obtain ⟨⟨pi, ps⟩, hpw⟩ : ∃ p, pw d.W k = p := ⟨_, rfl⟩
      rw [hpw] at p0 p1 HN
      have p0 : w.cell? ⟨gp, k * 2, none⟩ = some (.int .i64 (pi : Int)) := p0
      have p1 : w.cell? ⟨gp, k * 2 + 1, none⟩ = some (.string ps) := p1
      clear hpw hv2 hv3 hk'
      by_cases heq : pi = i
      · have e1 : ((pi : Int) == (i : Int)) = true := by rw [heq]; simp
        have HN2 : Hid (sh d i (k + 1) = ps) := by unfold Hid; rw [HN.out]; exact if_pos heq
        clear heq HN HK
        go_wp2
        go_round
        case rel => exact ⟨k + 1, ps, by omega, by go_num, rfl, HN2⟩
        case measure => simp [intOf]; omega
      · have e1 : ((pi : Int) == (i : Int)) = false := by rw [beq_eq_false_iff_ne]; omega
        have HN2 : Hid (sh d i (k + 1) = s) := by unfold Hid; rw [HN.out]; exact if_neg heq
        clear heq HN HK
        go_wp2
        go_round
        case rel => exact ⟨k + 1, s, by omega, by go_num, rfl, HN2⟩
        case measure => simp [intOf]; omega
    · have hkm : k = m := by omega
      subst hkm
      go_wp2
      go_ret
      exact ⟨by rw [HK.out]; rfl, rfl⟩

set_option maxHeartbeats 400000 in
theorem refRead31 {F : Nat → Prop} {b : Nat} {d : D} {w : World} (h : RAt w F b d) (i : Int) (hw : d.W.length ≤ 1000000) :
    Calls Tryd.prog 34 #[.pointer (some ⟨b, 0, none⟩), .int .i64 i] w fun e w' => e = .returned (.tuple #[.string (readS d i), .int .i64 (readE d i)]) ∧ w = w' := by
  have HH := Lib.hid h
  obtain ⟨v1, v2, h⟩ := h
  have hI := h.is
  obtain ⟨g, c, rfl⟩ := row_some hI.o1 h.ok.n1
  have c0 := hI.c0
  have c3 := hI.c3
  have hn2 := h.ok.n2
  obtain ⟨ans, hans⟩ : ∃ ans, readS d i = ans := ⟨_, rfl⟩
  obtain ⟨er, her⟩ : ∃ er, readE d i = er := ⟨_, rfl⟩
  rw [hans, her]
  have HANS := Lib.hid hans
  have HER := Lib.hid her
  clear hans her hI
  cases hq : d.gone with
  | true =>
    rw [hq] at c3
    have e : ans = ByteArray.empty := by rw [← HANS.out]; simp [readS, hq]
    have e2 : er = 9 := by rw [← HER.out]; simp [readE, hq]
    subst e e2
    clear hq HANS HER h
    go_enter Tryd.func34, Tryd.ntmps34
    go_wp2
    go_ret2
    exact ⟨rfl, rfl⟩
  | false =>
    rw [hq] at c3
    cases hb : hasB d i with
    | false =>
      have hr : ¬ (0 ≤ i ∧ i < d.S.length) := fun hh => by rw [← hasB_iff] at hh; rw [hh] at hb; cases hb
      have e : ans = ByteArray.empty := by rw [← HANS.out]; simp [readS, hb]
      have e2 : er = 6 := by rw [← HER.out]; simp [readE, hq, hb]
      subst e e2
      generalize d.S.length = n at c0 hn2 hr
      by_cases h0 : i < 0
      · have t1 : decide (i < 0) = true := by simpa using h0
        clear hq hb HANS HER h hr
        go_enter Tryd.func34, Tryd.ntmps34
        go_wp2
        go_ret2
        exact ⟨rfl, rfl⟩
      · have t1 : decide (i < 0) = false := by simpa using h0
        have t2 : decide ((n : Int) ≤ i) = true := by simp; omega
        clear hq hb HANS HER h hr
        go_enter Tryd.func34, Tryd.ntmps34
        go_wp2
        go_ret2
        exact ⟨rfl, rfl⟩
    | true =>
      have hr := hasB_iff.1 hb
      obtain ⟨k, rfl⟩ : ∃ k : Nat, i = (k : Int) := ⟨i.toNat, by omega⟩
      have hk : k < d.S.length := by omega
      have HV := Lib.hid (shows41 HH.out k hk hw)
      have e : sh d k d.W.length = ans := by rw [← HANS.out]; simp [readS, hq, hb]
      have e2 : er = 0 := by rw [← HER.out]; simp [readE, hq, hb]
      subst e2
      rw [e] at HV
      generalize d.S.length = n at c0 hn2 hk hr
      have t1 : decide ((k : Int) < 0) = false := by simp
      have t2 : decide ((n : Int) ≤ (k : Int)) = false := by simp; omega
      have t2' : decide (n ≤ k) = false := by simp; omega
      clear hq hb HANS HER h e hr hw
      go_enter Tryd.func34, Tryd.ntmps34
      go_wp2_with (go_at_call 51; refine HV.out.mono ?_; rintro e w' ⟨rfl, rfl⟩)
      go_ret2
      exact ⟨rfl, rfl⟩
end Go.Proofs.YtelfomdlbldnpaaDoor
