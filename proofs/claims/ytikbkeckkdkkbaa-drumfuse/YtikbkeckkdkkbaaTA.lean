/-
  The walk of DrumFuse. No condition.
-/
import Derived.Test.YtikbkeckkdkkbaaSD
namespace Go.Proofs.Ytikbkeckkdkkbaa
open Go.RowKit

/-- The state behind Arm(n) and i writes. -/
structure FS (n i : Nat) (d : D) : Prop where
  s6 : d.S.length = 6
  lo : i ≤ n → d.W.length = i ∧ d.fuse = (n : Int) - (i : Int) ∧ d.gone = false
  hi : n < i → d.W.length = n ∧ d.fuse = 0 ∧ d.gone = true
theorem FS.step {n i : Nat} {d : D} (h : FS n i d) (j : Int) (s : ByteArray) (hj : 0 ≤ j) (hj6 : j < 6) (hs : s.size = 64) :
    FS n (i + 1) (writeD d j s) ∧ writeE d j s = if i < n then 0 else 9 := by
  have hok : writeOk d j s = true := by
    unfold writeOk
    rw [Bool.and_eq_true, hasB_iff, h.s6]
    exact ⟨⟨hj, by simpa using hj6⟩, by simpa using hs⟩
  by_cases hlt : i < n
  · obtain ⟨h1, h2, h3⟩ := h.lo (by omega)
    have hb : burn d = { d with fuse := d.fuse - 1 } := by
      unfold burn
      rw [if_neg (by omega), if_pos (by omega)]
    have hg : (burn d).gone = false := by rw [hb]; exact h3
    refine ⟨⟨by rw [write_len]; exact h.s6, fun _ => ?_, fun hh => by omega⟩, ?_⟩
    · unfold writeD
      rw [if_pos hok, if_neg (by rw [hg]; exact Bool.false_ne_true)]
      refine ⟨by simp [h1], ?_, hg⟩
      show (burn d).fuse = _
      rw [hb]
      show d.fuse - 1 = _
      omega
    · unfold writeE
      rw [if_pos hok, if_neg (by rw [hg]; exact Bool.false_ne_true), if_pos hlt]
  · have hf : d.fuse = 0 := by
      by_cases he : i = n
      · obtain ⟨_, h2, _⟩ := h.lo (by omega); omega
      · exact (h.hi (by omega)).2.1
    have hwl : d.W.length = n := by
      by_cases he : i = n
      · obtain ⟨h1, _, _⟩ := h.lo (by omega); omega
      · exact (h.hi (by omega)).1
    have hb : burn d = { d with gone := true } := by
      unfold burn
      rw [if_pos hf]
    have hg : (burn d).gone = true := by rw [hb]
    refine ⟨⟨by rw [write_len]; exact h.s6, fun hh => by omega, fun _ => ?_⟩, ?_⟩
    · unfold writeD
      rw [if_pos hok, if_pos hg, hb]
      exact ⟨hwl, hf, rfl⟩
    · unfold writeE
      rw [if_pos hok, if_pos hg, if_neg hlt]
theorem FS.begin {n : Nat} {d : D} (h6 : d.S.length = 6) : armE (crashD d []) (n : Int) = 0 ∧ FS n 0 (armD (crashD d []) (n : Int)) := by
  have h0 : ¬ (n : Int) < 0 := by omega
  refine ⟨by simp [armE, crashD], ⟨by rw [arm_len, crash_len]; exact h6, fun _ => ?_, fun h => by omega⟩⟩
  unfold armD
  rw [if_neg h0, if_neg (by simp [crashD])]
  exact ⟨rfl, by simp, rfl⟩
theorem FS.fin {n i : Nat} {d : D} (h : FS n i d) (hi : n < i) : readE d 0 = 9 ∧ settleE (crashD d []) = 0 := by
  refine ⟨by simp [readE, (h.hi hi).2.2], by simp [settleE, crashD, burn]⟩

set_option maxRecDepth 100000 in
set_option maxHeartbeats 1000000 in
theorem fuse5_lives (L : List Ac) (lv : Value) (n m : Int) (w : World) (hL : AcsAt w w.heap.size lv L) (hx : fewB L = false ∨ n < 0 ∨ 60 < n ∨ m < 1 ∨ 60 < m) :
    Calls Try.prog 5 #[lv, .int .i64 n, .int .i64 m] w fun e w' => e = .returned (.bool true) ∧ Below w.heap.size w w' := by
  have HF := Lib.hid (few7 L lv w _ hL)
  have HLV := Lib.hid (lives8 w)
  obtain ⟨a, c, rfl, -⟩ := hL
  cases hf : fewB L with
  | false =>
    rw [hf] at HF
    clear hf hx
    go_enter Try.func5, Try.ntmps5
    go_wp2_with (first | (go_at_call 7; refine HF.out.mono ?_; rintro e w' ⟨rfl, rfl⟩) | (go_at_call 8; refine HLV.out.mono ?_; rintro e w' ⟨rfl, hb⟩))
    go_ret
    exact ⟨rfl, hb⟩
  | true =>
    rw [hf] at HF
    have hx : n < 0 ∨ 60 < n ∨ m < 1 ∨ 60 < m := by
      rcases hx with h | h
      · rw [hf] at h; cases h
      · exact h
    clear hf
    by_cases h1 : n < 0
    · have t1 : decide (n < 0) = true := by simpa using h1
      clear hx
      go_enter Try.func5, Try.ntmps5
      go_wp2_with (first | (go_at_call 7; refine HF.out.mono ?_; rintro e w' ⟨rfl, rfl⟩) | (go_at_call 8; refine HLV.out.mono ?_; rintro e w' ⟨rfl, hb⟩))
      go_ret
      exact ⟨rfl, hb⟩
    · have t1 : decide (n < 0) = false := by simpa using h1
      by_cases h2 : 60 < n
      · have t2 : decide (60 < n) = true := by simpa using h2
        clear hx
        go_enter Try.func5, Try.ntmps5
        go_wp2_with (first | (go_at_call 7; refine HF.out.mono ?_; rintro e w' ⟨rfl, rfl⟩) | (go_at_call 8; refine HLV.out.mono ?_; rintro e w' ⟨rfl, hb⟩))
        go_ret
        exact ⟨rfl, hb⟩
      · have t2 : decide (60 < n) = false := by simpa using h2
        by_cases h3 : m < 1
        · have t3 : decide (m < 1) = true := by simpa using h3
          clear hx
          go_enter Try.func5, Try.ntmps5
          go_wp2_with (first | (go_at_call 7; refine HF.out.mono ?_; rintro e w' ⟨rfl, rfl⟩) | (go_at_call 8; refine HLV.out.mono ?_; rintro e w' ⟨rfl, hb⟩))
          go_ret
          exact ⟨rfl, hb⟩
        · have t3 : decide (m < 1) = false := by simpa using h3
          have t4 : decide (60 < m) = true := by simp; omega
          clear hx
          go_enter Try.func5, Try.ntmps5
          go_wp2_with (first | (go_at_call 7; refine HF.out.mono ?_; rintro e w' ⟨rfl, rfl⟩) | (go_at_call 8; refine HLV.out.mono ?_; rintro e w' ⟨rfl, hb⟩))
          go_ret
          exact ⟨rfl, hb⟩

set_option maxRecDepth 100000 in
set_option maxHeartbeats 2000000 in
theorem fuse5_go (L : List Ac) (lv : Value) (n m : Nat) (w : World) (hL : AcsAt w w.heap.size lv L) (hf : fewB L = true) (hn : n ≤ 60) (hm1 : 1 ≤ m) (hm : m ≤ 60) :
    Calls Try.prog 5 #[lv, .int .i64 (n : Int), .int .i64 (m : Int)] w fun e w' => e = .returned (.bool true) ∧ Below w.heap.size w w' := by
  have HF := Lib.hid (few7 L lv w _ hL)
  rw [hf] at HF
  have HBG := Lib.hid (begun15 L lv w hL hf)
  obtain ⟨a, c, rfl, -⟩ := hL
  have HX := Lib.hid (sector19 ⟨#[120]⟩)
  have HXS := Lib.hid (padS_size ⟨#[120]⟩)
  generalize padS ⟨#[120]⟩ = sx at HX HXS
  have t1 : decide ((n : Int) < 0) = false := by simp
  have t2 : decide ((60 : Int) < (n : Int)) = false := by simp; omega
  have t3 : decide ((m : Int) < 1) = false := by simp; omega
  have t4 : decide ((60 : Int) < (m : Int)) = false := by simp; omega
  generalize L.length = ln at HF HBG ⊢
  clear hf
  go_enter Try.func5, Try.ntmps5
  go_wp2_with fail
  refine HF.out.mono ?_
  rintro e w' ⟨rfl, rfl⟩
  go_wp2_with fail
  refine HBG.out.mono ?_
  rintro e w1 ⟨b, d, rfl, hP, h6, h150⟩
  have HC := Lib.hid (crashN hP (by omega) [] (.slice none 0 0) (IntsAt.nil _ _) (by simp))
  have HFS := Lib.hid (FS.begin (n := n) h6)
  clear hP h6 h150 HF HBG
  go_wp2_with fail
  refine HC.out.mono ?_
  rintro e w2 ⟨rfl, hP⟩
  have HA := Lib.hid (armN hP (n : Int) (by omega))
  rw [HFS.out.1] at HA
  have HFS0 := Lib.hid HFS.out.2
  generalize armD (crashD d []) (n : Int) = d0 at HA HFS0
  clear hP HC HFS
  go_wp2_with fail
  refine HA.out.mono ?_
  rintro e w3 ⟨rfl, hP⟩
  have HP0 := Lib.hid hP
  clear hP HA
  go_wp2
  go_loopw [8] (fun s8 wr => ∃ (i : Nat) (d : D), i ≤ n + m ∧ s8 = .int .i64 i ∧ Hid (PN w wr b d) ∧ Hid (FS n i d)) (fun s8 _ => n + m - (intOf s8).toNat)
  case atStart => exact ⟨0, d0, by omega, rfl, HP0, HFS0⟩
  case round =>
    obtain ⟨i, d, hi, rfl, HP, HS⟩ := hrel
    have HWL : Hid (d.W.length ≤ 1000000) := by
      unfold Hid
      by_cases h : i ≤ n
      · have := (HS.out.lo h).1; omega
      · have := (HS.out.hi (by omega)).1; omega
    by_cases hlt : i < n + m
    · have hti : decide ((i : Int) < (n : Int) + (m : Int)) = true := by simp; omega
      have hstep := HS.out.step ((i : Int) % 6) sx (by omega) (by omega) HXS.out
      have HST := Lib.hid hstep.1
      have HER := Lib.hid hstep.2
      have HWR : Hid (∀ W, PN w W b d → Calls Try.prog 18 #[.pointer (some ⟨b, 0, none⟩), .int .i64 ((i : Int) % 6), .string sx] W fun e w' => e = .returned (.int .i64 (writeE d ((i : Int) % 6) sx)) ∧ PN w w' b (writeD d ((i : Int) % 6) sx)) := fun W hN => writeN hN _ _ HWL.out
      generalize writeD d ((i : Int) % 6) sx = d2 at HST HWR
      generalize hwe : writeE d ((i : Int) % 6) sx = er at HER HWR
      clear hstep hwe HS HWL
      by_cases hin : i < n
      · have e0 : er = 0 := by rw [HER.out]; exact if_pos hin
        subst e0
        have u1 : decide ((i : Int) < (n : Int)) = true := by simp; omega
        have u1' : decide (i < n) = true := by simpa using hin
        have u2 : decide ((n : Int) ≤ (i : Int)) = false := by simp; omega
        have u2' : decide (n ≤ i) = false := by simp; omega
        clear HER
        go_wp2_with fail
        refine (HX.out _).mono ?_
        rintro e w4 ⟨rfl, hb⟩
        have HP4 := Lib.hid (HP.out.below hb)
        clear hb HP
        go_wp2_with fail
        refine (HWR.out _ HP4.out).mono ?_
        rintro e w5 ⟨rfl, hP⟩
        have HP5 := Lib.hid hP
        clear hP HP4 HWR
        go_wp2
        go_roundw
        case rel => exact ⟨i + 1, d2, by omega, by go_num, HP5, HST⟩
        case measure => simp [intOf]; omega
      · have e0 : er = 9 := by rw [HER.out]; exact if_neg hin
        subst e0
        have u1 : decide ((i : Int) < (n : Int)) = false := by simp; omega
        have u1' : decide (i < n) = false := by simpa using hin
        have u2 : decide ((n : Int) ≤ (i : Int)) = true := by simp; omega
        have u2' : decide (n ≤ i) = true := by simp; omega
        clear HER
        go_wp2_with fail
        refine (HX.out _).mono ?_
        rintro e w4 ⟨rfl, hb⟩
        have HP4 := Lib.hid (HP.out.below hb)
        clear hb HP
        go_wp2_with fail
        refine (HWR.out _ HP4.out).mono ?_
        rintro e w5 ⟨rfl, hP⟩
        have HP5 := Lib.hid hP
        clear hP HP4 HWR
        go_wp2
        go_roundw
        case rel => exact ⟨i + 1, d2, by omega, by go_num, HP5, HST⟩
        case measure => simp [intOf]; omega
    · have hti : decide ((i : Int) < (n : Int) + (m : Int)) = false := by simp; omega
      have hfin := HS.out.fin (by omega)
      have hh := HS.out.hi (by omega)
      have HRD := Lib.hid (readN HP.out 0 HWL.out)
      rw [hfin.1] at HRD
      have HDN : Hid (∀ W, PN w W b d → Calls Try.prog 24 #[.pointer (some ⟨b, 0, none⟩)] W fun e w' => e = .returned (.bool true) ∧ W = w') := fun W hN => by
        have := downN hN
        rw [hh.2.2] at this
        exact this
      have HLO : Hid (∀ W, PN w W b d → Calls Try.prog 20 #[.pointer (some ⟨b, 0, none⟩)] W fun e w' => e = .returned (.int .i64 (n : Int)) ∧ W = w') := fun W hN => by
        have := looseN hN
        rw [hh.1] at this
        exact this
      have HCR : Hid (∀ W, PN w W b d → Calls Try.prog 16 #[.pointer (some ⟨b, 0, none⟩), .slice none 0 0] W fun e w' => e = .returned (.int .i64 0) ∧ PN w w' b (crashD d [])) := fun W hN => crashN hN HWL.out [] _ (IntsAt.nil _ _) (by simp)
      have HDN2 : Hid (∀ W, PN w W b (crashD d []) → Calls Try.prog 24 #[.pointer (some ⟨b, 0, none⟩)] W fun e w' => e = .returned (.bool false) ∧ W = w') := fun W hN => downN hN
      have HSE : Hid (∀ W, PN w W b (crashD d []) → Calls Try.prog 21 #[.pointer (some ⟨b, 0, none⟩)] W fun e w' => e = .returned (.int .i64 0) ∧ Below w.heap.size w w') := fun W hN => by
        have := settleN hN (by simp [crashD])
        rw [hfin.2] at this
        exact this.mono fun _ _ ⟨he, hN'⟩ => ⟨he, hN'.old⟩
      generalize crashD d [] = dc at HCR HDN2 HSE
      generalize readS d 0 = rs at HRD
      clear hfin hh HS HWL HX HXS
      go_wp2_with fail
      refine HRD.out.mono ?_
      rintro e w4 ⟨rfl, hP, -⟩
      have HP4 := Lib.hid hP
      clear hP HRD HP
      go_wp2_with fail
      refine (HDN.out _ HP4.out).mono ?_
      rintro e w' ⟨rfl, rfl⟩
      go_wp2_with fail
      refine (HLO.out _ HP4.out).mono ?_
      rintro e w' ⟨rfl, rfl⟩
      go_wp2_with fail
      refine (HCR.out _ HP4.out).mono ?_
      rintro e w5 ⟨rfl, hP⟩
      have HP5 := Lib.hid hP
      clear hP HCR HP4 HDN HLO
      go_wp2_with fail
      refine (HDN2.out _ HP5.out).mono ?_
      rintro e w' ⟨rfl, rfl⟩
      go_wp2_with fail
      refine (HSE.out _ HP5.out).mono ?_
      rintro e w6 ⟨rfl, hb⟩
      have HB6 := Lib.hid hb
      clear hb HSE HP5
      go_wp2_with fail
      refine (lives8 _).mono ?_
      rintro e w7 ⟨rfl, hb⟩
      have HB7 := Lib.hid (HB6.out.trans (hb.mono HB6.out.size))
      clear hb
      go_wp2
      go_ret
      exact ⟨rfl, HB7.out⟩

theorem fuse5 (L : List Ac) (lv : Value) (n m : Int) (w : World) (hL : AcsAt w w.heap.size lv L) :
    Calls Try.prog 5 #[lv, .int .i64 n, .int .i64 m] w fun e w' => e = .returned (.bool true) ∧ Below w.heap.size w w' := by
  by_cases hx : fewB L = false ∨ n < 0 ∨ 60 < n ∨ m < 1 ∨ 60 < m
  · exact fuse5_lives L lv n m w hL hx
  · have h0 : fewB L = true := by
      cases h : fewB L with
      | true => rfl
      | false => exact absurd (.inl h) hx
    have h1 : ¬ n < 0 := fun h => hx (.inr (.inl h))
    have h2 : ¬ 60 < n := fun h => hx (.inr (.inr (.inl h)))
    have h3 : ¬ m < 1 := fun h => hx (.inr (.inr (.inr (.inl h))))
    have h4 : ¬ 60 < m := fun h => hx (.inr (.inr (.inr (.inr h))))
    obtain ⟨n', rfl⟩ : ∃ n' : Nat, n = (n' : Int) := ⟨n.toNat, by omega⟩
    obtain ⟨m', rfl⟩ : ∃ m' : Nat, m = (m' : Int) := ⟨m.toNat, by omega⟩
    exact fuse5_go L lv n' m' w hL h0 (by omega) (by omega) (by omega)
end Go.Proofs.Ytikbkeckkdkkbaa
