import Derived.Test.YtapfhonapejpjaaC
import Derived.Laws.BytesString
namespace Go.Proofs.Ytapfhonapejpjaa
open Go.RowKit

/-- The end of readLow, for a digit that is known. -/
theorem lowR_digit (c : Int) (h : 48 ≤ c) (h' : c ≤ 57) : lowR c = some (c - 48) := by simp [lowR, h, h']
theorem lowR_letter (c : Int) (h : 97 ≤ c) (h' : c ≤ 102) : lowR c = some (c - 97 + 10) := by
  unfold lowR; rw [if_neg (by omega), if_pos ⟨h, h'⟩]

set_option maxHeartbeats 1000000 in
theorem readLow53 (b : Nat) (r : R) (c : Int) (w : World) (hr : Rd b r w) (hk : Ok r) :
    Calls Try.prog 53 #[.pointer (some ⟨b, 0, none⟩), .int .i32 c] w (StepB b w (readLowR r c)) := by
  obtain ⟨tv, -, -, -, -, -, -, h5⟩ := hr.cells
  have hh := hk.2.2.1
  have hh0 : 0 ≤ r.hi := by omega
  have hh7 : r.hi ≤ 7 := by omega
  by_cases d1 : 48 ≤ c ∧ c ≤ 57
  · obtain ⟨d1, d2⟩ := d1
    have hl := lowR_digit c d1 d2
    have hbp := bits_point r.hi (c - 48) hh (by omega) (by omega)
    have hi := isC47 (r.hi * 16 + (c - 48)) w
    have ha := addPoint58 b r (r.hi * 16 + (c - 48)) w hr hk
    by_cases t : r.hi * 16 + (c - 48) = 10
    · have hA : Hid (readLowR r c = none) := by simp [Hid, readLowR, hl, pointOk, t]
      rw [hA.out]
      have b1 : (r.hi * 16 + (c - 48) == 10) = true := by simpa using t
      clear ha hi hl t hh
      go_enter Try.func53, Try.ntmps53
      go_wp2
      go_ret
      exact ⟨rfl, Fr.refl _ _⟩
    · have b1 : (r.hi * 16 + (c - 48) == 10) = false := by simpa using t
      cases hc : isCtl (r.hi * 16 + (c - 48)) with
      | true =>
        have hA : Hid (readLowR r c = some (addPointR r (r.hi * 16 + (c - 48)))) := by simp [Hid, readLowR, hl, pointOk, t, hc]
        rw [hA.out]
        rw [hc] at hi
        have HI := Lib.hid hi
        have HA := Lib.hid ha
        clear ha hi hl t hh hc
        go_enter Try.func53, Try.ntmps53
        go_wp2_with (first | (go_at_call 47; go_must (refine HI.out.mono ?_); rintro e w' ⟨rfl, rfl⟩) | (go_at_call 58; go_must (refine HA.out.mono ?_); rintro e w' ⟨rfl, hr', hf'⟩))
        go_ret
        exact ⟨rfl, hr', hf'⟩
      | false =>
        have hA : Hid (readLowR r c = none) := by simp [Hid, readLowR, hl, pointOk, hc]
        rw [hA.out]
        rw [hc] at hi
        have HI := Lib.hid hi
        clear ha hi hl t hh hc
        go_enter Try.func53, Try.ntmps53
        go_wp2_with (first | (go_at_call 47; go_must (refine HI.out.mono ?_); rintro e w' ⟨rfl, rfl⟩))
        go_ret
        exact ⟨rfl, Fr.refl _ _⟩
  · by_cases d2 : 97 ≤ c ∧ c ≤ 102
    · obtain ⟨d3, d4⟩ := d2
      have hl := lowR_letter c d3 d4
      have hbp := bits_point r.hi (c - 97 + 10) hh (by omega) (by omega)
      have hi := isC47 (r.hi * 16 + (c - 97 + 10)) w
      have ha := addPoint58 b r (r.hi * 16 + (c - 97 + 10)) w hr hk
      clear d1
      by_cases t : r.hi * 16 + (c - 97 + 10) = 10
      · have hA : Hid (readLowR r c = none) := by simp [Hid, readLowR, hl, pointOk, t]
        rw [hA.out]
        have b1 : (r.hi * 16 + (c - 97 + 10) == 10) = true := by simpa using t
        clear ha hi hl t hh
        go_enter Try.func53, Try.ntmps53
        go_wp2
        go_ret
        exact ⟨rfl, Fr.refl _ _⟩
      · have b1 : (r.hi * 16 + (c - 97 + 10) == 10) = false := by simpa using t
        cases hc : isCtl (r.hi * 16 + (c - 97 + 10)) with
        | true =>
          have hA : Hid (readLowR r c = some (addPointR r (r.hi * 16 + (c - 97 + 10)))) := by simp [Hid, readLowR, hl, pointOk, t, hc]
          rw [hA.out]
          rw [hc] at hi
          have HI := Lib.hid hi
          have HA := Lib.hid ha
          clear ha hi hl t hh hc
          go_enter Try.func53, Try.ntmps53
          go_wp2_with (first | (go_at_call 47; go_must (refine HI.out.mono ?_); rintro e w' ⟨rfl, rfl⟩) | (go_at_call 58; go_must (refine HA.out.mono ?_); rintro e w' ⟨rfl, hr', hf'⟩))
          go_ret
          exact ⟨rfl, hr', hf'⟩
        | false =>
          have hA : Hid (readLowR r c = none) := by simp [Hid, readLowR, hl, pointOk, hc]
          rw [hA.out]
          rw [hc] at hi
          have HI := Lib.hid hi
          clear ha hi hl t hh hc
          go_enter Try.func53, Try.ntmps53
          go_wp2_with (first | (go_at_call 47; go_must (refine HI.out.mono ?_); rintro e w' ⟨rfl, rfl⟩))
          go_ret
          exact ⟨rfl, Fr.refl _ _⟩
    · have hl : lowR c = none := by simp [lowR, d1, d2]
      have hA : Hid (readLowR r c = none) := by simp [Hid, readLowR, hl]
      rw [hA.out]
      clear hl hh
      have hcs : c < 48 ∨ (57 < c ∧ c < 97) ∨ 102 < c := by omega
      clear d1 d2
      rcases hcs with q | ⟨q1, q2⟩ | q
      all_goals
        go_enter Try.func53, Try.ntmps53
        go_wp2
        go_ret
        exact ⟨rfl, Fr.refl _ _⟩

/-- What read comes to: a step, or a panic with the offset. -/
def StepP (b : Nat) (w : World) (at' : Int) (o : Option R) (e : Ending) (w' : World) : Prop :=
  match o with
  | some r' => e = .returned (.tuple #[]) ∧ Rd b r' w' ∧ Fr b w w'
  | none => e = .panicked [{ v := .iface 57 (.int .i64 at'), recovered := false }] ∧ Fr b w w'

set_option maxHeartbeats 400000 in
theorem read37_0 (b : Nat) (r : R) (at' c : Int) (w : World) (hr : Rd b r w) (hk : Ok r) (hst : r.st = 0) :
    Calls Try.prog 37 #[.pointer (some ⟨b, 0, none⟩), .int .i64 at', .int .i32 c] w (StepP b w at' (readFirstR r c)) := by
  obtain ⟨tv, -, h0, -, -, -, -, -⟩ := hr.cells
  rw [hst] at h0
  have hd := readFirst48 b r c w hr hk
  clear hst
  cases hX : readFirstR r c with
  | none =>
    rw [hX] at hd
    have HD := Lib.hid hd; clear hd
    clear hX
    go_enter Try.func37, Try.ntmps37
    go_wp2_with (go_at_call 48; go_must (refine HD.out.mono ?_); rintro e w' ⟨rfl, hf'⟩)
    exact ⟨rfl, rfl, hf'⟩
  | some r' =>
    rw [hX] at hd
    have HD := Lib.hid hd; clear hd
    clear hX
    go_enter Try.func37, Try.ntmps37
    go_wp2_with (go_at_call 48; go_must (refine HD.out.mono ?_); rintro e w' ⟨rfl, hr', hf'⟩)
    go_end0
    exact ⟨rfl, hr', hf'⟩

set_option maxHeartbeats 400000 in
theorem read37_1 (b : Nat) (r : R) (at' c : Int) (w : World) (hr : Rd b r w) (hk : Ok r) (hst : r.st = 1) (b1 : (c != 48) = true) :
    Calls Try.prog 37 #[.pointer (some ⟨b, 0, none⟩), .int .i64 at', .int .i32 c] w (StepP b w at' (readDigitR r c)) := by
  obtain ⟨tv, -, h0, -, -, -, -, -⟩ := hr.cells
  rw [hst] at h0
  have hd := readDigit49 b r c w hr hk
  clear hst
  cases hX : readDigitR r c with
  | none =>
    rw [hX] at hd
    have HD := Lib.hid hd; clear hd
    clear hX
    go_enter Try.func37, Try.ntmps37
    go_wp2_with (go_at_call 49; go_must (refine HD.out.mono ?_); rintro e w' ⟨rfl, hf'⟩)
    exact ⟨rfl, rfl, hf'⟩
  | some r' =>
    rw [hX] at hd
    have HD := Lib.hid hd; clear hd
    clear hX
    go_enter Try.func37, Try.ntmps37
    go_wp2_with (go_at_call 49; go_must (refine HD.out.mono ?_); rintro e w' ⟨rfl, hr', hf'⟩)
    go_end0
    exact ⟨rfl, hr', hf'⟩

set_option maxHeartbeats 400000 in
theorem read37_3 (b : Nat) (r : R) (at' c : Int) (w : World) (hr : Rd b r w) (hk : Ok r) (hst : r.st = 3) :
    Calls Try.prog 37 #[.pointer (some ⟨b, 0, none⟩), .int .i64 at', .int .i32 c] w (StepP b w at' (readDigitR r c)) := by
  obtain ⟨tv, -, h0, -, -, -, -, -⟩ := hr.cells
  rw [hst] at h0
  have hd := readDigit49 b r c w hr hk
  clear hst
  cases hX : readDigitR r c with
  | none =>
    rw [hX] at hd
    have HD := Lib.hid hd; clear hd
    clear hX
    go_enter Try.func37, Try.ntmps37
    go_wp2_with (go_at_call 49; go_must (refine HD.out.mono ?_); rintro e w' ⟨rfl, hf'⟩)
    exact ⟨rfl, rfl, hf'⟩
  | some r' =>
    rw [hX] at hd
    have HD := Lib.hid hd; clear hd
    clear hX
    go_enter Try.func37, Try.ntmps37
    go_wp2_with (go_at_call 49; go_must (refine HD.out.mono ?_); rintro e w' ⟨rfl, hr', hf'⟩)
    go_end0
    exact ⟨rfl, hr', hf'⟩

set_option maxHeartbeats 400000 in
theorem read37_4 (b : Nat) (r : R) (at' c : Int) (w : World) (hr : Rd b r w) (hk : Ok r) (hst : r.st = 4) :
    Calls Try.prog 37 #[.pointer (some ⟨b, 0, none⟩), .int .i64 at', .int .i32 c] w (StepP b w at' (readPointR r c)) := by
  obtain ⟨tv, -, h0, -, -, -, -, -⟩ := hr.cells
  rw [hst] at h0
  have hd := readPoint50 b r c w hr hk
  clear hst
  cases hX : readPointR r c with
  | none =>
    rw [hX] at hd
    have HD := Lib.hid hd; clear hd
    clear hX
    go_enter Try.func37, Try.ntmps37
    go_wp2_with (go_at_call 50; go_must (refine HD.out.mono ?_); rintro e w' ⟨rfl, hf'⟩)
    exact ⟨rfl, rfl, hf'⟩
  | some r' =>
    rw [hX] at hd
    have HD := Lib.hid hd; clear hd
    clear hX
    go_enter Try.func37, Try.ntmps37
    go_wp2_with (go_at_call 50; go_must (refine HD.out.mono ?_); rintro e w' ⟨rfl, hr', hf'⟩)
    go_end0
    exact ⟨rfl, hr', hf'⟩

set_option maxHeartbeats 400000 in
theorem read37_5 (b : Nat) (r : R) (at' c : Int) (w : World) (hr : Rd b r w) (hk : Ok r) (hst : r.st = 5) :
    Calls Try.prog 37 #[.pointer (some ⟨b, 0, none⟩), .int .i64 at', .int .i32 c] w (StepP b w at' (readEscapeR r c)) := by
  obtain ⟨tv, -, h0, -, -, -, -, -⟩ := hr.cells
  rw [hst] at h0
  have hd := readEscape51 b r c w hr hk
  clear hst
  cases hX : readEscapeR r c with
  | none =>
    rw [hX] at hd
    have HD := Lib.hid hd; clear hd
    clear hX
    go_enter Try.func37, Try.ntmps37
    go_wp2_with (go_at_call 51; go_must (refine HD.out.mono ?_); rintro e w' ⟨rfl, hf'⟩)
    exact ⟨rfl, rfl, hf'⟩
  | some r' =>
    rw [hX] at hd
    have HD := Lib.hid hd; clear hd
    clear hX
    go_enter Try.func37, Try.ntmps37
    go_wp2_with (go_at_call 51; go_must (refine HD.out.mono ?_); rintro e w' ⟨rfl, hr', hf'⟩)
    go_end0
    exact ⟨rfl, hr', hf'⟩

set_option maxHeartbeats 400000 in
theorem read37_6 (b : Nat) (r : R) (at' c : Int) (w : World) (hr : Rd b r w) (_hk : Ok r) (hst : r.st = 6) :
    Calls Try.prog 37 #[.pointer (some ⟨b, 0, none⟩), .int .i64 at', .int .i32 c] w (StepP b w at' (readHighR r c)) := by
  obtain ⟨tv, -, h0, -, -, -, -, -⟩ := hr.cells
  rw [hst] at h0
  have hd := readHigh52 b r c w hr
  clear hst
  cases hX : readHighR r c with
  | none =>
    rw [hX] at hd
    have HD := Lib.hid hd; clear hd
    clear hX
    go_enter Try.func37, Try.ntmps37
    go_wp2_with (go_at_call 52; go_must (refine HD.out.mono ?_); rintro e w' ⟨rfl, hf'⟩)
    exact ⟨rfl, rfl, hf'⟩
  | some r' =>
    rw [hX] at hd
    have HD := Lib.hid hd; clear hd
    clear hX
    go_enter Try.func37, Try.ntmps37
    go_wp2_with (go_at_call 52; go_must (refine HD.out.mono ?_); rintro e w' ⟨rfl, hr', hf'⟩)
    go_end0
    exact ⟨rfl, hr', hf'⟩

set_option maxHeartbeats 400000 in
theorem read37_7 (b : Nat) (r : R) (at' c : Int) (w : World) (hr : Rd b r w) (hk : Ok r) (hst : r.st = 7) :
    Calls Try.prog 37 #[.pointer (some ⟨b, 0, none⟩), .int .i64 at', .int .i32 c] w (StepP b w at' (readLowR r c)) := by
  obtain ⟨tv, -, h0, -, -, -, -, -⟩ := hr.cells
  rw [hst] at h0
  have hd := readLow53 b r c w hr hk
  clear hst
  cases hX : readLowR r c with
  | none =>
    rw [hX] at hd
    have HD := Lib.hid hd; clear hd
    clear hX
    go_enter Try.func37, Try.ntmps37
    go_wp2_with (go_at_call 53; go_must (refine HD.out.mono ?_); rintro e w' ⟨rfl, hf'⟩)
    exact ⟨rfl, rfl, hf'⟩
  | some r' =>
    rw [hX] at hd
    have HD := Lib.hid hd; clear hd
    clear hX
    go_enter Try.func37, Try.ntmps37
    go_wp2_with (go_at_call 53; go_must (refine HD.out.mono ?_); rintro e w' ⟨rfl, hr', hf'⟩)
    go_end0
    exact ⟨rfl, hr', hf'⟩

set_option maxHeartbeats 400000 in
theorem read37_10 (b : Nat) (r : R) (at' : Int) (w : World) (hr : Rd b r w) (hst : r.st = 1) :
    Calls Try.prog 37 #[.pointer (some ⟨b, 0, none⟩), .int .i64 at', .int .i32 48] w (StepP b w at' none) := by
  obtain ⟨tv, -, h0, -, -, -, -, -⟩ := hr.cells
  rw [hst] at h0
  clear hst
  go_enter Try.func37, Try.ntmps37
  go_wp2
  exact ⟨rfl, rfl, Fr.refl _ _⟩

set_option maxHeartbeats 400000 in
theorem read37_x (b : Nat) (r : R) (at' c : Int) (w : World) (hr : Rd b r w) (b0 : (r.st == 0) = false) (b1 : (r.st == 1) = false) (b3 : (r.st == 3) = false) (b4 : (r.st == 4) = false) (b5 : (r.st == 5) = false) (b6 : (r.st == 6) = false) (b7 : (r.st == 7) = false) :
    Calls Try.prog 37 #[.pointer (some ⟨b, 0, none⟩), .int .i64 at', .int .i32 c] w (StepP b w at' none) := by
  obtain ⟨tv, -, h0, -, -, -, -, -⟩ := hr.cells
  go_enter Try.func37, Try.ntmps37
  go_wp2
  exact ⟨rfl, rfl, Fr.refl _ _⟩

theorem read37 (b : Nat) (r : R) (at' c : Int) (w : World) (hr : Rd b r w) (hk : Ok r) :
    Calls Try.prog 37 #[.pointer (some ⟨b, 0, none⟩), .int .i64 at', .int .i32 c] w (StepP b w at' (readR r c)) := by
  by_cases s0 : r.st = 0
  · rw [show readR r c = readFirstR r c by simp [readR, s0]]; exact read37_0 b r at' c w hr hk s0
  by_cases s1 : r.st = 1
  · by_cases hc : c = 48
    · subst hc; rw [show readR r 48 = none by simp [readR, s1]]; exact read37_10 b r at' w hr s1
    · rw [show readR r c = readDigitR r c by simp [readR, s1, hc]]; exact read37_1 b r at' c w hr hk s1 (by simpa using hc)
  by_cases s3 : r.st = 3
  · rw [show readR r c = readDigitR r c by simp [readR, s3]]; exact read37_3 b r at' c w hr hk s3
  by_cases s4 : r.st = 4
  · rw [show readR r c = readPointR r c by simp [readR, s4]]; exact read37_4 b r at' c w hr hk s4
  by_cases s5 : r.st = 5
  · rw [show readR r c = readEscapeR r c by simp [readR, s5]]; exact read37_5 b r at' c w hr hk s5
  by_cases s6 : r.st = 6
  · rw [show readR r c = readHighR r c by simp [readR, s6]]; exact read37_6 b r at' c w hr hk s6
  by_cases s7 : r.st = 7
  · rw [show readR r c = readLowR r c by simp [readR, s7]]; exact read37_7 b r at' c w hr hk s7
  rw [show readR r c = none by simp [readR, s0, s1, s3, s4, s5, s6, s7]]
  exact read37_x b r at' c w hr (by simpa using s0) (by simpa using s1) (by simpa using s3) (by simpa using s4) (by simpa using s5) (by simpa using s6) (by simpa using s7)

theorem readDigitR_ok {r r' : R} {c : Int} (h : readDigitR r c = some r') (hk : Ok r) : Ok r' := by
  unfold readDigitR at h
  split at h
  · cases h
  · cases h; exact addDigitR_ok _ _ hk (by omega) (by omega)

theorem readR_ok {r r' : R} {c : Int} (h : readR r c = some r') (hk : Ok r) : Ok r' := by
  unfold readR at h
  split at h
  · unfold readFirstR at h
    split at h
    · cases h; exact hk
    split at h
    · cases h; exact hk
    split at h
    · cases h; exact hk
    · exact readDigitR_ok h (show Ok { r with pos := true } from hk)
  split at h
  · split at h
    · cases h
    · exact readDigitR_ok h hk
  split at h
  · exact readDigitR_ok h hk
  split at h
  · unfold readPointR at h
    split at h
    · cases h; exact hk
    split at h
    · cases h; exact hk
    split at h
    · cases h
    · cases h; exact addPointR_ok _ _ hk
  split at h
  · unfold readEscapeR at h
    split at h
    · cases h; exact addPointR_ok _ _ hk
    split at h
    · cases h; exact addPointR_ok _ _ hk
    split at h
    · cases h; exact hk
    · cases h
  split at h
  · unfold readHighR at h
    split at h
    · rename_i hc
      cases h
      exact ⟨hk.1, hk.2.1, by simp only; omega, hk.2.2.2⟩
    · cases h
  split at h
  · unfold readLowR at h
    split at h
    · cases h
    · split at h
      · cases h; exact addPointR_ok _ _ hk
      · cases h
  · cases h
end Go.Proofs.Ytapfhonapejpjaa
