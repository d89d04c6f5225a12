import Derived.Test.YtapfhonapejpjaaB
namespace Go.Proofs.Ytapfhonapejpjaa
open Go.RowKit

/-- What a method of the reader that answers a bool comes to. -/
def StepB (b : Nat) (w : World) (o : Option R) (e : Ending) (w' : World) : Prop :=
  match o with
  | some r' => e = .returned (.bool true) ∧ Rd b r' w' ∧ Fr b w w'
  | none => e = .returned (.bool false) ∧ Fr b w w'

theorem Ok.st {r : R} (h : Ok r) (x : Int) : Ok { r with st := x } := h
theorem Ok.pos {r : R} (h : Ok r) (x : Bool) : Ok { r with pos := x } := h

set_option maxHeartbeats 400000 in
theorem readDigit49 (b : Nat) (r : R) (c : Int) (w : World) (hr : Rd b r w) (hk : Ok r) :
    Calls Try.prog 49 #[.pointer (some ⟨b, 0, none⟩), .int .i32 c] w (StepB b w (readDigitR r c)) := by
  obtain ⟨tv, -, h0, -, -, -, -, -⟩ := hr.cells
  have f0 := hr.frozen 0
  have hr0 := hr.set0 3
  by_cases h1 : c < 48
  · have hA : Hid (readDigitR r c = none) := by simp [Hid, readDigitR, h1]
    rw [hA.out]
    go_enter Try.func49, Try.ntmps49
    go_wp2
    go_ret
    exact ⟨rfl, Fr.refl _ _⟩
  · by_cases h2 : 57 < c
    · have hA : Hid (readDigitR r c = none) := by simp [Hid, readDigitR, h2]
      rw [hA.out]
      go_enter Try.func49, Try.ntmps49
      go_wp2
      go_ret
      exact ⟨rfl, Fr.refl _ _⟩
    · have hA : Hid (readDigitR r c = some (addDigitR { r with st := 3 } (c - 48))) := by simp [Hid, readDigitR, h1, h2]
      rw [hA.out]
      go_enter Try.func49, Try.ntmps49
      go_wp2_with (go_at_call 57; go_must (refine (addDigit57 b { r with st := 3 } _ _ hr0 hk (by omega) (by omega)).mono ?_); rintro e w' ⟨rfl, hr', hf'⟩)
      go_ret
      exact ⟨rfl, hr', ((Fr.refl b w).set 0 _).trans hf'⟩

set_option maxHeartbeats 400000 in
theorem readFirst48 (b : Nat) (r : R) (c : Int) (w : World) (hr : Rd b r w) (hk : Ok r) :
    Calls Try.prog 48 #[.pointer (some ⟨b, 0, none⟩), .int .i32 c] w (StepB b w (readFirstR r c)) := by
  obtain ⟨tv, -, h0, h1, -, -, -, -⟩ := hr.cells
  have f0 := hr.frozen 0
  have f1 := hr.frozen 1
  by_cases c1 : c = 34
  · have hA : Hid (readFirstR r c = some { r with st := 4 }) := by simp [Hid, readFirstR, c1]
    rw [hA.out]; subst c1
    have hr0 := hr.set0 4
    go_enter Try.func48, Try.ntmps48
    go_wp2
    go_ret
    exact ⟨rfl, hr0, (Fr.refl b w).set 0 _⟩
  have b1 : (c == 34) = false := by simpa using c1
  by_cases c2 : c = 45
  · have hA : Hid (readFirstR r c = some { r with st := 1 }) := by simp [Hid, readFirstR, c2]
    rw [hA.out]; subst c2
    have hr0 := hr.set0 1
    go_enter Try.func48, Try.ntmps48
    go_wp2
    go_ret
    exact ⟨rfl, hr0, (Fr.refl b w).set 0 _⟩
  have b2 : (c == 45) = false := by simpa using c2
  by_cases c3 : c = 48
  · have hA : Hid (readFirstR r c = some { r with st := 2 }) := by simp [Hid, readFirstR, c3]
    rw [hA.out]; subst c3
    have hr0 := hr.set0 2
    go_enter Try.func48, Try.ntmps48
    go_wp2
    go_ret
    exact ⟨rfl, hr0, (Fr.refl b w).set 0 _⟩
  have b3 : (c == 48) = false := by simpa using c3
  have hA : Hid (readFirstR r c = readDigitR { r with pos := true } c) := by simp [Hid, readFirstR, c1, c2, c3]
  rw [hA.out]
  clear c1 c2 c3 hA
  have hr1 := hr.set1 true
  have hd := readDigit49 b { r with pos := true } c _ hr1 hk
  cases hX : readDigitR { r with pos := true } c with
  | none =>
    rw [hX] at hd
    have HD := Lib.hid hd; clear hd
    clear hX
    go_enter Try.func48, Try.ntmps48
    go_wp2_with (go_at_call 49; go_must (refine HD.out.mono ?_); rintro e w' ⟨rfl, hf'⟩)
    go_ret
    exact ⟨rfl, ((Fr.refl b w).set 1 _).trans hf'⟩
  | some r' =>
    rw [hX] at hd
    have HD := Lib.hid hd; clear hd
    clear hX
    go_enter Try.func48, Try.ntmps48
    go_wp2_with (go_at_call 49; go_must (refine HD.out.mono ?_); rintro e w' ⟨rfl, hr', hf'⟩)
    go_ret
    exact ⟨rfl, hr', ((Fr.refl b w).set 1 _).trans hf'⟩

set_option maxHeartbeats 400000 in
theorem readPoint50 (b : Nat) (r : R) (c : Int) (w : World) (hr : Rd b r w) (hk : Ok r) :
    Calls Try.prog 50 #[.pointer (some ⟨b, 0, none⟩), .int .i32 c] w (StepB b w (readPointR r c)) := by
  obtain ⟨tv, -, h0, -, -, -, -, -⟩ := hr.cells
  have f0 := hr.frozen 0
  by_cases c1 : c = 34
  · have hA : Hid (readPointR r c = some { r with st := 8 }) := by simp [Hid, readPointR, c1]
    rw [hA.out]; subst c1
    have hr0 := hr.set0 8
    go_enter Try.func50, Try.ntmps50
    go_wp2
    go_ret
    exact ⟨rfl, hr0, (Fr.refl b w).set 0 _⟩
  have b1 : (c == 34) = false := by simpa using c1
  by_cases c2 : c = 92
  · have hA : Hid (readPointR r c = some { r with st := 5 }) := by simp [Hid, readPointR, c2]
    rw [hA.out]; subst c2
    have hr0 := hr.set0 5
    go_enter Try.func50, Try.ntmps50
    go_wp2
    go_ret
    exact ⟨rfl, hr0, (Fr.refl b w).set 0 _⟩
  have b2 : (c == 92) = false := by simpa using c2
  have hi := isC47 c w
  cases c3 : isCtl c with
  | true =>
    have hA : Hid (readPointR r c = none) := by simp [Hid, readPointR, c1, c2, c3]
    rw [hA.out]
    rw [c3] at hi
    have HI := Lib.hid hi
    clear c1 c2 c3 hA hi
    go_enter Try.func50, Try.ntmps50
    go_wp2_with (go_at_call 47; go_must (refine HI.out.mono ?_); rintro e w' ⟨rfl, rfl⟩)
    go_ret
    exact ⟨rfl, Fr.refl _ _⟩
  | false =>
    have hA : Hid (readPointR r c = some (addPointR r c)) := by simp [Hid, readPointR, c1, c2, c3]
    rw [hA.out]
    rw [c3] at hi
    have HI := Lib.hid hi
    clear c1 c2 c3 hA hi
    go_enter Try.func50, Try.ntmps50
    go_wp2_with (first | (go_at_call 47; go_must (refine HI.out.mono ?_); rintro e w' ⟨rfl, rfl⟩) | (go_at_call 58; go_must (refine (addPoint58 b r c _ hr hk).mono ?_); rintro e w' ⟨rfl, hr', hf'⟩))
    go_ret
    exact ⟨rfl, hr', hf'⟩

set_option maxHeartbeats 400000 in
theorem readEscape51 (b : Nat) (r : R) (c : Int) (w : World) (hr : Rd b r w) (hk : Ok r) :
    Calls Try.prog 51 #[.pointer (some ⟨b, 0, none⟩), .int .i32 c] w (StepB b w (readEscapeR r c)) := by
  obtain ⟨tv, -, h0, -, -, -, -, -⟩ := hr.cells
  have f0 := hr.frozen 0
  by_cases c1 : c = 34
  · have hA : Hid (readEscapeR r c = some (addPointR r c)) := by simp [Hid, readEscapeR, c1]
    rw [hA.out]; subst c1
    go_enter Try.func51, Try.ntmps51
    go_wp2_with (go_at_call 58; go_must (refine (addPoint58 b r _ _ hr hk).mono ?_); rintro e w' ⟨rfl, hr', hf'⟩)
    go_ret
    exact ⟨rfl, hr', hf'⟩
  have b1 : (c == 34) = false := by simpa using c1
  by_cases c2 : c = 92
  · have hA : Hid (readEscapeR r c = some (addPointR r c)) := by simp [Hid, readEscapeR, c2]
    rw [hA.out]; subst c2
    go_enter Try.func51, Try.ntmps51
    go_wp2_with (go_at_call 58; go_must (refine (addPoint58 b r _ _ hr hk).mono ?_); rintro e w' ⟨rfl, hr', hf'⟩)
    go_ret
    exact ⟨rfl, hr', hf'⟩
  have b2 : (c == 92) = false := by simpa using c2
  by_cases c3 : c = 110
  · have hA : Hid (readEscapeR r c = some (addPointR r 10)) := by simp [Hid, readEscapeR, c3]
    rw [hA.out]; subst c3
    go_enter Try.func51, Try.ntmps51
    go_wp2_with (go_at_call 58; go_must (refine (addPoint58 b r _ _ hr hk).mono ?_); rintro e w' ⟨rfl, hr', hf'⟩)
    go_ret
    exact ⟨rfl, hr', hf'⟩
  have b3 : (c == 110) = false := by simpa using c3
  by_cases c4 : c = 120
  · have hA : Hid (readEscapeR r c = some { r with st := 6 }) := by simp [Hid, readEscapeR, c4]
    rw [hA.out]; subst c4
    have hr0 := hr.set0 6
    go_enter Try.func51, Try.ntmps51
    go_wp2
    go_ret
    exact ⟨rfl, hr0, (Fr.refl b w).set 0 _⟩
  have b4 : (c == 120) = false := by simpa using c4
  have hA : Hid (readEscapeR r c = none) := by simp [Hid, readEscapeR, c1, c2, c3, c4]
  rw [hA.out]
  clear c1 c2 c3 c4
  go_enter Try.func51, Try.ntmps51
  go_wp2
  go_ret
  exact ⟨rfl, Fr.refl _ _⟩

set_option maxHeartbeats 400000 in
theorem readHigh52 (b : Nat) (r : R) (c : Int) (w : World) (hr : Rd b r w) :
    Calls Try.prog 52 #[.pointer (some ⟨b, 0, none⟩), .int .i32 c] w (StepB b w (readHighR r c)) := by
  obtain ⟨tv, -, h0, -, -, -, -, h5⟩ := hr.cells
  have f0 := hr.frozen 0
  have f5 := hr.frozen 5
  have hr5 := (hr.set0 7).set5 (c - 48)
  by_cases c0 : c = 48 ∨ c = 49 ∨ c = 55
  · have hA : Hid (readHighR r c = some { r with st := 7, hi := c - 48 }) := by rw [Hid, readHighR, if_pos c0]
    rw [hA.out]
    rcases c0 with rfl | rfl | rfl
    all_goals
      go_enter Try.func52, Try.ntmps52
      go_wp2
      go_ret
      exact ⟨rfl, hr5, ((Fr.refl b w).set 0 _).set 5 _⟩
  · have hA : Hid (readHighR r c = none) := by rw [Hid, readHighR, if_neg c0]
    rw [hA.out]
    have b1 : (c != 48) = true := by simp; omega
    have b2 : (c != 49) = true := by simp; omega
    have b3 : (c != 55) = true := by simp; omega
    clear c0
    go_enter Try.func52, Try.ntmps52
    go_wp2
    go_ret
    exact ⟨rfl, Fr.refl _ _⟩
end Go.Proofs.Ytapfhonapejpjaa
