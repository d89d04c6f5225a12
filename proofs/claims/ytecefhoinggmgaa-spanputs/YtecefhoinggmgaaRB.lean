import Derived.Test.YtecefhoinggmgaaRA
namespace Go.Proofs.Ytecefhoinggmgaa
open Go.RowKit

theorem acc_le (l : List UInt8) (c0 : Nat) (h : c0 < 32) : ∀ k, accL l c0 k < 32 * 64 ^ k
  | 0 => by simpa [accL] using h
  | k + 1 => by
    have := acc_le l c0 h k
    rw [accL, Nat.pow_succ]
    omega
theorem acc_le3 (l : List UInt8) (c0 k : Nat) (h : c0 < 32) (hk : k ≤ 3) : accL l c0 k < 8388608 := by
  have h1 := acc_le l c0 h k
  have h2 : 64 ^ k ≤ 64 ^ 3 := Nat.pow_le_pow_right (by omega) hk
  have h3 : 64 ^ 3 = 262144 := rfl
  omega

theorem acc_le16 (l : List UInt8) (c0 : Nat) (h : c0 < 16) : accL l c0 2 < 65536 := by
  have e : accL l c0 2 = 64 * (64 * c0 + byteAt l 1 % 64) + byteAt l 2 % 64 := rfl
  rw [e]; omega

/-- What holds at the head of Width's loop. -/
def WL (l : List UInt8) (c0 n : Nat) (c i : Value) : Prop := ∃ k : Nat, 1 ≤ k ∧ k ≤ n ∧ i = .int .i64 k ∧ c = .int .i64 (accL l c0 (k - 1)) ∧ ∀ j, 1 ≤ j → j < k → contL l j
theorem WL_start (l : List UInt8) (c0 n : Nat) (hn : 1 ≤ n) (x : Int) (hx : x = (c0 : Int)) : WL l c0 n (.int .i64 x) (.int .i64 1) := ⟨1, by omega, hn, rfl, by subst hx; rfl, fun j h1 h2 => by omega⟩
theorem WL_next {l : List UInt8} {c0 n k : Nat} (h1 : 1 ≤ k) (h2 : k < n) (hall : ∀ j, 1 ≤ j → j < k → contL l j) (hc : contL l k) (x : Int) (hx : x = 64 * (accL l c0 (k - 1) : Int) + (byteAt l k % 64 : Nat)) : WL l c0 n (.int .i64 x) (.int .i64 ((k : Int) + 1)) := by
  refine ⟨k + 1, by omega, by omega, rfl, ?_, fun j h3 h4 => ?_⟩
  · subst hx
    obtain ⟨m, rfl⟩ : ∃ m, k = m + 1 := ⟨k - 1, by omega⟩
    rw [show m + 1 + 1 - 1 = m + 1 by omega, show m + 1 - 1 = m by omega, accL]
    congr 1
  · by_cases e : j = k
    · subst e; exact hc
    · exact hall j h3 (by omega)

theorem drop_len (s : ByteArray) (a : Nat) : (s.data.toList.drop a).length = s.size - a := by rw [List.length_drop]; rfl

set_option maxRecDepth 100000 in
set_option maxHeartbeats 400000 in
theorem width35_1 (s : ByteArray) (a : Nat) (w : World) (h : a < s.size) (hb : byteAt (s.data.toList.drop a) 0 < 128) :
    Calls Try.prog 59 #[.string s, .int .i64 a] w fun e w' => e = .returned (.int .i64 1) ∧ w = w' := by
  have hix := str_index s a a rfl h
  have e0 := byteAt_drop s.data.toList a 0
  rw [Nat.add_zero] at e0
  rw [← e0] at hix
  clear e0
  have hlt := byteAt_lt (s.data.toList.drop a) 0
  generalize byteAt (s.data.toList.drop a) 0 = b at *
  go_enter Try.func59, Try.ntmps59
  go_wp2
  go_ret
  exact ⟨rfl, rfl⟩

set_option maxRecDepth 100000 in
set_option maxHeartbeats 400000 in
theorem width35_0 (s : ByteArray) (a : Nat) (w : World) (h : a < s.size) (hb : (128 ≤ byteAt (s.data.toList.drop a) 0 ∧ byteAt (s.data.toList.drop a) 0 < 192) ∨ 248 ≤ byteAt (s.data.toList.drop a) 0) :
    Calls Try.prog 59 #[.string s, .int .i64 a] w fun e w' => e = .returned (.int .i64 0) ∧ w = w' := by
  have hix := str_index s a a rfl h
  have e0 := byteAt_drop s.data.toList a 0
  rw [Nat.add_zero] at e0
  rw [← e0] at hix
  clear e0
  have hlt := byteAt_lt (s.data.toList.drop a) 0
  generalize byteAt (s.data.toList.drop a) 0 = b at *
  rcases hb with ⟨hb, hb2⟩ | hb
  · go_enter Try.func59, Try.ntmps59
    go_wp2
    go_ret
    exact ⟨rfl, rfl⟩
  · go_enter Try.func59, Try.ntmps59
    go_wp2
    go_ret
    exact ⟨rfl, rfl⟩

set_option maxRecDepth 100000 in
set_option maxHeartbeats 1000000 in
theorem width35_2 (s : ByteArray) (a : Nat) (w : World) (h : a < s.size) (hs : s.size ≤ 5000) (hb1 : 192 ≤ byteAt (s.data.toList.drop a) 0) (hb2 : byteAt (s.data.toList.drop a) 0 < 224) :
    Calls Try.prog 59 #[.string s, .int .i64 a] w fun e w' => e = .returned (.int .i64 (widthL (s.data.toList.drop a))) ∧ w = w' := by
  have hw := width_2 (l := s.data.toList.drop a) ⟨hb1, hb2⟩
  have hix := str_index s a a rfl h
  have e0 := byteAt_drop s.data.toList a 0
  rw [Nat.add_zero] at e0
  rw [← e0] at hix
  clear e0
  have hlen := drop_len s a
  have hbk := fun k => byteAt_drop s.data.toList a k
  obtain ⟨l, hl⟩ : ∃ l, s.data.toList.drop a = l := ⟨_, rfl⟩
  rw [hl] at hw hix hb1 hb2 hlen
  have hbk' : ∀ k, byteAt l k = byteAt s.data.toList (a + k) := fun k => by rw [← hbk k, hl]
  rw [hl]
  clear hbk
  have HL := Lib.hid hl; clear hl
  have HW := Lib.hid hw; clear hw
  have HBK := Lib.hid hbk'; clear hbk'
  have HLEN := Lib.hid hlen; clear hlen
  obtain ⟨b, hbe⟩ : ∃ b, byteAt l 0 = b := ⟨_, rfl⟩
  rw [hbe] at hix hb1 hb2 HW
  have HBE := Lib.hid hbe; clear hbe
  obtain ⟨wd, hwd⟩ : ∃ wd, widthL l = wd := ⟨_, rfl⟩
  rw [hwd] at HW ⊢
  clear hwd
  go_enter Try.func59, Try.ntmps59
  go_wp2
  go_loop [7, 9] (fun c i => WL l (b - 192) 2 c i) (fun _ i => 5 - (intOf i).toNat)
  case atStart => exact WL_start l (b - 192) 2 (by omega) _ (by omega)
  case round =>
    obtain ⟨k, hk1, hk2, rfl, rfl, hall⟩ := hrel
    have hacc := acc_le3 l (b - 192) (k - 1) (by omega) (by omega)
    have HALL := Lib.hid hall; clear hall
    by_cases hkn : k < 2
    · by_cases hc : contL l k
      · have hak : a + k < s.size := by have := hc.1; rw [HLEN.out] at this; omega
        have hik := str_index s (a + k) ((a : Int) + k) (by omega) hak
        rw [← HBK.out k] at hik
        have hck := hc.2
        have HC := Lib.hid hc; clear hc
        have hbl := byteAt_lt l k
        obtain ⟨bk, hbk⟩ : ∃ bk, byteAt l k = bk := ⟨_, rfl⟩
        rw [hbk] at hik hck hbl
        have HBKK := Lib.hid hbk; clear hbk
        obtain ⟨ac, hac⟩ : ∃ ac, accL l (b - 192) (k - 1) = ac := ⟨_, rfl⟩
        rw [hac] at hacc
        simp only [hac]
        have HAC := Lib.hid hac; clear hac
        have t1 : ((a : Int) + (k : Int)) < (s.size : Int) := by omega
        have t2 : (((bk : Int) / 64) != 2) = false := by simp; omega
        clear hck
        go_wp2
        go_round
        case rel => exact ⟨_, _, _, WL_next hk1 hkn HALL.out HC.out (64 * (ac : Int) + (bk : Int) % 64) (by rw [HAC.out, HBKK.out]; omega), rfl, rfl, rfl⟩
        case measure => simp [intOf]; omega
      · have hz : wd = 0 := HW.out.2 (fun q => hc (by rcases (show k = 1 ∨ k = 2 ∨ k = 3 by omega) with rfl | rfl | rfl <;> first | exact q | exact q.1 | exact q.2 | exact q.2.1 | exact q.2.2 | (exfalso; omega)))
        subst hz
        by_cases hak : a + k < s.size
        · have hik := str_index s (a + k) ((a : Int) + k) (by omega) hak
          rw [← HBK.out k] at hik
          have hck : ¬ byteAt l k / 64 = 2 := fun e => hc ⟨by rw [HLEN.out]; omega, e⟩
          have hbl := byteAt_lt l k
          generalize byteAt l k = bk at hik hck hbl
          have t1 : ((a : Int) + (k : Int)) < (s.size : Int) := by omega
          have t2 : (((bk : Int) / 64) != 2) = true := by simp; omega
          clear hck hc
          generalize accL l (b - 192) (k - 1) = ac at hacc ⊢
          go_wp2
          go_ret
          exact ⟨rfl, rfl⟩
        · have t1 : (s.size : Int) ≤ ((a : Int) + (k : Int)) := by omega
          clear hc
          generalize accL l (b - 192) (k - 1) = ac at hacc ⊢
          go_wp2
          go_ret
          exact ⟨rfl, rfl⟩
    · have hk : k = 2 := by omega
      subst hk
      have hwd := HW.out.1 (HALL.out 1 (by omega) (by omega))
      have HWD := Lib.hid hwd; clear hwd
      rw [show 2 - 1 = 1 from rfl] at hacc ⊢
      have hac2 : accL l (b - 192) 1 < 2048 := by have := acc_le l (b - 192) (by omega) 1; omega
      generalize accL l (b - 192) 1 = ac at hacc hac2 HWD ⊢
      by_cases t : ac < 128
      · have hz := HWD.out; rw [if_pos t] at hz; subst hz
        go_wp2
        go_ret
        exact ⟨rfl, rfl⟩
      · have hz := HWD.out; rw [if_neg t] at hz; subst hz
        go_wp2
        go_ret
        exact ⟨rfl, rfl⟩

set_option maxRecDepth 100000 in
set_option maxHeartbeats 1000000 in
theorem width35_3 (s : ByteArray) (a : Nat) (w : World) (h : a < s.size) (hs : s.size ≤ 5000) (hb1 : 224 ≤ byteAt (s.data.toList.drop a) 0) (hb2 : byteAt (s.data.toList.drop a) 0 < 240) :
    Calls Try.prog 59 #[.string s, .int .i64 a] w fun e w' => e = .returned (.int .i64 (widthL (s.data.toList.drop a))) ∧ w = w' := by
  have hw := width_3 (l := s.data.toList.drop a) ⟨hb1, hb2⟩
  have hix := str_index s a a rfl h
  have e0 := byteAt_drop s.data.toList a 0
  rw [Nat.add_zero] at e0
  rw [← e0] at hix
  clear e0
  have hlen := drop_len s a
  have hbk := fun k => byteAt_drop s.data.toList a k
  obtain ⟨l, hl⟩ : ∃ l, s.data.toList.drop a = l := ⟨_, rfl⟩
  rw [hl] at hw hix hb1 hb2 hlen
  have hbk' : ∀ k, byteAt l k = byteAt s.data.toList (a + k) := fun k => by rw [← hbk k, hl]
  rw [hl]
  clear hbk
  have HL := Lib.hid hl; clear hl
  have HW := Lib.hid hw; clear hw
  have HBK := Lib.hid hbk'; clear hbk'
  have HLEN := Lib.hid hlen; clear hlen
  obtain ⟨b, hbe⟩ : ∃ b, byteAt l 0 = b := ⟨_, rfl⟩
  rw [hbe] at hix hb1 hb2 HW
  have HBE := Lib.hid hbe; clear hbe
  obtain ⟨wd, hwd⟩ : ∃ wd, widthL l = wd := ⟨_, rfl⟩
  rw [hwd] at HW ⊢
  clear hwd
  go_enter Try.func59, Try.ntmps59
  go_wp2
  go_loop [7, 9] (fun c i => WL l (b - 224) 3 c i) (fun _ i => 5 - (intOf i).toNat)
  case atStart => exact WL_start l (b - 224) 3 (by omega) _ (by omega)
  case round =>
    obtain ⟨k, hk1, hk2, rfl, rfl, hall⟩ := hrel
    have hacc := acc_le3 l (b - 224) (k - 1) (by omega) (by omega)
    have HALL := Lib.hid hall; clear hall
    by_cases hkn : k < 3
    · by_cases hc : contL l k
      · have hak : a + k < s.size := by have := hc.1; rw [HLEN.out] at this; omega
        have hik := str_index s (a + k) ((a : Int) + k) (by omega) hak
        rw [← HBK.out k] at hik
        have hck := hc.2
        have HC := Lib.hid hc; clear hc
        have hbl := byteAt_lt l k
        obtain ⟨bk, hbk⟩ : ∃ bk, byteAt l k = bk := ⟨_, rfl⟩
        rw [hbk] at hik hck hbl
        have HBKK := Lib.hid hbk; clear hbk
        obtain ⟨ac, hac⟩ : ∃ ac, accL l (b - 224) (k - 1) = ac := ⟨_, rfl⟩
        rw [hac] at hacc
        simp only [hac]
        have HAC := Lib.hid hac; clear hac
        have t1 : ((a : Int) + (k : Int)) < (s.size : Int) := by omega
        have t2 : (((bk : Int) / 64) != 2) = false := by simp; omega
        clear hck
        go_wp2
        go_round
        case rel => exact ⟨_, _, _, WL_next hk1 hkn HALL.out HC.out (64 * (ac : Int) + (bk : Int) % 64) (by rw [HAC.out, HBKK.out]; omega), rfl, rfl, rfl⟩
        case measure => simp [intOf]; omega
      · have hz : wd = 0 := HW.out.2 (fun q => hc (by rcases (show k = 1 ∨ k = 2 ∨ k = 3 by omega) with rfl | rfl | rfl <;> first | exact q | exact q.1 | exact q.2 | exact q.2.1 | exact q.2.2 | (exfalso; omega)))
        subst hz
        by_cases hak : a + k < s.size
        · have hik := str_index s (a + k) ((a : Int) + k) (by omega) hak
          rw [← HBK.out k] at hik
          have hck : ¬ byteAt l k / 64 = 2 := fun e => hc ⟨by rw [HLEN.out]; omega, e⟩
          have hbl := byteAt_lt l k
          generalize byteAt l k = bk at hik hck hbl
          have t1 : ((a : Int) + (k : Int)) < (s.size : Int) := by omega
          have t2 : (((bk : Int) / 64) != 2) = true := by simp; omega
          clear hck hc
          generalize accL l (b - 224) (k - 1) = ac at hacc ⊢
          go_wp2
          go_ret
          exact ⟨rfl, rfl⟩
        · have t1 : (s.size : Int) ≤ ((a : Int) + (k : Int)) := by omega
          clear hc
          generalize accL l (b - 224) (k - 1) = ac at hacc ⊢
          go_wp2
          go_ret
          exact ⟨rfl, rfl⟩
    · have hk : k = 3 := by omega
      subst hk
      have hwd := HW.out.1 ⟨HALL.out 1 (by omega) (by omega), HALL.out 2 (by omega) (by omega)⟩
      have HWD := Lib.hid hwd; clear hwd
      rw [show 3 - 1 = 2 from rfl] at hacc ⊢
      have hac2 : accL l (b - 224) 2 < 65536 := acc_le16 l (b - 224) (by omega)
      generalize accL l (b - 224) 2 = ac at hacc hac2 HWD ⊢
      by_cases t : ac < 2048
      · have hz := HWD.out; rw [if_pos (.inl t)] at hz; subst hz
        go_wp2
        go_ret
        exact ⟨rfl, rfl⟩
      · by_cases t2 : 55296 ≤ ac
        · by_cases t3 : ac < 57344
          · have hz := HWD.out; rw [if_pos (.inr ⟨t2, t3⟩)] at hz; subst hz
            go_wp2
            go_ret
            exact ⟨rfl, rfl⟩
          · have hz := HWD.out; rw [if_neg (by omega)] at hz; subst hz
            go_wp2
            go_ret
            exact ⟨rfl, rfl⟩
        · have hz := HWD.out; rw [if_neg (by omega)] at hz; subst hz
          go_wp2
          go_ret
          exact ⟨rfl, rfl⟩

set_option maxRecDepth 100000 in
set_option maxHeartbeats 1000000 in
theorem width35_4 (s : ByteArray) (a : Nat) (w : World) (h : a < s.size) (hs : s.size ≤ 5000) (hb1 : 240 ≤ byteAt (s.data.toList.drop a) 0) (hb2 : byteAt (s.data.toList.drop a) 0 < 248) :
    Calls Try.prog 59 #[.string s, .int .i64 a] w fun e w' => e = .returned (.int .i64 (widthL (s.data.toList.drop a))) ∧ w = w' := by
  have hw := width_4 (l := s.data.toList.drop a) ⟨hb1, hb2⟩
  have hix := str_index s a a rfl h
  have e0 := byteAt_drop s.data.toList a 0
  rw [Nat.add_zero] at e0
  rw [← e0] at hix
  clear e0
  have hlen := drop_len s a
  have hbk := fun k => byteAt_drop s.data.toList a k
  obtain ⟨l, hl⟩ : ∃ l, s.data.toList.drop a = l := ⟨_, rfl⟩
  rw [hl] at hw hix hb1 hb2 hlen
  have hbk' : ∀ k, byteAt l k = byteAt s.data.toList (a + k) := fun k => by rw [← hbk k, hl]
  rw [hl]
  clear hbk
  have HL := Lib.hid hl; clear hl
  have HW := Lib.hid hw; clear hw
  have HBK := Lib.hid hbk'; clear hbk'
  have HLEN := Lib.hid hlen; clear hlen
  obtain ⟨b, hbe⟩ : ∃ b, byteAt l 0 = b := ⟨_, rfl⟩
  rw [hbe] at hix hb1 hb2 HW
  have HBE := Lib.hid hbe; clear hbe
  obtain ⟨wd, hwd⟩ : ∃ wd, widthL l = wd := ⟨_, rfl⟩
  rw [hwd] at HW ⊢
  clear hwd
  go_enter Try.func59, Try.ntmps59
  go_wp2
  go_loop [7, 9] (fun c i => WL l (b - 240) 4 c i) (fun _ i => 5 - (intOf i).toNat)
  case atStart => exact WL_start l (b - 240) 4 (by omega) _ (by omega)
  case round =>
    obtain ⟨k, hk1, hk2, rfl, rfl, hall⟩ := hrel
    have hacc := acc_le3 l (b - 240) (k - 1) (by omega) (by omega)
    have HALL := Lib.hid hall; clear hall
    by_cases hkn : k < 4
    · by_cases hc : contL l k
      · have hak : a + k < s.size := by have := hc.1; rw [HLEN.out] at this; omega
        have hik := str_index s (a + k) ((a : Int) + k) (by omega) hak
        rw [← HBK.out k] at hik
        have hck := hc.2
        have HC := Lib.hid hc; clear hc
        have hbl := byteAt_lt l k
        obtain ⟨bk, hbk⟩ : ∃ bk, byteAt l k = bk := ⟨_, rfl⟩
        rw [hbk] at hik hck hbl
        have HBKK := Lib.hid hbk; clear hbk
        obtain ⟨ac, hac⟩ : ∃ ac, accL l (b - 240) (k - 1) = ac := ⟨_, rfl⟩
        rw [hac] at hacc
        simp only [hac]
        have HAC := Lib.hid hac; clear hac
        have t1 : ((a : Int) + (k : Int)) < (s.size : Int) := by omega
        have t2 : (((bk : Int) / 64) != 2) = false := by simp; omega
        clear hck
        go_wp2
        go_round
        case rel => exact ⟨_, _, _, WL_next hk1 hkn HALL.out HC.out (64 * (ac : Int) + (bk : Int) % 64) (by rw [HAC.out, HBKK.out]; omega), rfl, rfl, rfl⟩
        case measure => simp [intOf]; omega
      · have hz : wd = 0 := HW.out.2 (fun q => hc (by rcases (show k = 1 ∨ k = 2 ∨ k = 3 by omega) with rfl | rfl | rfl <;> first | exact q | exact q.1 | exact q.2 | exact q.2.1 | exact q.2.2 | (exfalso; omega)))
        subst hz
        by_cases hak : a + k < s.size
        · have hik := str_index s (a + k) ((a : Int) + k) (by omega) hak
          rw [← HBK.out k] at hik
          have hck : ¬ byteAt l k / 64 = 2 := fun e => hc ⟨by rw [HLEN.out]; omega, e⟩
          have hbl := byteAt_lt l k
          generalize byteAt l k = bk at hik hck hbl
          have t1 : ((a : Int) + (k : Int)) < (s.size : Int) := by omega
          have t2 : (((bk : Int) / 64) != 2) = true := by simp; omega
          clear hck hc
          generalize accL l (b - 240) (k - 1) = ac at hacc ⊢
          go_wp2
          go_ret
          exact ⟨rfl, rfl⟩
        · have t1 : (s.size : Int) ≤ ((a : Int) + (k : Int)) := by omega
          clear hc
          generalize accL l (b - 240) (k - 1) = ac at hacc ⊢
          go_wp2
          go_ret
          exact ⟨rfl, rfl⟩
    · have hk : k = 4 := by omega
      subst hk
      have hwd := HW.out.1 ⟨HALL.out 1 (by omega) (by omega), HALL.out 2 (by omega) (by omega), HALL.out 3 (by omega) (by omega)⟩
      have HWD := Lib.hid hwd; clear hwd
      rw [show 4 - 1 = 3 from rfl] at hacc ⊢
      generalize accL l (b - 240) 3 = ac at hacc HWD ⊢
      by_cases t : ac < 65536
      · have hz := HWD.out; rw [if_pos (.inl t)] at hz; subst hz
        go_wp2
        go_ret
        exact ⟨rfl, rfl⟩
      · by_cases t2 : 1114111 < ac
        · have hz := HWD.out; rw [if_pos (.inr t2)] at hz; subst hz
          go_wp2
          go_ret
          exact ⟨rfl, rfl⟩
        · have hz := HWD.out; rw [if_neg (by omega)] at hz; subst hz
          go_wp2
          go_ret
          exact ⟨rfl, rfl⟩

theorem width35 (s : ByteArray) (a : Nat) (w : World) (h : a < s.size) (hs : s.size ≤ 5000) :
    Calls Try.prog 59 #[.string s, .int .i64 a] w fun e w' => e = .returned (.int .i64 (widthL (s.data.toList.drop a))) ∧ w = w' := by
  have hlt := byteAt_lt (s.data.toList.drop a) 0
  by_cases h1 : byteAt (s.data.toList.drop a) 0 < 128
  · rw [width_1 (drop_ne h) h1]; exact width35_1 s a w h h1
  by_cases h2 : byteAt (s.data.toList.drop a) 0 < 192
  · rw [width_0 (.inl ⟨by omega, h2⟩)]; exact width35_0 s a w h (.inl ⟨by omega, h2⟩)
  by_cases h3 : byteAt (s.data.toList.drop a) 0 < 224
  · exact width35_2 s a w h hs (by omega) h3
  by_cases h4 : byteAt (s.data.toList.drop a) 0 < 240
  · exact width35_3 s a w h hs (by omega) h4
  by_cases h5 : byteAt (s.data.toList.drop a) 0 < 248
  · exact width35_4 s a w h hs (by omega) h5
  · rw [width_0 (.inr (by omega))]; exact width35_0 s a w h (.inr (by omega))
end Go.Proofs.Ytecefhoinggmgaa
