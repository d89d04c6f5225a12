import Derived.Test.YtapfhonapejpjaaRC
namespace Go.Proofs.Ytapfhonapejpjaa
open Go.RowKit

/-- string([]byte{x}) -/
theorem conv_one (w : World) (n : Int) (x : UInt8) (hx : (x.toNat : Int) = n) :
    (convert 46 9 (.slice (some ⟨w.heap.size, 0, none⟩) 1 1)).run Try.prog (w.alloc (.cells #[.int .u8 n] 5)) = .ok (.string ⟨#[x]⟩) (w.alloc (.cells #[.int .u8 n] 5)) := by
  subst hx
  refine conv_own w.heap.size 1 1 (some ⟨w.heap.size, 0, none⟩) [x] _ ⟨rfl, .inr ⟨w.heap.size, 1, #[.int .u8 x.toNat], rfl, Nat.le_refl _, ?_, Nat.le_refl _, by unfold maxLen; omega, rfl, rfl⟩⟩
  exact heap_alloc_new w _

def hexStr (n : Int) : ByteArray := ⟨#[hexNib n]⟩
set_option maxHeartbeats 400000 in
theorem hex56 (n : Int) (w : World) (h0 : 0 ≤ n) (h1 : n ≤ 15) :
    Calls Try.prog 56 #[.int .i64 n] w fun e w' => e = .returned (.string (hexStr n)) ∧ w = w' := by
  have hn : n = 0 ∨ n = 1 ∨ n = 2 ∨ n = 3 ∨ n = 4 ∨ n = 5 ∨ n = 6 ∨ n = 7 ∨ n = 8 ∨ n = 9 ∨ n = 10 ∨ n = 11 ∨ n = 12 ∨ n = 13 ∨ n = 14 ∨ n = 15 := by omega
  clear h0 h1
  rcases hn with rfl | rfl | rfl | rfl | rfl | rfl | rfl | rfl | rfl | rfl | rfl | rfl | rfl | rfl | rfl | rfl
  all_goals
    go_enter Try.func56, Try.ntmps56
    go_wp2
    go_ret
    exact ⟨rfl, rfl⟩

set_option maxHeartbeats 400000 in
theorem digits24_small (n : Int) (w : World) (h0 : 0 ≤ n) (h10 : n < 10) :
    Calls Try.prog 24 #[.int .i64 n] w fun e w' => e = .returned (.string ⟨(intText n).toArray⟩) ∧ Below w.heap.size w w' := by
  have ht : intText n = [UInt8.ofNat (48 + n.toNat)] := by
    rw [intText, if_neg (by omega), digs_small (by omega)]; congr 2; omega
  rw [ht]
  have hx : ((UInt8.ofNat (48 + n.toNat)).toNat : Int) = 48 + n := by rw [ofNat_toNat _ (by omega)]; omega
  generalize UInt8.ofNat (48 + n.toNat) = x at hx ⊢
  have hcv := fun w => conv_one w (48 + n) x hx
  clear hx ht
  go_enter Try.func24, Try.ntmps24
  go_wp2
  go_ret
  exact ⟨rfl, (Below.refl _ _).alloc (Nat.le_refl _) _⟩

theorem intText_len (n : Int) (h0 : -9223372036854775808 ≤ n) (h1 : n < 9223372036854775808) : (intText n).length ≤ 20 := by
  have := digs_len 18 n.natAbs (by omega)
  unfold intText
  split
  · rw [List.length_cons]; omega
  · omega

theorem intText_split (n : Int) (h : 10 ≤ n) : intText n = intText (n / 10) ++ intText (n % 10) := by
  rw [intText, if_neg (by omega), intText, if_neg (by omega), intText, if_neg (by omega), digs_big (by omega), digs_small (m := (n % 10).natAbs) (by omega)]
  rw [show n.natAbs / 10 = (n / 10).natAbs by omega, show n.natAbs % 10 = (n % 10).natAbs by omega]
theorem intText_neg1 (m : Nat) (h0 : 0 < m) (h : m < 10) : intText (-(m : Int)) = [45] ++ intText (m : Int) := by
  rw [intText, if_pos (by omega), intText, if_neg (by omega), show (-(m : Int)).natAbs = m by omega, show ((m : Int)).natAbs = m by omega]; rfl
theorem intText_neg2 (m : Nat) (h : 10 ≤ m) : intText (-(m : Int)) = intText (-((m : Int) / 10)) ++ intText ((m : Int) % 10) := by
  rw [intText, if_pos (by omega), intText, if_pos (by omega), intText, if_neg (by omega), show (-(m : Int)).natAbs = m by omega, digs_big (by omega), digs_small (m := ((m : Int) % 10).natAbs) (by omega)]
  rw [show (-((m : Int) / 10)).natAbs = m / 10 by omega, show ((m : Int) % 10).natAbs = m % 10 by omega]; rfl

set_option maxHeartbeats 400000 in
theorem digits24_pos (n : Int) (w : World) (h10 : 10 ≤ n) (hn : n < 9223372036854775808) (A B : ByteArray) (hA : A.size ≤ 30) (hB : B.size ≤ 30)
    (h1 : ∀ w, Calls Try.prog 24 #[.int .i64 (n / 10)] w fun e w' => e = .returned (.string A) ∧ Below w.heap.size w w')
    (h2 : ∀ w, Calls Try.prog 24 #[.int .i64 (n % 10)] w fun e w' => e = .returned (.string B) ∧ Below w.heap.size w w') :
    Calls Try.prog 24 #[.int .i64 n] w fun e w' => e = .returned (.string (A ++ B)) ∧ Below w.heap.size w w' := by
  have H1 := Lib.hid h1; clear h1
  have H2 := Lib.hid h2; clear h2
  go_enter Try.func24, Try.ntmps24
  go_wp2_with fail
  refine (H1.out _).mono ?_
  rintro e w1 ⟨rfl, hb1⟩
  go_wp2_with fail
  refine (H2.out _).mono ?_
  rintro e w2 ⟨rfl, hb2⟩
  go_wp2
  go_ret
  exact ⟨rfl, hb1.trans (hb2.mono hb1.size)⟩

set_option maxHeartbeats 400000 in
theorem digits24_neg1 (m : Nat) (w : World) (h0 : 0 < m) (h10 : m < 10) (B : ByteArray) (hB : B.size ≤ 30)
    (h2 : ∀ w, Calls Try.prog 24 #[.int .i64 (m : Int)] w fun e w' => e = .returned (.string B) ∧ Below w.heap.size w w') :
    Calls Try.prog 24 #[.int .i64 (-(m : Int))] w fun e w' => e = .returned (.string (⟨#[45]⟩ ++ B)) ∧ Below w.heap.size w w' := by
  have H2 := Lib.hid h2; clear h2
  have hmd : (-(m : Int)).tmod 10 = -(m : Int) := by rw [neg_tmod10]; omega
  go_enter Try.func24, Try.ntmps24
  go_wp2_with fail
  refine (H2.out _).mono ?_
  rintro e w2 ⟨rfl, hb2⟩
  go_wp2
  go_ret
  exact ⟨rfl, hb2⟩

set_option maxHeartbeats 400000 in
theorem digits24_neg2 (m : Nat) (w : World) (h10 : 10 ≤ m) (hm : m ≤ 9223372036854775808) (A B : ByteArray) (hA : A.size ≤ 30) (hB : B.size ≤ 30)
    (h1 : ∀ w, Calls Try.prog 24 #[.int .i64 (-((m : Int) / 10))] w fun e w' => e = .returned (.string A) ∧ Below w.heap.size w w')
    (h2 : ∀ w, Calls Try.prog 24 #[.int .i64 ((m : Int) % 10)] w fun e w' => e = .returned (.string B) ∧ Below w.heap.size w w') :
    Calls Try.prog 24 #[.int .i64 (-(m : Int))] w fun e w' => e = .returned (.string (A ++ B)) ∧ Below w.heap.size w w' := by
  have H1 := Lib.hid h1; clear h1
  have H2 := Lib.hid h2; clear h2
  have hdv := neg_tdiv10 m
  have hmd := neg_tmod10 m
  go_enter Try.func24, Try.ntmps24
  go_wp2_with fail
  refine (H1.out _).mono ?_
  rintro e w1 ⟨rfl, hb1⟩
  go_wp2_with fail
  refine (H2.out _).mono ?_
  rintro e w2 ⟨rfl, hb2⟩
  go_wp2
  go_ret
  exact ⟨rfl, hb1.trans (hb2.mono hb1.size)⟩

theorem digits24 : ∀ (m : Nat) (n : Int) (w : World), n.natAbs = m → -9223372036854775808 ≤ n → n < 9223372036854775808 →
    Calls Try.prog 24 #[.int .i64 n] w fun e w' => e = .returned (.string ⟨(intText n).toArray⟩) ∧ Below w.heap.size w w' := by
  intro m
  induction m using Nat.strongRecOn with
  | _ m ih =>
  intro n w hm h0 hn
  have sz : ∀ x : Int, -9223372036854775808 ≤ x → x < 9223372036854775808 → (⟨(intText x).toArray⟩ : ByteArray).size ≤ 30 := fun x a b => by
    have := intText_len x a b
    rw [size_list]; omega
  by_cases hneg : n < 0
  · obtain ⟨k, rfl⟩ : ∃ k : Nat, n = -(k : Int) := ⟨n.natAbs, by omega⟩
    by_cases h10 : k < 10
    · have := digits24_neg1 k w (by omega) h10 _ (sz _ (by omega) (by omega)) (fun w => digits24_small k w (by omega) (by omega))
      rw [intText_neg1 k (by omega) h10, ← ByteArray.mk_append_mk]
      exact this
    · have := digits24_neg2 k w (by omega) (by omega) _ _ (sz _ (by omega) (by omega)) (sz _ (by omega) (by omega)) (fun w => ih (k / 10) (by omega) (-((k : Int) / 10)) w (by omega) (by omega) (by omega)) (fun w => digits24_small ((k : Int) % 10) w (by omega) (by omega))
      rw [intText_neg2 k (by omega), ← ByteArray.mk_append_mk]
      exact this
  · by_cases h10 : n < 10
    · exact digits24_small n w (by omega) h10
    · have := digits24_pos n w (by omega) hn _ _ (sz _ (by omega) (by omega)) (sz _ (by omega) (by omega)) (fun w => ih (n / 10).natAbs (by omega) (n / 10) w rfl (by omega) (by omega)) (fun w => digits24_small (n % 10) w (by omega) (by omega))
      rw [intText_split n (by omega), ← ByteArray.mk_append_mk]
      exact this

/-- A byte as it is written. -/
def writtenB (b : UInt8) : List UInt8 :=
  if b = 34 ∨ b = 92 then [92, b] else if b = 10 then [92, 110] else if b.toNat < 32 ∨ b = 127 then [92, 120, hexNib (b.toNat / 16 : Nat), hexNib (b.toNat % 16 : Nat)] else [b]

set_option maxHeartbeats 400000 in
theorem written45_plain (x : Int) (b : UInt8) (w : World) (hx : (b.toNat : Int) = x) (b1 : (x == 34) = false) (b2 : (x == 92) = false) (b3 : (x == 10) = false) (h32 : 32 ≤ x) (h256 : x < 256) (b4 : (x == 127) = false) :
    Calls Try.prog 45 #[.int .i64 x] w fun e w' => e = .returned (.string ⟨#[b]⟩) ∧ Below w.heap.size w w' := by
  have hcv := fun w => conv_one w x b hx
  clear hx
  go_enter Try.func45, Try.ntmps45
  go_wp2
  go_ret
  exact ⟨rfl, (Below.refl _ _).alloc (Nat.le_refl _) _⟩

set_option maxHeartbeats 400000 in
theorem written45_esc (x : Int) (b : UInt8) (w : World) (hx : (b.toNat : Int) = x) (b1 : (x == 34) = true ∨ ((x == 34) = false ∧ (x == 92) = true)) (h0 : 0 ≤ x) (h256 : x < 256) :
    Calls Try.prog 45 #[.int .i64 x] w fun e w' => e = .returned (.string (⟨#[92]⟩ ++ ⟨#[b]⟩)) ∧ Below w.heap.size w w' := by
  have hcv := fun w => conv_one w x b hx
  clear hx
  rcases b1 with b1 | ⟨b1, b2⟩
  · go_enter Try.func45, Try.ntmps45
    go_wp2
    go_ret
    exact ⟨rfl, (Below.refl _ _).alloc (Nat.le_refl _) _⟩
  · go_enter Try.func45, Try.ntmps45
    go_wp2
    go_ret
    exact ⟨rfl, (Below.refl _ _).alloc (Nat.le_refl _) _⟩

set_option maxHeartbeats 400000 in
theorem written45_ten (w : World) : Calls Try.prog 45 #[.int .i64 10] w fun e w' => e = .returned (.string ⟨#[92, 110]⟩) ∧ Below w.heap.size w w' := by
  go_enter Try.func45, Try.ntmps45
  go_wp2
  go_ret
  exact ⟨rfl, Below.refl _ _⟩

set_option maxHeartbeats 400000 in
theorem written45_ctl (x : Int) (w : World) (b1 : (x == 34) = false) (b2 : (x == 92) = false) (b3 : (x == 10) = false) (h0 : 0 ≤ x) (h3 : x < 32 ∨ x = 127) :
    Calls Try.prog 45 #[.int .i64 x] w fun e w' => e = .returned (.string (⟨#[92, 120]⟩ ++ hexStr (x / 16) ++ hexStr (x % 16))) ∧ Below w.heap.size w w' := by
  have H1 := Lib.hid (fun w => hex56 (x / 16) w (by omega) (by omega))
  have H2 := Lib.hid (fun w => hex56 (x % 16) w (by omega) (by omega))
  have hz1 : (hexStr (x / 16)).size ≤ 1 := Nat.le_refl _
  have hz2 : (hexStr (x % 16)).size ≤ 1 := Nat.le_refl _
  generalize hexStr (x / 16) = A at H1 hz1 ⊢
  generalize hexStr (x % 16) = B at H2 hz2 ⊢
  rcases h3 with q | q
  · go_enter Try.func45, Try.ntmps45
    go_wp2_with fail
    refine (H1.out _).mono ?_
    rintro e w1 ⟨rfl, rfl⟩
    go_wp2_with fail
    refine (H2.out _).mono ?_
    rintro e w1 ⟨rfl, rfl⟩
    go_wp2
    go_ret
    exact ⟨rfl, Below.refl _ _⟩
  · have b4 : (x == 127) = true := by simpa using q
    have q1 : 32 ≤ x := by omega
    have q2 : x ≤ 127 := by omega
    clear q
    go_enter Try.func45, Try.ntmps45
    go_wp2_with fail
    refine (H1.out _).mono ?_
    rintro e w1 ⟨rfl, rfl⟩
    go_wp2_with fail
    refine (H2.out _).mono ?_
    rintro e w1 ⟨rfl, rfl⟩
    go_wp2
    go_ret
    exact ⟨rfl, Below.refl _ _⟩

theorem written45 (b : UInt8) (w : World) :
    Calls Try.prog 45 #[.int .i64 (b.toNat : Int)] w fun e w' => e = .returned (.string ⟨(writtenB b).toArray⟩) ∧ Below w.heap.size w w' := by
  have hb := b.toNat_lt
  by_cases h1 : b = 34 ∨ b = 92
  · have hA : writtenB b = [92] ++ [b] := by rw [writtenB, if_pos h1]; rfl
    rw [hA, ← ByteArray.mk_append_mk]
    refine written45_esc b.toNat b w rfl ?_ (by omega) (by omega)
    rcases h1 with rfl | rfl
    · exact .inl rfl
    · exact .inr ⟨rfl, rfl⟩
  have n1 : ¬ b.toNat = 34 := fun e => h1 (.inl (u8_eq (n := 34) e (by omega)))
  have n2 : ¬ b.toNat = 92 := fun e => h1 (.inr (u8_eq (n := 92) e (by omega)))
  have b1 : ((b.toNat : Int) == 34) = false := by simp; omega
  have b2 : ((b.toNat : Int) == 92) = false := by simp; omega
  by_cases h2 : b = 10
  · have hA : writtenB b = [92, 110] := by rw [writtenB, if_neg h1, if_pos h2]
    rw [hA, h2]
    exact written45_ten w
  have n3 : ¬ b.toNat = 10 := fun e => h2 (u8_eq (n := 10) e (by omega))
  have b3 : ((b.toNat : Int) == 10) = false := by simp; omega
  by_cases h3 : b.toNat < 32 ∨ b = 127
  · have hA : writtenB b = [92, 120] ++ [hexNib (b.toNat / 16 : Nat)] ++ [hexNib (b.toNat % 16 : Nat)] := by rw [writtenB, if_neg h1, if_neg h2, if_pos h3]; rfl
    have h3' : (b.toNat : Int) < 32 ∨ (b.toNat : Int) = 127 := by rcases h3 with q | q; left; omega; right; rw [q]; rfl
    have := written45_ctl b.toNat w b1 b2 b3 (by omega) h3'
    rw [hA, ← ByteArray.mk_append_mk, ← ByteArray.mk_append_mk]
    exact this
  · have hA : writtenB b = [b] := by rw [writtenB, if_neg h1, if_neg h2, if_neg h3]
    rw [hA]
    have n4 : ¬ b.toNat = 127 := fun e => h3 (.inr (u8_eq (n := 127) e (by omega)))
    exact written45_plain b.toNat b w rfl b1 b2 b3 (by omega) (by omega) (by simp; omega)

theorem writtenB_len (b : UInt8) : (writtenB b).length ≤ 4 := by
  unfold writtenB
  repeat' split
  all_goals simp

/-- What holds at the head of Quoted's loop. -/
def QLoop (s : ByteArray) (w : World) (ov iv : Value) (w' : World) : Prop :=
  ∃ (i : Nat), iv = .int .i64 i ∧ i ≤ s.size ∧ ov = .string ⟨(34 :: (s.data.toList.take i).flatMap writtenB).toArray⟩ ∧ Below w.heap.size w w'

theorem flat_len : ∀ (l : List UInt8), (l.flatMap writtenB).length ≤ 4 * l.length
  | [] => by simp
  | b :: l => by
    have h1 := writtenB_len b
    have h2 := flat_len l
    rw [List.flatMap_cons, List.length_append, List.length_cons]; omega

theorem take_succ (s : ByteArray) (i : Nat) (h : i < s.size) : s.data.toList.take (i + 1) = s.data.toList.take i ++ [s.data.toList.getD i 0] := by
  have hl : i < s.data.toList.length := h
  rw [List.take_succ_eq_append_getElem hl]
  simp [List.getD, List.getElem?_eq_getElem hl]

set_option maxHeartbeats 400000 in
theorem quoted25 (s : ByteArray) (w : World) (hs : s.size ≤ 5000) :
    Calls Try.prog 25 #[.string s] w fun e w' => e = .returned (.string ⟨(34 :: s.data.toList.flatMap writtenB ++ [34]).toArray⟩) ∧ Below w.heap.size w w' := by
  obtain ⟨T, hT⟩ : ∃ T : ByteArray, ⟨(34 :: s.data.toList.flatMap writtenB ++ [34]).toArray⟩ = T := ⟨_, rfl⟩
  rw [hT]
  have HT := Lib.hid hT; clear hT
  go_enter Try.func25, Try.ntmps25
  go_wp2
  go_loopw [3, 4] (fun o i w' => QLoop s w o i w') (fun _ i _ => s.size - (intOf i).toNat)
  case atStart => exact ⟨0, rfl, by omega, by simp, Below.refl _ _⟩
  case round =>
    obtain ⟨i, rfl, hi, rfl, hbe⟩ := hrel
    have hfl := flat_len (s.data.toList.take i)
    have htl : (s.data.toList.take i).length ≤ 5000 := by rw [List.length_take]; omega
    by_cases hp : i < s.size
    · have hix := str_index s i i rfl hp
      have hts := take_succ s i hp
      have hby : byteAt s.data.toList i = (s.data.toList.getD i 0).toNat := rfl
      rw [hby] at hix
      obtain ⟨b, hb⟩ : ∃ b, s.data.toList.getD i 0 = b := ⟨_, rfl⟩
      rw [hb] at hix hts
      have HTS := Lib.hid hts
      clear hts hb hby
      have hwr := written45 b wr
      have hwl := writtenB_len b
      obtain ⟨A, hA⟩ : ∃ A : ByteArray, ⟨(writtenB b).toArray⟩ = A := ⟨_, rfl⟩
      have hAs : A.size ≤ 4 := by rw [← hA, size_list]; exact hwl
      rw [hA] at hwr
      obtain ⟨O, hO⟩ : ∃ O : ByteArray, ⟨(34 :: (s.data.toList.take i).flatMap writtenB).toArray⟩ = O := ⟨_, rfl⟩
      have hOs : O.size ≤ 20001 := by rw [← hO, size_list, List.length_cons]; omega
      simp only [hO]
      have hbl := b.toNat_lt
      have HA := Lib.hid hA; have HO := Lib.hid hO; have HWR := Lib.hid hwr
      clear hA hO hwr hwl
      go_wp2_with fail
      refine HWR.out.mono ?_
      rintro e w1 ⟨rfl, hb1⟩
      go_wp2
      have hbe1 := hbe.trans (hb1.mono hbe.size)
      have hnew : O ++ A = ⟨(34 :: (s.data.toList.take (i + 1)).flatMap writtenB).toArray⟩ := by
        rw [← HO.out, ← HA.out, ByteArray.mk_append_mk, HTS.out, List.flatMap_append]; simp
      go_roundw
      case rel => first
        | exact ⟨i + 1, by go_num, by omega, by rw [hnew], hbe1⟩
        | exact ⟨_, _, ⟨i + 1, by go_num, by omega, by rw [hnew], hbe1⟩, rfl, rfl⟩
      case measure => simp [intOf]; omega
    · have hie : i = s.size := by omega
      have ht : s.data.toList.take i = s.data.toList := List.take_of_length_le (by have hl : s.data.toList.length = s.size := rfl; omega)
      rw [ht]
      obtain ⟨O, hO⟩ : ∃ O : ByteArray, ⟨(34 :: s.data.toList.flatMap writtenB).toArray⟩ = O := ⟨_, rfl⟩
      rw [ht] at hfl htl
      have hOs : O.size ≤ 20001 := by rw [← hO, size_list, List.length_cons]; omega
      have hfin : O ++ ⟨#[34]⟩ = T := by
        rw [← hO, ← HT.out]; exact ByteArray.mk_append_mk _ [34]
      clear HT
      subst hfin
      simp only [hO]
      clear hO ht hfl htl hie
      go_wp2
      go_ret
      exact ⟨rfl, hbe⟩
end Go.Proofs.Ytapfhonapejpjaa
