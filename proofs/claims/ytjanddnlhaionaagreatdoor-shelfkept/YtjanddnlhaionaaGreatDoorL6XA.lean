/-
  Contracts of number, checksum, Need, trimLeftByte, trimRightByte, Trim. No condition.
-/
import Derived.Test.YtjanddnlhaionaaGreatDoorL6XP
import Derived.Test.YtjanddnlhaionaaGreatDoorL6B
namespace Go.Proofs.YtjanddnlhaionaaGreatDoor.L6
open Go.RowKit

set_option maxRecDepth 100000 in
theorem quietS {f : Nat} {args : Array Value} {w : World} {n : Nat} {v : Value} (h : Calls Tryz.prog f args (w.drewN n) fun e w' => e = .returned v ∧ w.drewN n = w') : Calls Tryz.prog f args (w.drewN n) fun e w'' => e = .returned v ∧ ∃ m, w'' = w.drewN m :=
  Calls.quiet_of_same (h.mono fun _ _ ⟨a, b⟩ => ⟨a, b.symm⟩)
set_option maxRecDepth 100000 in
theorem take_byte (s : ByteArray) (k : Nat) (h : k < s.size) : s.data.toList.take (k + 1) = s.data.toList.take k ++ [s[k]] := by
  rw [List.take_succ_eq_append_getElem (by simpa using h)]
  simp
  rfl
set_option maxRecDepth 100000 in
theorem take_all (s : ByteArray) : s.data.toList.take s.size = s.data.toList := by
  rw [List.take_of_length_le]; simp

set_option maxRecDepth 100000 in
theorem number71 (s : ByteArray) (hs : s.size ≤ 4) (w : World) :
    Calls Tryz.prog 209 #[.string s] w fun e w' => e = .returned (.int .i64 ((num s.data.toList : Nat) : Int)) ∧ w = w' := by
  have HA := Lib.hid (take_all s)
  go_enter Tryz.func209, Tryz.ntmps209
  go_wp2
  go_loop [3, 7] (fun s3 s7 => ∃ k n : Nat, k ≤ s.size ∧ s7 = .int .i64 k ∧ s3 = .int .i64 n ∧ Hid (num (s.data.toList.take k) = n) ∧ n < 256 ^ k) (fun _ s7 => s.size - (intOf s7).toNat)
  case atStart => exact ⟨0, 0, by omega, rfl, rfl, by simp [Hid, num], by omega⟩
  case round =>
    obtain ⟨k, n, hk, rfl, rfl, HN, hn⟩ := hrel
    by_cases hlt : k < s.size
    · have hki : (k : Int) < (s.size : Int) := by omega
      have hn2 : n < 16777216 := Nat.lt_of_lt_of_le hn (Nat.pow_le_pow_right (n := 256) (i := k) (j := 3) (by omega) (by omega))
      have hc := s[k].toNat_lt
      have HN2 : Hid (num (s.data.toList.take (k + 1)) = n * 256 + s[k].toNat) := by
        unfold Hid
        rw [take_byte s k hlt]
        unfold num
        rw [List.foldl_append]
        show (List.take k s.data.toList).foldl _ 0 * 256 + _ = _
        rw [show (List.take k s.data.toList).foldl (fun n c => n * 256 + c.toNat) 0 = n from HN.out]
      have hp : 256 ^ (k + 1) = 256 * 256 ^ k := by rw [Nat.pow_succ, Nat.mul_comm]
      have HP : Hid (n * 256 + s[k].toNat < 256 ^ (k + 1)) := by unfold Hid; omega
      clear hp hn
      go_wp2
      go_round
      case rel => exact ⟨k + 1, n * 256 + s[k].toNat, by omega, by go_num, by go_num, HN2, HP.out⟩
      case measure => simp [intOf]; omega
    · have e : k = s.size := by omega
      subst e
      rw [HA.out] at HN
      go_wp2
      go_ret
      exact ⟨by rw [HN.out]; rfl, rfl⟩

set_option maxRecDepth 100000 in
theorem checksum72 (s : ByteArray) (hs : s.size ≤ 62) (w : World) :
    Calls Tryz.prog 210 #[.string s] w fun e w' => e = .returned (.int .i64 ((wt 0 s.data.toList % 65521 : Nat) : Int)) ∧ w = w' := by
  have HA := Lib.hid (take_all s)
  go_enter Tryz.func210, Tryz.ntmps210
  go_wp2
  go_loop [3, 7] (fun s3 s7 => ∃ k n : Nat, k ≤ s.size ∧ s7 = .int .i64 k ∧ s3 = .int .i64 n ∧ Hid (wt 0 (s.data.toList.take k) = n)) (fun _ s7 => s.size - (intOf s7).toNat)
  case atStart => exact ⟨0, 0, by omega, rfl, rfl, by simp [Hid, wt]⟩
  case round =>
    obtain ⟨k, n, hk, rfl, rfl, HN⟩ := hrel
    have hn : n ≤ 1000000 := by
      have h := wt_le (s.data.toList.take k) 0
      rw [HN.out, List.length_take, Nat.zero_add] at h
      have hm : min k s.data.toList.length ≤ 62 := Nat.le_trans (Nat.min_le_left _ _) (by omega)
      refine Nat.le_trans h (Nat.le_trans (Nat.mul_le_mul (Nat.mul_le_mul_left _ hm) hm) (by omega))
    by_cases hlt : k < s.size
    · have hki : (k : Int) < (s.size : Int) := by omega
      have hc := s[k].toNat_lt
      have HN2 : Hid (wt 0 (s.data.toList.take (k + 1)) = n + s[k].toNat * (k + 1)) := by
        unfold Hid
        rw [take_byte s k hlt, wt_append, HN.out, List.length_take, Nat.min_eq_left (by simp; omega)]
        simp [wt]
      have hm : s[k].toNat * (k + 1) ≤ 255 * 62 := Nat.mul_le_mul (by omega) (by omega)
      have hm2 : (s[k].toNat : Int) * ((k : Int) + 1) = ((s[k].toNat * (k + 1) : Nat) : Int) := by push_cast; rfl
      obtain ⟨m, hmm⟩ : ∃ m, s[k].toNat * (k + 1) = m := ⟨_, rfl⟩
      rw [hmm] at hm hm2 HN2
      have e1 : IntKind.i64.wrap ((s[k].toNat : Int) * ((k : Int) + 1)) = m := by rw [IntKind.wrap_i64, hm2]; omega
      clear hmm
      go_wp2
      go_round
      case rel => exact ⟨k + 1, n + m, by omega, by go_num, by go_num, HN2⟩
      case measure => simp [intOf]; omega
    · have e : k = s.size := by omega
      subst e
      rw [HA.out] at HN
      go_wp2
      go_ret
      exact ⟨by rw [HN.out]; rfl, rfl⟩

set_option maxRecDepth 100000 in
theorem need17 (n : Int) (h1 : -9223372036854775808 ≤ n) (h2 : n ≤ 9223372036854775807) (w : World) :
    Calls Tryz.prog 197 #[.int .i64 n] w fun e w' => e = .returned (.int .i64 (needI n)) ∧ w = w' := by
  obtain ⟨r, hr⟩ : ∃ r, needI n = r := ⟨_, rfl⟩
  rw [hr]
  unfold needI at hr
  by_cases h : n ≤ 51
  · rw [if_pos h] at hr
    subst hr
    go_enter Tryz.func197, Tryz.ntmps197
    go_wp2
    go_ret
    exact ⟨rfl, rfl⟩
  · rw [if_neg h] at hr
    have HR := Lib.hid hr
    clear hr
    go_enter Tryz.func197, Tryz.ntmps197
    go_wp2
    go_ret
    exact ⟨by rw [← HR.out]; rfl, rfl⟩
set_option maxRecDepth 100000 in
theorem needI_nat (n : Nat) : needI (n : Int) = (needN n : Int) := by
  unfold needI needN
  by_cases h : n ≤ 51
  · rw [if_pos (by omega), if_pos h]; rfl
  · rw [if_neg (by omega), if_neg h]; omega
set_option maxRecDepth 100000 in
theorem need17n (n : Nat) (h2 : n ≤ 9223372036854775807) (w : World) :
    Calls Tryz.prog 197 #[.int .i64 (n : Int)] w fun e w' => e = .returned (.int .i64 (needN n : Int)) ∧ w = w' := by
  rw [← needI_nat]; exact need17 _ (by omega) (by omega) w

set_option maxRecDepth 100000 in
theorem slice_str (s : ByteArray) (a b : Nat) (h1 : a ≤ b) (h2 : b ≤ s.size) (x y : Int) (hx : x = a) (hy : y = b) (W : World) : (Instr.slice 9 (.string s) (some (.int .i64 x)) (some (.int .i64 y)) none).run Tryz.prog W = .ok (.string (s.extract a b)) W := by
  subst hx hy
  go_simp

/-! ### strings.Trim with the cutset of a zero byte -/
def zL (l : List UInt8) : List UInt8 := l.dropWhile (· == 0)
def zR (l : List UInt8) : List UInt8 := (zL l.reverse).reverse
set_option maxRecDepth 100000 in
theorem ext_list (s : ByteArray) (a b : Nat) : (s.extract a b).data.toList = (s.data.toList.take b).drop a := by
  simp [ByteArray.data_extract, Array.toList_extract, List.drop_take]
set_option maxRecDepth 100000 in
theorem zL_zero (c : UInt8) (l : List UInt8) (h : c = 0) : zL (c :: l) = zL l := by subst h; simp [zL]
set_option maxRecDepth 100000 in
theorem zL_stop (c : UInt8) (l : List UInt8) (h : c ≠ 0) : zL (c :: l) = c :: l := by simp [zL, h]
set_option maxRecDepth 100000 in
theorem len_list (s : ByteArray) : s.data.toList.length = s.size := by simp
set_option maxRecDepth 100000 in
theorem head_tail (t : ByteArray) (h : 0 < t.size) : t.data.toList = t[0] :: t.data.toList.drop 1 := by
  have := List.drop_eq_getElem_cons (l := t.data.toList) (i := 0) (by rw [len_list]; exact h)
  rw [List.drop_zero] at this
  exact this
set_option maxRecDepth 100000 in
theorem last_byte (t : ByteArray) (h : 0 < t.size) : t.data.toList = (t.extract 0 (t.size - 1)).data.toList ++ [t[t.size - 1]] := by
  have := take_byte t (t.size - 1) (by omega)
  rw [show t.size - 1 + 1 = t.size by omega, take_all] at this
  rw [ext_list, List.drop_zero]
  exact this
set_option maxRecDepth 100000 in
theorem zR_zero (l : List UInt8) (c : UInt8) (h : c = 0) : zR (l ++ [c]) = zR l := by
  unfold zR; rw [List.reverse_append]; show (zL (c :: l.reverse)).reverse = _; rw [zL_zero _ _ h]
set_option maxRecDepth 100000 in
theorem zR_stop (l : List UInt8) (c : UInt8) (h : c ≠ 0) : zR (l ++ [c]) = l ++ [c] := by
  unfold zR; rw [List.reverse_append]; show (zL (c :: l.reverse)).reverse = _; rw [zL_stop _ _ h]; simp
set_option maxRecDepth 100000 in
theorem byte_ne (c : UInt8) (hz : ¬ c = 0) : ((c.toNat : Int) == 0) = false := by
  rw [beq_eq_false_iff_ne]
  intro h
  exact hz (UInt8.toNat_inj.1 (by simpa using h))
set_option maxRecDepth 100000 in
theorem trimLeft77 (s : ByteArray) (w : World) :
    Calls Tryz.prog 218 #[.string s, .int .u8 0] w fun e w' => (∃ t : ByteArray, e = .returned (.string t) ∧ t.data.toList = zL s.data.toList) ∧ w = w' := by
  obtain ⟨R, hR⟩ : ∃ R, zL s.data.toList = R := ⟨_, rfl⟩
  rw [hR]
  have HR := Lib.hid hR
  clear hR
  go_enter Tryz.func218, Tryz.ntmps218
  go_wp2
  go_loop [0] (fun s0 => ∃ t : ByteArray, s0 = .string t ∧ Hid (zL t.data.toList = R)) (fun s0 => match s0 with | .string t => t.size | _ => 0)
  case atStart => exact ⟨s, rfl, HR⟩
  case round =>
    obtain ⟨t, rfl, HT⟩ := hrel
    clear HR
    by_cases h0 : 0 < t.size
    · have h0' : decide (0 < (t.size : Int)) = true := decide_eq_true (by omega)
      have hl : t.data.toList = t[0] :: (t.extract 1 t.size).data.toList := by
        rw [ext_list, take_all]; exact head_tail t h0
      by_cases hz : t[0] = 0
      · have hz' : ((t[0].toNat : Int) == 0) = true := by rw [hz]; rfl
        have HT2 : Hid (zL (t.extract 1 t.size).data.toList = R) := by
          unfold Hid
          rw [← HT.out, hl, zL_zero _ _ hz]
        clear hl hz
        go_wp2
        go_round
        case rel => exact ⟨_, rfl, HT2⟩
        case measure => simp; omega
      · have hz' : ((t[0].toNat : Int) == 0) = false := byte_ne _ hz
        have HT2 : Hid (t.data.toList = R) := by
          unfold Hid
          rw [← HT.out, hl, zL_stop _ _ hz]
        clear hl hz
        go_wp2
        go_ret
        exact ⟨⟨t, rfl, HT2.out⟩, rfl⟩
    · have h0' : decide (0 < (t.size : Int)) = false := decide_eq_false (by omega)
      have HT2 : Hid (t.data.toList = R) := by
        unfold Hid
        have : t.data.toList = [] := List.eq_nil_of_length_eq_zero (by rw [len_list]; omega)
        rw [← HT.out, this]; rfl
      go_wp2
      go_ret
      exact ⟨⟨t, rfl, HT2.out⟩, rfl⟩

set_option maxRecDepth 100000 in
theorem trimRight78 (s : ByteArray) (hs : s.size ≤ 1000) (w : World) :
    Calls Tryz.prog 219 #[.string s, .int .u8 0] w fun e w' => (∃ t : ByteArray, e = .returned (.string t) ∧ t.data.toList = zR s.data.toList) ∧ w = w' := by
  obtain ⟨R, hR⟩ : ∃ R, zR s.data.toList = R := ⟨_, rfl⟩
  rw [hR]
  have HR := Lib.hid hR
  clear hR
  go_enter Tryz.func219, Tryz.ntmps219
  go_wp2
  go_loop [0] (fun s0 => ∃ t : ByteArray, s0 = .string t ∧ t.size ≤ 1000 ∧ Hid (zR t.data.toList = R)) (fun s0 => match s0 with | .string t => t.size | _ => 0)
  case atStart => exact ⟨s, rfl, hs, HR⟩
  case round =>
    obtain ⟨t, rfl, ht, HT⟩ := hrel
    clear HR hs
    by_cases h0 : 0 < t.size
    · have h0' : decide (0 < (t.size : Int)) = true := decide_eq_true (by omega)
      have hlt : t.size - 1 < t.size := by omega
      obtain ⟨c, hc⟩ : ∃ c, t[t.size - 1]'hlt = c := ⟨_, rfl⟩
      have hl := last_byte t h0
      rw [hc] at hl
      have hi : ∀ W, (Instr.index 9 (.string t) (.int .i64 ((t.size : Int) - 1))).run Tryz.prog W = .ok (.int .u8 (c.toNat : Int)) W := by
        intro W
        have e : ((t.size : Int) - 1) = ((t.size - 1 : Nat) : Int) := by omega
        rw [e]
        go_simp
      have hsl : ∀ W, (Instr.slice 9 (.string t) none (some (.int .i64 ((t.size : Int) - 1))) none).run Tryz.prog W = .ok (.string (t.extract 0 (t.size - 1))) W := by
        intro W
        have e : ((t.size : Int) - 1) = ((t.size - 1 : Nat) : Int) := by omega
        rw [e]
        go_simp
      clear hc hlt
      by_cases hz : c = 0
      · have hz' : ((c.toNat : Int) == 0) = true := by rw [hz]; rfl
        have HT2 : Hid (zR (t.extract 0 (t.size - 1)).data.toList = R) := by
          unfold Hid
          rw [← HT.out, hl, zR_zero _ _ hz]
        clear hl hz
        go_wp2
        go_round
        case rel => exact ⟨_, rfl, by simp; omega, HT2⟩
        case measure => simp; omega
      · have hz' : ((c.toNat : Int) == 0) = false := byte_ne _ hz
        have HT2 : Hid (t.data.toList = R) := by
          unfold Hid
          rw [← HT.out, hl, zR_stop _ _ hz]
        clear hl hz
        go_wp2
        go_ret
        exact ⟨⟨t, rfl, HT2.out⟩, rfl⟩
    · have h0' : decide (0 < (t.size : Int)) = false := decide_eq_false (by omega)
      have HT2 : Hid (t.data.toList = R) := by
        unfold Hid
        have : t.data.toList = [] := List.eq_nil_of_length_eq_zero (by rw [len_list]; omega)
        rw [← HT.out, this]; rfl
      go_wp2
      go_ret
      exact ⟨⟨t, rfl, HT2.out⟩, rfl⟩

set_option maxRecDepth 100000 in
theorem zL_nil (l : List UInt8) : zL l = [] ↔ ∀ c ∈ l, c = 0 := by
  induction l with
  | nil => simp [zL]
  | cons c l ih =>
    by_cases h : c = 0
    · rw [zL_zero _ _ h, ih]; simp [h]
    · rw [zL_stop _ _ h]; simp [h]
set_option maxRecDepth 100000 in
theorem zR_nil (l : List UInt8) : zR l = [] ↔ ∀ c ∈ l, c = 0 := by
  unfold zR
  rw [List.reverse_eq_nil_iff, zL_nil]
  simp
set_option maxRecDepth 100000 in
theorem zLR_nil (l : List UInt8) : zL (zR l) = [] ↔ l.all (· == 0) = true := by
  rw [zL_nil, List.all_eq_true]
  constructor
  · intro h
    have : zL l.reverse = [] := by
      by_cases hq : zL l.reverse = []
      · exact hq
      · exfalso
        have h1 := List.head_dropWhile_not (p := fun c : UInt8 => c == 0) (l := l.reverse) hq
        have h2 := h (zL l.reverse |>.head hq) (by unfold zR; rw [List.mem_reverse]; exact List.head_mem _)
        rw [show (List.dropWhile (fun c : UInt8 => c == 0) l.reverse).head hq = (zL l.reverse).head hq from rfl, h2] at h1
        simp at h1
    intro c hc
    have := (zL_nil _).1 this c (by simpa using hc)
    simpa using this
  · intro h
    have h' : zR l = [] := (zR_nil l).2 (fun c hc => by simpa using h c hc)
    rw [h']; intro c hc; cases hc

def mkB (l : List UInt8) : ByteArray := ⟨l.toArray⟩
set_option maxRecDepth 100000 in
theorem mkB_list (l : List UInt8) : (mkB l).data.toList = l := rfl
set_option maxRecDepth 100000 in
theorem mkB_size (l : List UInt8) : (mkB l).size = l.length := by rw [← len_list]; rfl
set_option maxRecDepth 100000 in
theorem eq_mkB {t : ByteArray} {l : List UInt8} (h : t.data.toList = l) : t = mkB l := by
  subst h; rfl
set_option maxRecDepth 100000 in
theorem zR_len (l : List UInt8) : (zR l).length ≤ l.length := by
  unfold zR zL
  rw [List.length_reverse]
  refine Nat.le_trans (List.dropWhile_sublist _).length_le ?_
  simp
set_option maxRecDepth 100000 in
theorem trimLeft77' (s : ByteArray) (w : World) :
    Calls Tryz.prog 218 #[.string s, .int .u8 0] w fun e w' => e = .returned (.string (mkB (zL s.data.toList))) ∧ w = w' :=
  (trimLeft77 s w).mono fun _ _ ⟨⟨_, h1, h2⟩, h3⟩ => ⟨by rw [h1, eq_mkB h2], h3⟩
set_option maxRecDepth 100000 in
theorem trimRight78' (s : ByteArray) (hs : s.size ≤ 1000) (w : World) :
    Calls Tryz.prog 219 #[.string s, .int .u8 0] w fun e w' => e = .returned (.string (mkB (zR s.data.toList))) ∧ w = w' :=
  (trimRight78 s hs w).mono fun _ _ ⟨⟨_, h1, h2⟩, h3⟩ => ⟨by rw [h1, eq_mkB h2], h3⟩

def trimB (s : ByteArray) : ByteArray := if s.size = 0 then s else mkB (zL (mkB (zR s.data.toList)).data.toList)
set_option maxRecDepth 100000 in
theorem trimB_empty (s : ByteArray) : (trimB s).toList.isEmpty = s.data.toList.all (· == 0) := by
  unfold trimB
  by_cases h0 : s.size = 0
  · have hl : s.data.toList = [] := List.eq_nil_of_length_eq_zero (by rw [len_list]; exact h0)
    rw [if_pos h0, ByteArray.toList_eq, hl]; rfl
  · rw [if_neg h0, ByteArray.toList_eq, mkB_list, mkB_list, Bool.eq_iff_iff, List.isEmpty_iff, zLR_nil]
set_option maxRecDepth 100000 in
theorem trim73 (s : ByteArray) (hs : s.size ≤ 1000) (w : World) :
    Calls Tryz.prog 211 #[.string s, .string ⟨#[0]⟩] w fun e w' => e = .returned (.string (trimB s)) ∧ ∃ m, w' = w.drewN m := by
  obtain ⟨R, hR⟩ : ∃ R, trimB s = R := ⟨_, rfl⟩
  rw [hR]
  unfold trimB at hR
  by_cases h0 : s.size = 0
  · rw [if_pos h0] at hR
    subst hR
    have hl : s.data.toList = [] := List.eq_nil_of_length_eq_zero (by rw [len_list]; exact h0)
    have he : s.toList.isEmpty = true := by rw [ByteArray.toList_eq, hl]; rfl
    have he2 : s.toList = [] := by rw [ByteArray.toList_eq, hl]
    clear hl
    go_enter Tryz.func211, Tryz.ntmps211
    go_wp2
    go_ret
    exact ⟨rfl, 0, rfl⟩
  · rw [if_neg h0] at hR
    have he2 : ¬ s.toList = [] := by
      intro h
      have := congrArg List.length h
      rw [ByteArray.toList_eq, len_list] at this
      exact h0 this
    have he : s.toList.isEmpty = false := by simpa using he2
    have HR := Lib.hid (trimRight78' s hs)
    have HL := Lib.hid (trimLeft77' (mkB (zR s.data.toList)))
    rw [hR] at HL
    generalize mkB (zR s.data.toList) = t at HR HL
    have hx : ∀ W, (Instr.index 9 (.string ⟨#[0]⟩) (.int .i64 0)).run Tryz.prog W = .ok (.int .u8 0) W := fun W => rfl
    clear h0 hR
    go_enter Tryz.func211, Tryz.ntmps211
    go_wp2
    go_quiet (first | (go_at_call 219; exact quietS (HR.out _)) | (go_at_call 218; exact quietS (HL.out _)))
    go_wp2
    go_ret
    exact ⟨rfl, _, rfl⟩
end Go.Proofs.YtjanddnlhaionaaGreatDoor.L6
