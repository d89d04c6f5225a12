/-
  Contracts of Had, few, Same and SamePieces. No condition.
-/
import Derived.Test.YtecefhoinggmgaaSA
import Derived.Deep.QuietTactic
import Derived.BigQuiet
namespace Go.Proofs.Ytecefhoinggmgaa
open Go.RowKit

set_option maxHeartbeats 400000 in
theorem had37 (l : List Row) (t : Int) (v : Value) (w : World) (h : RowsAt w w.heap.size v l) :
    Calls Try.prog 37 #[v, .int .i64 t] w fun e w' => e = .returned (valV (lkD l t)) ∧ Below w.heap.size w w' := by
  obtain ⟨A, cap, rfl, h1, h2, h3⟩ := h
  unfold maxLen at h2
  have hend : ∀ cs, Below w.heap.size w (w.alloc (.cells cs 25)) := fun cs => (Below.refl _ _).alloc (Nat.le_refl _) _
  obtain ⟨q, hq⟩ : ∃ q, lkD l t = q := ⟨_, rfl⟩
  rw [hq]
  have HQ := Lib.hid hq
  clear hq
  go_enter Try.func37, Try.ntmps37
  go_wp2
  go_loop [5] (fun i => ∃ k : Nat, k ≤ l.length ∧ i = .int .i64 k ∧ Hid (lk (l.drop k) t = lk l t)) (fun i => l.length - (intOf i).toNat)
  case atStart => exact ⟨0, Nat.zero_le _, rfl, rfl⟩
  case round =>
    obtain ⟨k, hk, rfl, HK⟩ := hrel
    by_cases hlt : k < l.length
    · obtain ⟨b, o, rfl, hb, hr⟩ := h3 (by omega)
      have hd := drop_get l k hlt
      have hr := hr k hlt
      generalize l[k] = r at hd hr
      obtain ⟨f, e, kk, n, s⟩ := r
      obtain ⟨c0, c1, c2, c3, c4⟩ := hr
      simp only at c0 c1 c2 c3 c4
      have HD := Lib.hid hd
      clear hd h3
      by_cases hi : f ≤ t ∧ t < e
      · obtain ⟨i1, i2⟩ := hi
        have hq : q = (kk, n, s) := by
          rw [← HQ.out, lkD, ← HK.out, HD.out, lk, if_pos ⟨i1, i2⟩]; rfl
        subst hq
        clear HQ
        go_wp2
        exact bodyPost_ret (v := valV (kk, n, s)) (by simp [results, Try.results37, go_sem, valV]) rfl ⟨rfl, hend _⟩
      · have HN : Hid (lk (l.drop (k + 1)) t = lk l t) := by
          unfold Hid
          rw [← HK.out, HD.out, lk, if_neg hi]
        clear HK HD
        by_cases i1 : f ≤ t
        · have i2 : ¬ t < e := fun x => hi ⟨i1, x⟩
          clear hi
          go_wp2
          go_round
          case rel => exact ⟨k + 1, by omega, by go_num, HN⟩
          case measure => simp [intOf]; omega
        · clear hi
          go_wp2
          go_round
          case rel => exact ⟨k + 1, by omega, by go_num, HN⟩
          case measure => simp [intOf]; omega
    · have hq : q = vz := by
        rw [← HQ.out, lkD, ← HK.out, List.drop_of_length_le (by omega)]; rfl
      subst hq
      clear HQ HK
      go_wp2
      exact bodyPost_ret (v := valV vz) (by simp [results, Try.results37, go_sem, valV, vz]; rfl) rfl ⟨rfl, hend _⟩

def fewB (l : List Row) : Bool := decide (l.length ≤ 80) && l.all fun r => decide (r.2.2.2.2.size ≤ 200)

set_option maxHeartbeats 400000 in
theorem few9 (l : List Row) (v : Value) (w : World) (h : RowsAt w w.heap.size v l) :
    Calls Try.prog 9 #[v] w fun e w' => e = .returned (.bool (fewB l)) ∧ w = w' := by
  obtain ⟨A, cap, rfl, h1, h2, h3⟩ := h
  unfold maxLen at h2
  by_cases h80 : (80 : Int) < l.length
  · have hA : Hid (fewB l = false) := by unfold Hid fewB; rw [decide_eq_false (by omega)]; rfl
    rw [hA.out]
    go_enter Try.func9, Try.ntmps9
    go_wp2
    go_ret
    exact ⟨rfl, rfl⟩
  · obtain ⟨q, hq⟩ : ∃ q, fewB l = q := ⟨_, rfl⟩
    rw [hq]
    have HQ : Hid ((l.all fun r => decide (r.2.2.2.2.size ≤ 200)) = q) := by unfold Hid; rw [← hq]; unfold fewB; rw [decide_eq_true (by omega)]; rfl
    clear hq
    go_enter Try.func9, Try.ntmps9
    go_wp2
    go_loop [3] (fun i => ∃ k : Nat, k ≤ l.length ∧ i = .int .i64 k ∧ Hid (((l.drop k).all fun r => decide (r.2.2.2.2.size ≤ 200)) = q)) (fun i => l.length - (intOf i).toNat)
    case atStart => exact ⟨0, Nat.zero_le _, rfl, HQ⟩
    case round =>
      obtain ⟨k, hk, rfl, HK⟩ := hrel
      by_cases hlt : k < l.length
      · obtain ⟨b, o, rfl, hb, hr⟩ := h3 (by omega)
        have hd := drop_get l k hlt
        have hr := hr k hlt
        generalize l[k] = r at hd hr
        obtain ⟨f, e, kk, n, s⟩ := r
        obtain ⟨-, -, -, -, c4⟩ := hr
        simp only at c4
        have HD := Lib.hid hd
        clear hd h3
        by_cases hi : (200 : Int) < s.size
        · have hq : q = false := by
            rw [← HK.out, HD.out, List.all_cons, decide_eq_false (by simp only; omega)]; rfl
          subst hq
          clear HQ HK
          go_wp2
          go_ret
          exact ⟨rfl, rfl⟩
        · have HN : Hid (((l.drop (k + 1)).all fun r => decide (r.2.2.2.2.size ≤ 200)) = q) := by
            unfold Hid
            rw [← HK.out, HD.out, List.all_cons, decide_eq_true (by simp only; omega)]; rfl
          clear HK HD
          go_wp2
          go_round
          case rel => exact ⟨k + 1, by omega, by go_num, HN⟩
          case measure => simp [intOf]; omega
      · have hq : q = true := by
          rw [← HK.out, List.drop_of_length_le (by omega)]; rfl
        subst hq
        clear HQ HK
        go_wp2
        go_ret
        exact ⟨rfl, rfl⟩

theorem neqRow (a b : Row) (t : Bool) (h : decide (a ≠ b) = t) (w : World) : (binOp .neq 52 (rowV a) (rowV b)).run Try.prog w = .ok (.bool t) w := by
  subst h
  obtain ⟨af, ae, ak, an, sa⟩ := a
  obtain ⟨bf, be, bk, bn, sb⟩ := b
  unfold rowV
  by_cases h1 : af = bf
  · by_cases h2 : ae = be
    · by_cases h3 : ak = bk
      · by_cases h4 : an = bn
        · by_cases h5 : sa.toList = sb.toList
          · have := bytes_ext h5
            simp [go_sem, h1, h2, h3, h4, this]
          · have h6 : ¬ sa = sb := fun e => h5 (by rw [e])
            simp [go_sem, h1, h2, h3, h4, h5, h6]
        · simp [go_sem, h1, h2, h3, h4]
      · simp [go_sem, h1, h2, h3]
    · simp [go_sem, h1, h2]
  · simp [go_sem, h1]

theorem neqVl (a b : Vl) (t : Bool) (h : decide (a ≠ b) = t) (w : World) : (binOp .neq 25 (valV a) (valV b)).run Try.prog w = .ok (.bool t) w := by
  subst h
  obtain ⟨ak, an, sa⟩ := a
  obtain ⟨bk, bn, sb⟩ := b
  unfold valV
  by_cases h3 : ak = bk
  · by_cases h4 : an = bn
    · by_cases h5 : sa.toList = sb.toList
      · have := bytes_ext h5
        simp [go_sem, h3, h4, this]
      · have h6 : ¬ sa = sb := fun e => h5 (by rw [e])
        simp [go_sem, h3, h4, h5, h6]
    · simp [go_sem, h3, h4]
  · simp [go_sem, h3]

theorem eqlVl (a b : Vl) (t : Bool) (h : decide (a = b) = t) (w : World) : (binOp .eql 25 (valV a) (valV b)).run Try.prog w = .ok (.bool t) w := by
  obtain ⟨ak, an, sa⟩ := a
  obtain ⟨bk, bn, sb⟩ := b
  exact eql24 ak an sa bk bn sb t (by rw [← h]; simp) w

theorem neqPc (a b : Pc) (t : Bool) (h : decide (a ≠ b) = t) (w : World) : (binOp .neq 44 (pcV a) (pcV b)).run Try.prog w = .ok (.bool t) w := by
  subst h
  obtain ⟨af, ae, ⟨ak, an, sa⟩, ⟨ck, cn, sc⟩⟩ := a
  obtain ⟨bf, be, ⟨bk, bn, sb⟩, ⟨dk, dn, sd⟩⟩ := b
  unfold pcV
  by_cases h1 : af = bf
  · by_cases h2 : ae = be
    · by_cases h3 : ak = bk
      · by_cases h4 : an = bn
        · by_cases h5 : sa.toList = sb.toList
          · have h6 := bytes_ext h5
            by_cases g3 : ck = dk
            · by_cases g4 : cn = dn
              · by_cases g5 : sc.toList = sd.toList
                · have g6 := bytes_ext g5
                  simp [go_sem, h1, h2, h3, h4, h6, g3, g4, g6]
                · have g6 : ¬ sc = sd := fun e => g5 (by rw [e])
                  simp [go_sem, h1, h2, h3, h4, h6, g3, g4, g5, g6]
              · simp [go_sem, h1, h2, h3, h4, h6, g3, g4]
            · simp [go_sem, h1, h2, h3, h4, h6, g3]
          · have h6 : ¬ sa = sb := fun e => h5 (by rw [e])
            simp [go_sem, h1, h2, h3, h4, h5, h6]
        · simp [go_sem, h1, h2, h3, h4]
      · simp [go_sem, h1, h2, h3]
    · simp [go_sem, h1, h2]
  · simp [go_sem, h1]

theorem below_drewN {B : Nat} {a w : World} (h : Below B a w) (n : Nat) : Below B a (w.drewN n) := ⟨h.os, h.tape, h.output, h.size, h.block⟩

theorem decide_cons {α : Type} [DecidableEq α] (x y : α) (l l' : List α) : decide (x :: l = y :: l') = (decide (x = y) && decide (l = l')) := by
  rw [Bool.eq_iff_iff]; simp

set_option maxHeartbeats 800000 in
theorem same17 (l l' : List Row) (v v' : Value) (w : World) (h : RowsAt w w.heap.size v l) (h' : RowsAt w w.heap.size v' l') :
    Calls Try.prog 17 #[v, v'] w fun e w' => e = .returned (.bool (decide (l = l'))) ∧ Below w.heap.size w w' := by
  obtain ⟨A, cap, rfl, h1, h2, h3⟩ := h
  obtain ⟨A', cap', rfl, h1', h2', h3'⟩ := h'
  unfold maxLen at h2 h2'
  cases hlen : ((l.length : Int) == (l'.length : Int)) with
  | false =>
    have hA : Hid (decide (l = l') = false) := by
      unfold Hid
      rw [decide_eq_false_iff_not]
      rintro rfl
      simp at hlen
    rw [hA.out]
    have hne : ((l.length : Int) != (l'.length : Int)) = true := by rw [bne, hlen]; rfl
    go_enter Try.func17, Try.ntmps17
    go_wp2
    go_ret
    exact ⟨rfl, Below.refl _ _⟩
  | true =>
    have hle : l.length = l'.length := Int.ofNat.inj (by simpa using hlen)
    have hne : ((l.length : Int) != (l'.length : Int)) = false := by rw [bne, hlen]; rfl
    obtain ⟨q, hq⟩ : ∃ q, decide (l = l') = q := ⟨_, rfl⟩
    rw [hq]
    have HQ := Lib.hid hq
    have HL := Lib.hid hle
    clear hq hle hlen
    go_enter Try.func17, Try.ntmps17
    go_wp2
    go_loopw [5] (fun i wr => ∃ k d : Nat, k ≤ l.length ∧ i = .int .i64 k ∧ wr = w.drewN d ∧ Hid (decide (l.drop k = l'.drop k) = q)) (fun i _ => l.length - (intOf i).toNat)
    case atStart => exact ⟨0, 0, Nat.zero_le _, rfl, rfl, HQ⟩
    case round =>
      obtain ⟨k, d, hk, rfl, rfl, HK⟩ := hrel
      by_cases hlt : k < l.length
      · have hlt' : k < l'.length := by have := HL.out; omega
        obtain ⟨b, o, rfl, hb, hr⟩ := h3 (by omega)
        obtain ⟨b', o', rfl, hb', hr'⟩ := h3' (by omega)
        have hd := drop_get l k hlt
        have hd' := drop_get l' k hlt'
        have hr := hr k hlt
        have hr' := hr' k hlt'
        generalize l[k] = r at hd hr
        generalize l'[k] = r' at hd' hr'
        have hdc := decide_cons r r' (l.drop (k + 1)) (l'.drop (k + 1))
        rw [← hd, ← hd', HK.out] at hdc
        obtain ⟨q0, hq0⟩ : ∃ q0, decide (r ≠ r') = q0 := ⟨_, rfl⟩
        have hneq := neqRow r r' q0 hq0
        obtain ⟨f, e, kk, n, s⟩ := r
        obtain ⟨f', e', kk', n', s'⟩ := r'
        obtain ⟨c0, c1, c2, c3, c4⟩ := hr
        obtain ⟨c0', c1', c2', c3', c4'⟩ := hr'
        unfold rowV at hneq
        simp only at c0 c1 c2 c3 c4 c0' c1' c2' c3' c4' hneq
        clear hd hd' h3 h3'
        cases q0 with
        | true =>
          have hq : q = false := by
            rw [hdc]
            rw [decide_eq_false (of_decide_eq_true hq0)]; rfl
          subst hq
          clear HQ HK hdc hq0
          go_wp2_with fail
          go_quiet (fail)
          go_wp2
          go_ret
          exact ⟨rfl, below_drewN (below_drewN (Below.refl _ _) _) _⟩
        | false =>
          have HN : Hid (decide (l.drop (k + 1) = l'.drop (k + 1)) = q) := by
            unfold Hid
            rw [hdc]
            rw [decide_eq_true (Decidable.not_not.1 (of_decide_eq_false hq0))]; rfl
          clear HQ HK hdc hq0
          go_wp2_with fail
          go_quiet (fail)
          go_wp2
          go_roundw
          case rel => exact ⟨k + 1, _, by omega, by go_num, rfl, HN⟩
          case measure => simp [intOf]; omega
      · have hq : q = true := by
          rw [← HK.out, List.drop_of_length_le (by omega), List.drop_of_length_le (by have := HL.out; omega)]; rfl
        subst hq
        clear HQ HK
        go_wp2
        go_ret
        exact ⟨rfl, below_drewN (Below.refl _ _) _⟩

set_option maxHeartbeats 800000 in
theorem samePieces24 (l l' : List Pc) (v v' : Value) (w : World) (h : PcsAt w w.heap.size v l) (h' : PcsAt w w.heap.size v' l') :
    Calls Try.prog 24 #[v, v'] w fun e w' => e = .returned (.bool (decide (l = l'))) ∧ Below w.heap.size w w' := by
  obtain ⟨A, cap, rfl, h1, h2, h3⟩ := h
  obtain ⟨A', cap', rfl, h1', h2', h3'⟩ := h'
  unfold maxLen at h2 h2'
  cases hlen : ((l.length : Int) == (l'.length : Int)) with
  | false =>
    have hA : Hid (decide (l = l') = false) := by
      unfold Hid
      rw [decide_eq_false_iff_not]
      rintro rfl
      simp at hlen
    rw [hA.out]
    have hne : ((l.length : Int) != (l'.length : Int)) = true := by rw [bne, hlen]; rfl
    go_enter Try.func24, Try.ntmps24
    go_wp2
    go_ret
    exact ⟨rfl, Below.refl _ _⟩
  | true =>
    have hle : l.length = l'.length := Int.ofNat.inj (by simpa using hlen)
    have hne : ((l.length : Int) != (l'.length : Int)) = false := by rw [bne, hlen]; rfl
    obtain ⟨q, hq⟩ : ∃ q, decide (l = l') = q := ⟨_, rfl⟩
    rw [hq]
    have HQ := Lib.hid hq
    have HL := Lib.hid hle
    clear hq hle hlen
    go_enter Try.func24, Try.ntmps24
    go_wp2
    go_loopw [5] (fun i wr => ∃ k d : Nat, k ≤ l.length ∧ i = .int .i64 k ∧ wr = w.drewN d ∧ Hid (decide (l.drop k = l'.drop k) = q)) (fun i _ => l.length - (intOf i).toNat)
    case atStart => exact ⟨0, 0, Nat.zero_le _, rfl, rfl, HQ⟩
    case round =>
      obtain ⟨k, d, hk, rfl, rfl, HK⟩ := hrel
      by_cases hlt : k < l.length
      · have hlt' : k < l'.length := by have := HL.out; omega
        obtain ⟨b, o, rfl, hb, hr⟩ := h3 (by omega)
        obtain ⟨b', o', rfl, hb', hr'⟩ := h3' (by omega)
        have hd := drop_get l k hlt
        have hd' := drop_get l' k hlt'
        have hr := hr k hlt
        have hr' := hr' k hlt'
        generalize l[k] = r at hd hr
        generalize l'[k] = r' at hd' hr'
        have hdc := decide_cons r r' (l.drop (k + 1)) (l'.drop (k + 1))
        rw [← hd, ← hd', HK.out] at hdc
        obtain ⟨q0, hq0⟩ : ∃ q0, decide (r ≠ r') = q0 := ⟨_, rfl⟩
        have hneq := neqPc r r' q0 hq0
        obtain ⟨f, e, ⟨hk', hn, hs⟩, ⟨nk, nn, ns⟩⟩ := r
        obtain ⟨f', e', ⟨hk'', hn', hs'⟩, ⟨nk', nn', ns'⟩⟩ := r'
        obtain ⟨c0, c1, c2, c3, c4, c5, c6, c7⟩ := hr
        obtain ⟨c0', c1', c2', c3', c4', c5', c6', c7'⟩ := hr'
        unfold pcV at hneq
        simp only at c0 c1 c2 c3 c4 c5 c6 c7 c0' c1' c2' c3' c4' c5' c6' c7' hneq
        clear hd hd' h3 h3'
        cases q0 with
        | true =>
          have hq : q = false := by
            rw [hdc]
            rw [decide_eq_false (of_decide_eq_true hq0)]; rfl
          subst hq
          clear HQ HK hdc hq0
          go_wp2_with fail
          go_quiet (fail)
          go_wp2
          go_ret
          exact ⟨rfl, below_drewN (below_drewN (Below.refl _ _) _) _⟩
        | false =>
          have HN : Hid (decide (l.drop (k + 1) = l'.drop (k + 1)) = q) := by
            unfold Hid
            rw [hdc]
            rw [decide_eq_true (Decidable.not_not.1 (of_decide_eq_false hq0))]; rfl
          clear HQ HK hdc hq0
          go_wp2_with fail
          go_quiet (fail)
          go_wp2
          go_roundw
          case rel => exact ⟨k + 1, _, by omega, by go_num, rfl, HN⟩
          case measure => simp [intOf]; omega
      · have hq : q = true := by
          rw [← HK.out, List.drop_of_length_le (by omega), List.drop_of_length_le (by have := HL.out; omega)]; rfl
        subst hq
        clear HQ HK
        go_wp2
        go_ret
        exact ⟨rfl, below_drewN (Below.refl _ _) _⟩
end Go.Proofs.Ytecefhoinggmgaa
