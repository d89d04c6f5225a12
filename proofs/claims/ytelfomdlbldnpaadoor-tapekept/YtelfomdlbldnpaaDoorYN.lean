/-
  Contracts of SameTexts and begins. No condition.
-/
import Derived.Test.YtelfomdlbldnpaaDoorYM
namespace Go.Proofs.YtelfomdlbldnpaaDoor
open Go.RowKit

/-- A row of strings of one's own. -/
def StrsAt (w : World) (v : Value) (l : List ByteArray) : Prop := w.ownsRow 0 9 1 v l.length (strs l)
theorem StrsAt.below {w w' : World} {v : Value} {l : List ByteArray} (h : StrsAt w v l) (hb : Below w.heap.size w w') : StrsAt w' v l := row_keep h (fun k hk => hb.block k (row_lt h hk))
theorem StrsAt.drewN {w : World} {v : Value} {l : List ByteArray} (h : StrsAt w v l) (n : Nat) : StrsAt (w.drewN n) v l := row_keep h (fun _ _ => rfl)
theorem StrsAt.nil (w : World) : StrsAt w (.slice none 0 0) [] := World.ownsRow_nil _ _ _ _
theorem StrsAt.cell {w : World} {g n c : Nat} {l : List ByteArray} (h : StrsAt w (.slice (some ⟨g, 0, none⟩) n c) l) (i : Nat) (hi : i < l.length) : w.cell? ⟨g, i, none⟩ = some (.string l[i]) := by
  have := World.ownsRow.cells (g := g) h (by
    rcases h.2 with ⟨e, _⟩ | ⟨g', c', cur, e, _⟩
    · cases e
    · cases e; rfl) i (.string l[i]) (by simp [strs, hi])
  have hplain : (⟨g, 0, none⟩ : Addr).add i = ⟨g, i, none⟩ := by unfold Addr.add; split <;> simp_all
  rw [hplain] at this
  exact this
theorem str_eq (s t : ByteArray) : (s.toList == t.toList) = decide (s = t) := by
  rw [Bool.eq_iff_iff, beq_iff_eq, decide_eq_true_eq]
  constructor
  · intro h
    rw [ByteArray.toList_eq, ByteArray.toList_eq] at h
    cases s; cases t
    simp at h
    rw [h]
  · intro h; rw [h]
def eqTo (a b : List ByteArray) (k : Nat) : Prop := a.take k = b.take k

set_option maxRecDepth 100000 in
set_option maxHeartbeats 1000000 in
theorem same16 {w : World} {va vb : Value} {a b : List ByteArray} (ha : StrsAt w va a) (hb : StrsAt w vb b) (hl : a.length ≤ 1000000) :
    Calls Tryd.prog 16 #[va, vb] w fun e w' => e = .returned (.bool (decide (a = b))) ∧ ∃ n, w' = w.drewN n := by
  obtain ⟨aA, ac, rfl⟩ := row_slice ha
  obtain ⟨bA, bc, rfl⟩ := row_slice hb
  by_cases hlen : a.length = b.length
  · have e1 : ((a.length : Int) != (b.length : Int)) = false := by rw [hlen]; simp
    have e1' : (a.length != b.length) = false := by rw [hlen]; simp
    have HA := Lib.hid ha
    have HB := Lib.hid hb
    obtain ⟨n, hn⟩ : ∃ n, a.length = n := ⟨_, rfl⟩
    have HN := Lib.hid hn
    have HM : Hid (b.length = n) := by unfold Hid; rw [← hlen, hn]
    have hbn : b.length = n := HM.out
    rw [hbn] at e1 e1' ⊢
    rw [hn] at e1 e1' hl ⊢
    clear ha hb hlen hn hbn
    obtain ⟨ans, hans⟩ : ∃ ans, decide (a = b) = ans := ⟨_, rfl⟩
    rw [hans]
    have HANS := Lib.hid hans
    clear hans
    go_enter Tryd.func16, Tryd.ntmps16
    go_wp2
    go_loopw [5] (fun s5 wr => ∃ k m : Nat, s5 = .int .i64 (k : Int) ∧ k ≤ n ∧ Hid (a.take k = b.take k) ∧ wr = w.drewN m) (fun s5 _ => n - (intOf s5).toNat)
    case atStart => exact ⟨0, 0, rfl, Nat.zero_le _, by simp [Hid], rfl⟩
    case round =>
      obtain ⟨k, m, rfl, hk, HK, rfl⟩ := hrel
      by_cases hlt : k < n
      · have hka : k < a.length := by rw [HN.out]; exact hlt
        have hkb : k < b.length := by rw [HM.out]; exact hlt
        have hki : (k : Int) < (n : Int) := by omega
        obtain ⟨ga, ca, ea⟩ := row_some HA.out (by omega)
        obtain ⟨gb, cb, eb⟩ := row_some HB.out (by omega)
        injection ea with ea1 ea2 ea3
        injection eb with eb1 eb2 eb3
        subst ea1 eb1
        have HA' : StrsAt w (.slice (some ⟨ga, 0, none⟩) a.length ac) a := by have := HA.out; exact this
        have HB' : StrsAt w (.slice (some ⟨gb, 0, none⟩) b.length bc) b := by have := HB.out; exact this
        have ca' := StrsAt.cell HA' k hka
        have cb' := StrsAt.cell HB' k hkb
        obtain ⟨x, hx⟩ : ∃ x, a[k] = x := ⟨_, rfl⟩
        obtain ⟨y, hy⟩ : ∃ y, b[k] = y := ⟨_, rfl⟩
        rw [hx] at ca'
        rw [hy] at cb'
        have hne := str_eq x y
        have hta : a.take (k + 1) = a.take k ++ [x] := by rw [List.take_succ_eq_append_getElem hka, hx]
        have htb : b.take (k + 1) = b.take k ++ [y] := by rw [List.take_succ_eq_append_getElem hkb, hy]
        by_cases hxy : x = y
        · have e2 : (x.toList == y.toList) = true := by rw [hne, decide_eq_true hxy]
          have HK2 : Hid (a.take (k + 1) = b.take (k + 1)) := by unfold Hid; rw [hta, htb, HK.out, hxy]
          clear hka hkb HA' HB' hx hy hne hta htb hxy ea2 ea3 eb2 eb3 HK
          go_wp2_with fail
          go_quiet (fail)
          go_wp2
          go_roundw
          case rel => exact ⟨k + 1, m + nq, by go_num, by omega, HK2, rfl⟩
          case measure => simp [intOf]; omega
        · have e2 : (x.toList == y.toList) = false := by rw [hne, decide_eq_false hxy]
          have ef : ans = false := by
            rw [← HANS.out, decide_eq_false_iff_not]
            intro h
            apply hxy
            rw [← hx, ← hy]
            subst h
            rfl
          subst ef
          clear hka hkb HA' HB' hx hy hne hta htb hxy ea2 ea3 eb2 eb3 HK
          go_wp2_with fail
          go_quiet (fail)
          go_wp2
          go_ret
          exact ⟨rfl, m + nq, by rw [World.drewN_drewN]⟩
      · have hkn : ¬ (k : Int) < (n : Int) := by omega
        have et : ans = true := by
          rw [← HANS.out, decide_eq_true_eq]
          have h := HK.out
          rw [List.take_of_length_le (by rw [HN.out]; omega), List.take_of_length_le (by rw [HM.out]; omega)] at h
          exact h
        subst et
        clear HK
        go_wp2
        go_ret
        exact ⟨rfl, m, rfl⟩
  · have e1 : ((a.length : Int) != (b.length : Int)) = true := by rw [bne, Bool.not_eq_true', beq_eq_false_iff_ne]; omega
    have e1' : (a.length != b.length) = true := by rw [bne, Bool.not_eq_true', beq_eq_false_iff_ne]; exact hlen
    have e : decide (a = b) = false := by rw [decide_eq_false_iff_not]; intro h; exact hlen (by rw [h])
    rw [e]
    clear hlen e ha hb
    go_enter Tryd.func16, Tryd.ntmps16
    go_wp2
    go_ret
    exact ⟨rfl, 0, rfl⟩
set_option maxRecDepth 100000 in
set_option maxHeartbeats 1000000 in
theorem begins22 {w : World} {va vb : Value} {a b : List ByteArray} (ha : StrsAt w va a) (hb : StrsAt w vb b) (hl : b.length ≤ 1000000) :
    Calls Tryd.prog 22 #[va, vb] w fun e w' => e = .returned (.bool (decide (a.take b.length = b))) ∧ ∃ n, w' = w.drewN n := by
  obtain ⟨aA, ac, rfl⟩ := row_slice ha
  obtain ⟨bA, bc, rfl⟩ := row_slice hb
  by_cases hlen : b.length ≤ a.length
  · have e1 : ¬ (a.length : Int) < (b.length : Int) := by omega
    have e1' : ¬ a.length < b.length := by omega
    have HA := Lib.hid ha
    have HB := Lib.hid hb
    obtain ⟨n, hn⟩ : ∃ n, b.length = n := ⟨_, rfl⟩
    obtain ⟨na, hna⟩ : ∃ na, a.length = na := ⟨_, rfl⟩
    have HM := Lib.hid hn
    have HN := Lib.hid hna
    rw [hn] at e1 e1' hl hlen ⊢
    rw [hna] at e1 e1' hlen ⊢
    clear ha hb hn hna
    obtain ⟨ans, hans⟩ : ∃ ans, decide (a.take n = b) = ans := ⟨_, rfl⟩
    rw [hans]
    have HANS := Lib.hid hans
    clear hans
    go_enter Tryd.func22, Tryd.ntmps22
    go_wp2
    go_loopw [5] (fun s5 wr => ∃ k m : Nat, s5 = .int .i64 (k : Int) ∧ k ≤ n ∧ Hid (a.take k = b.take k) ∧ wr = w.drewN m) (fun s5 _ => n - (intOf s5).toNat)
    case atStart => exact ⟨0, 0, rfl, Nat.zero_le _, by simp [Hid], rfl⟩
    case round =>
      obtain ⟨k, m, rfl, hk, HK, rfl⟩ := hrel
      by_cases hlt : k < n
      · have hka : k < a.length := by rw [HN.out]; omega
        have hkb : k < b.length := by rw [HM.out]; exact hlt
        have hki : (k : Int) < (n : Int) := by omega
        have hkia : (k : Int) < (na : Int) := by omega
        obtain ⟨ga, ca, ea⟩ := row_some HA.out (by omega)
        obtain ⟨gb, cb, eb⟩ := row_some HB.out (by omega)
        injection ea with ea1 ea2 ea3
        injection eb with eb1 eb2 eb3
        subst ea1 eb1
        have HA' : StrsAt w (.slice (some ⟨ga, 0, none⟩) a.length ac) a := by have := HA.out; exact this
        have HB' : StrsAt w (.slice (some ⟨gb, 0, none⟩) b.length bc) b := by have := HB.out; exact this
        have ca' := StrsAt.cell HA' k hka
        have cb' := StrsAt.cell HB' k hkb
        obtain ⟨x, hx⟩ : ∃ x, a[k] = x := ⟨_, rfl⟩
        obtain ⟨y, hy⟩ : ∃ y, b[k] = y := ⟨_, rfl⟩
        rw [hx] at ca'
        rw [hy] at cb'
        have hne := str_eq x y
        have hta : a.take (k + 1) = a.take k ++ [x] := by rw [List.take_succ_eq_append_getElem hka, hx]
        have htb : b.take (k + 1) = b.take k ++ [y] := by rw [List.take_succ_eq_append_getElem hkb, hy]
        by_cases hxy : x = y
        · have e2 : (x.toList == y.toList) = true := by rw [hne, decide_eq_true hxy]
          have HK2 : Hid (a.take (k + 1) = b.take (k + 1)) := by unfold Hid; rw [hta, htb, HK.out, hxy]
          clear hka hkb HA' HB' hx hy hne hta htb hxy ea2 ea3 eb2 eb3 HK
          go_wp2_with fail
          go_quiet (fail)
          go_wp2
          go_roundw
          case rel => exact ⟨k + 1, m + nq, by go_num, by omega, HK2, rfl⟩
          case measure => simp [intOf]; omega
        · have e2 : (x.toList == y.toList) = false := by rw [hne, decide_eq_false hxy]
          have ef : ans = false := by
            rw [← HANS.out, decide_eq_false_iff_not]
            intro h
            apply hxy
            rw [← hx, ← hy]
            have h2 := congrArg (fun l => l[k]?) h
            simp only [List.getElem?_take, if_pos hlt, List.getElem?_eq_getElem hka, List.getElem?_eq_getElem hkb] at h2
            exact Option.some.inj h2
          subst ef
          clear hka hkb HA' HB' hx hy hne hta htb hxy ea2 ea3 eb2 eb3 HK
          go_wp2_with fail
          go_quiet (fail)
          go_wp2
          go_ret
          exact ⟨rfl, m + nq, by rw [World.drewN_drewN]⟩
      · have hkn : ¬ (k : Int) < (n : Int) := by omega
        have et : ans = true := by
          rw [← HANS.out, decide_eq_true_eq]
          have h := HK.out
          have hkn' : k = n := by omega
          rw [hkn'] at h
          rw [h, List.take_of_length_le (by rw [HM.out]; omega)]
        subst et
        clear HK
        go_wp2
        go_ret
        exact ⟨rfl, m, rfl⟩
  · have e1 : (a.length : Int) < (b.length : Int) := by omega
    have e1' : a.length < b.length := by omega
    have e : decide (a.take b.length = b) = false := by
      rw [decide_eq_false_iff_not]
      intro h
      have := congrArg List.length h
      rw [List.length_take] at this
      omega
    rw [e]
    clear hlen e ha hb
    go_enter Tryd.func22, Tryd.ntmps22
    go_wp2
    go_ret
    exact ⟨rfl, 0, rfl⟩
end Go.Proofs.YtelfomdlbldnpaaDoor
