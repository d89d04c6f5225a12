/-
  Contracts of visible, Sure, Read. No condition.
-/
import Derived.Test.YtjanddnlhaionaaGreatDoorL6E
namespace Go.Proofs.YtjanddnlhaionaaGreatDoor.L6
open Go.RowKit

set_option maxRecDepth 100000 in
theorem sh_64 {d : D} (h : Ok d) {i : Nat} (hi : i < d.S.length) : ∀ k, k ≤ d.W.length → (sh d i k).size = 64
  | 0, _ => by
    unfold sh
    rw [List.getD_eq_getElem?_getD, List.getElem?_eq_getElem hi]
    exact h.s64 _ (List.getElem_mem hi)
  | k + 1, hk => by
    unfold sh
    split
    · exact (h.w64 _ (pw_mem (by omega))).2
    · exact sh_64 h hi k (by omega)

set_option maxRecDepth 100000 in
theorem PIs.sec {w : World} {F : Nat → Prop} {b : Nat} {d : D} {g c : Nat} {v : Value} (h : PIs w F b d g c v) (hok : Ok d) {i : Nat} (hi : i < d.S.length) : w.rangeAt g (i * 64) (secC (d.S.getD i ByteArray.empty)) := by
  refine row_range h.o1 (secs_len hok.s64) rfl i _ ?_
  rw [List.getD_eq_getElem?_getD, List.getElem?_eq_getElem hi]; rfl
set_option maxRecDepth 100000 in
theorem PIs.pen {w : World} {F : Nat → Prop} {b : Nat} {d : D} {g c : Nat} {gp n cp : Nat} (h : PIs w F b d g c (.slice (some ⟨gp, 0, none⟩) n cp)) (hn : n = d.W.length) (hok : Ok d) {k : Nat} (hk : k < d.W.length) : w.rangeAt gp (k * 65) (penC (pw d.W k)) := by
  subst hn
  refine row_range h.o2 (pens_len hok.w64) rfl k _ ?_
  rw [pw_eq hk, List.getElem?_eq_getElem hk]
set_option maxRecDepth 100000 in
theorem range_head {w : World} {g o : Nat} {p : Nat × ByteArray} (h : w.rangeAt g o (penC p)) : w.cell? ⟨g, o, none⟩ = some (.int .i64 (p.1 : Int)) := h 0 _ rfl
set_option maxRecDepth 100000 in
theorem range_tail {w : World} {g o : Nat} {p : Nat × ByteArray} (h : w.rangeAt g o (penC p)) : w.rangeAt g (o + 1) (secC p.2) := fun j v hv => by
  have := h (j + 1) v (by simpa [penC] using hv)
  rw [show o + 1 + j = o + (j + 1) by omega]
  exact this

set_option maxRecDepth 100000 in
set_option maxHeartbeats 1000000 in
theorem visible39 {F : Nat → Prop} {b : Nat} {d : D} {w : World} (h : PAt w F b d) (i : Nat) (hi : i < d.S.length) (hw : d.W.length ≤ 1000000) :
    Calls Tryz.prog 208 #[.pointer (some ⟨b, 0, none⟩), .int .i64 (i : Int)] w fun e w' => e = .returned (.string (sh d i d.W.length)) ∧ Below w.heap.size w w' := by
  obtain ⟨g, c, v, hI⟩ := h.is
  have HOK := Lib.hid h.ok
  have HI := Lib.hid hI
  have c0 := hI.c0
  have c1 := hI.c1
  have hn2 := h.ok.n2
  obtain ⟨a, cp, rfl⟩ := row_slice hI.o2
  have HSEC := Lib.hid (hI.sec h.ok hi)
  have HS64 : Hid ((d.S.getD i ByteArray.empty).size = 64) := sh_64 (d := d) h.ok hi 0 (Nat.zero_le _)
  obtain ⟨ans, hans⟩ : ∃ ans, sh d i d.W.length = ans := ⟨_, rfl⟩
  rw [hans]
  have HANS := Lib.hid hans
  have HW := Lib.hid (rfl : d.W.length = d.W.length)
  have HIN := Lib.hid hi
  generalize hS0 : d.S.getD i ByteArray.empty = s0 at HSEC HS64
  have HS0 := Lib.hid hS0
  have HI72 := Lib.hid size72
  obtain ⟨n, hn⟩ : ∃ n, d.S.length = n := ⟨_, rfl⟩
  rw [hn] at c0 hi hn2
  obtain ⟨m, hm⟩ : ∃ m, d.W.length = m := ⟨_, rfl⟩
  rw [hm] at c1 hw
  have HM := Lib.hid hm
  have HNN := Lib.hid hn
  have hin : (i : Int) < (n : Int) := by omega
  clear hI h hans hS0 hn hm HW
  go_enter Tryz.func208, Tryz.ntmps208
  go_wp2
  go_loop [5] (fun t => ∃ k : Int, -1 ≤ k ∧ k < m ∧ t = .int .i64 k ∧ Hid (sh d i (k + 1).toNat = ans)) (fun t => (intOf t + 1).toNat)
  case atStart => exact ⟨_, by omega, by omega, rfl, by
    unfold Hid
    rw [show ((m : Int) - 1 + 1).toNat = m by omega, ← HM.out]; exact HANS.out⟩
  case round =>
    obtain ⟨k, hk1, hk2, rfl, HK⟩ := hrel
    by_cases hneg : k = -1
    · subst hneg
      have HK' : Hid (s0 = ans) := by
        unfold Hid
        have := HK.out
        rw [show ((-1 : Int) + 1).toNat = 0 by rfl] at this
        rw [← this, ← HS0.out]; rfl
      have HT := Lib.hid (text36 s0 HS64.out w)
      have HL : Hid ((secC s0).length = 64) := by unfold Hid; rw [secC_len]; exact HS64.out
      generalize secC s0 = X at HSEC HT HL
      clear hk1 hk2 HK
      go_wp2_with (first | (refine wpList_load_mid rfl 144 _ rfl g (i * 64) rfl X _ HSEC.out Tryz.underlying144 rfl (by rw [HL.out]; exact HI72.out) ?_) | (go_at_call 217; refine HT.out.mono ?_; rintro e w' ⟨rfl, hb⟩))
      go_ret
      exact ⟨by rw [HK'.out]; rfl, hb⟩
    · obtain ⟨j, rfl⟩ : ∃ j : Nat, k = (j : Int) := ⟨k.toNat, by omega⟩
      have hjm : j < m := by omega
      have hj' : j < d.W.length := by rw [HM.out]; exact hjm
      have h0m : 0 < d.W.length := by omega
      obtain ⟨gp, cp', hv⟩ := row_some HI.out.o2 h0m
      injection hv with hv1 hv2 hv3
      subst hv1
      have hpen := HI.out.pen rfl HOK.out hj'
      have hc := range_head hpen
      have HR := Lib.hid (range_tail hpen)
      have HPS : Hid ((pw d.W j).2.size = 64) := (HOK.out.w64 _ (pw_mem hj')).2
      have HK2 : Hid ((if (pw d.W j).1 = i then (pw d.W j).2 else sh d i j) = ans) := by
        have := HK.out
        rw [show ((j : Int) + 1).toNat = j + 1 by omega] at this
        exact this
      obtain ⟨⟨pi, ps⟩, hpw⟩ : ∃ p, pw d.W j = p := ⟨_, rfl⟩
      rw [hpw] at hc HR HPS HK2
      have hc : w.cell? ⟨gp, j * 65, none⟩ = some (.int .i64 (pi : Int)) := hc
      clear hpen hpw hj' h0m HK hv2 hv3
      by_cases heq : pi = i
      · have e1 : ((pi : Int) == (i : Int)) = true := by rw [heq]; simp
        have HK3 : Hid (ps = ans) := by
          have := HK2.out
          rw [if_pos heq] at this
          exact this
        have HT := Lib.hid (text36 ps HPS.out w)
        have HL : Hid ((secC ps).length = 64) := by unfold Hid; rw [secC_len]; exact HPS.out
        have HR : Hid (w.rangeAt gp (j * 65 + 1) (secC ps)) := HR
        generalize secC ps = X at HR HT HL
        clear HK2 heq
        go_wp2_with (first | (refine wpList_load_mid rfl 144 _ rfl gp (j * 65 + 1) rfl X _ HR.out Tryz.underlying144 rfl (by rw [HL.out]; exact HI72.out) ?_) | (go_at_call 217; refine HT.out.mono ?_; rintro e w' ⟨rfl, hb⟩))
        go_ret
        exact ⟨by rw [HK3.out]; rfl, hb⟩
      · have e1 : ((pi : Int) == (i : Int)) = false := by rw [beq_eq_false_iff_ne]; omega
        have HK3 : Hid (sh d i j = ans) := by
          have := HK2.out
          rw [if_neg heq] at this
          exact this
        clear HK2 heq
        go_wp2
        go_round
        case rel => exact ⟨(j : Int) - 1, by omega, by omega, rfl, by
          unfold Hid
          rw [show ((j : Int) - 1 + 1).toNat = j by omega]; exact HK3.out⟩
        case measure => simp [intOf]

set_option maxRecDepth 100000 in
set_option maxHeartbeats 1000000 in
theorem read22 {F : Nat → Prop} {b : Nat} {d : D} {w : World} (h : PAt w F b d) (i : Int) (hw : d.W.length ≤ 1000000) :
    Calls Tryz.prog 193 #[.pointer (some ⟨b, 0, none⟩), .int .i64 i] w fun e w' => e = .returned (.tuple #[.string (readS d i), .int .i64 (readE d i)]) ∧ Below w.heap.size w w' := by
  have HE := Lib.hid (exists26 h)
  have HH := Lib.hid (has35 h i)
  obtain ⟨ans, hans⟩ : ∃ ans, readS d i = ans := ⟨_, rfl⟩
  obtain ⟨er, her⟩ : ∃ er, readE d i = er := ⟨_, rfl⟩
  rw [hans, her]
  have HANS := Lib.hid hans
  have HER := Lib.hid her
  obtain ⟨g, c, v, hI⟩ := h.is
  have c3 := hI.c3
  clear hans her hI
  cases hq : d.gone with
  | true =>
    rw [hq] at c3
    have e : ans = ByteArray.empty := by rw [← HANS.out]; simp [readS, hq]
    have e2 : er = 9 := by rw [← HER.out]; simp [readE, hq]
    subst e e2
    clear hq HANS HER h
    go_enter Tryz.func193, Tryz.ntmps193
    go_wp2_with (first | (go_at_call 80; refine HE.out.mono ?_; rintro e w' ⟨rfl, rfl⟩) | (go_at_call 207; refine HH.out.mono ?_; rintro e w' ⟨rfl, rfl⟩))
    go_ret2
    exact ⟨rfl, Below.refl _ _⟩
  | false =>
    rw [hq] at c3
    cases hb : hasB d i with
    | false =>
      rw [hb] at HH
      have e : ans = ByteArray.empty := by rw [← HANS.out]; simp [readS, hb]
      have e2 : er = 6 := by rw [← HER.out]; simp [readE, hq, hb]
      subst e e2
      clear hq hb HANS HER h
      go_enter Tryz.func193, Tryz.ntmps193
      go_wp2_with (first | (go_at_call 80; refine HE.out.mono ?_; rintro e w' ⟨rfl, rfl⟩) | (go_at_call 207; refine HH.out.mono ?_; rintro e w' ⟨rfl, rfl⟩))
      go_ret2
      exact ⟨rfl, Below.refl _ _⟩
    | true =>
      rw [hb] at HH
      have hr := hasB_iff.1 hb
      obtain ⟨k, rfl⟩ : ∃ k : Nat, i = (k : Int) := ⟨i.toNat, by omega⟩
      have hk : k < d.S.length := by omega
      have HV := Lib.hid (visible39 h k hk hw)
      have e : sh d k d.W.length = ans := by rw [← HANS.out]; simp [readS, hq, hb]
      have e2 : er = 0 := by rw [← HER.out]; simp [readE, hq, hb]
      subst e2
      rw [e] at HV
      clear hq hb HANS HER h e hr hk hw
      go_enter Tryz.func193, Tryz.ntmps193
      go_wp2_with (first | (go_at_call 80; refine HE.out.mono ?_; rintro e w' ⟨rfl, rfl⟩) | (go_at_call 207; refine HH.out.mono ?_; rintro e w' ⟨rfl, rfl⟩) | (go_at_call 208; refine HV.out.mono ?_; rintro e w' ⟨rfl, hb⟩))
      go_ret2
      exact ⟨rfl, hb⟩
end Go.Proofs.YtjanddnlhaionaaGreatDoor.L6
