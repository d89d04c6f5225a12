/-
  The walk of DrumPlays. No condition.
-/
import Derived.Test.YtikbkeckkdkkbaaSD
namespace Go.Proofs.Ytikbkeckkdkkbaa
open Go.RowKit

/-- Two pairs of drums, apart. -/
structure Duo (w0 w : World) (b r c q : Nat) (d e : D) : Prop where
  ex : ∃ F G, Both w F b r d ∧ Both w G c q e ∧ (∀ k, F k → ¬ G k) ∧ (∀ k, F k → w0.heap.size ≤ k) ∧ (∀ k, G k → w0.heap.size ≤ k)
  old : Below w0.heap.size w0 w
theorem Duo.below {w0 w w' : World} {b r c q : Nat} {d e : D} (h : Duo w0 w b r c q d e) (hb : Below w.heap.size w w') : Duo w0 w' b r c q d e := by
  obtain ⟨F, G, h1, h2, h3, h4, h5⟩ := h.ex
  exact ⟨⟨F, G, h1.below hb, h2.below hb, h3, h4, h5⟩, h.old.trans (hb.mono h.old.size)⟩
theorem Duo.step {w0 w : World} {b r c q : Nat} {d e : D} (h : Duo w0 w b r c q d e) (a : Ac) (hl : IntsAt w w0.heap.size a.v a.keep) (hll : a.keep.length ≤ 200) (hw : d.W.length ≤ 1000) (htop : a.i ≤ 9223372036854775807) :
    Calls Try.prog 13 #[.pointer (some ⟨b, 0, none⟩), .pointer (some ⟨r, 0, none⟩), .agg #[.int .i64 a.k, .int .i64 a.i, .string a.s, a.v]] w fun e' w' => e' = .returned (.bool true) ∧ Duo w0 w' b r c q (stepD d a) e := by
  obtain ⟨F, G, h1, h2, h3, h4, h5⟩ := h.ex
  refine (step13 h1 a w0.heap.size h.old.size h4 hl hll hw htop).mono fun e w' ⟨he, hB', hT⟩ => ⟨he, ⟨_, G, hB', h2.keep hT (fun k hk hk' => h3 k hk' hk), fun k hk hk2 => ?_, fun k hk => ?_, h5⟩, h.old.trans (hT.below _ h.old.size h4)⟩
  · rcases hk with hk | hk
    · exact h3 k hk hk2
    · have := h2.flt k hk2; omega
  · rcases hk with hk | hk
    · exact h4 k hk
    · exact Nat.le_trans h.old.size hk.1
theorem Duo.alikeA {w0 w : World} {b r c q : Nat} {d e : D} (h : Duo w0 w b r c q d e) (hw : d.W.length ≤ 1000) :
    Calls Try.prog 14 #[.pointer (some ⟨b, 0, none⟩), .pointer (some ⟨r, 0, none⟩)] w fun e' w' => e' = .returned (.bool true) ∧ Duo w0 w' b r c q d e := by
  obtain ⟨F, G, h1, _⟩ := h.ex
  exact (alike14 h1 hw).mono fun _ _ ⟨he, hb⟩ => ⟨he, h.below hb⟩
theorem Duo.alikeB {w0 w : World} {b r c q : Nat} {d e : D} (h : Duo w0 w b r c q d e) (hw : e.W.length ≤ 1000) :
    Calls Try.prog 14 #[.pointer (some ⟨c, 0, none⟩), .pointer (some ⟨q, 0, none⟩)] w fun e' w' => e' = .returned (.bool true) ∧ Below w0.heap.size w0 w' := by
  obtain ⟨F, G, h1, h2, _⟩ := h.ex
  exact (alike14 h2 hw).mono fun _ _ ⟨he, hb⟩ => ⟨he, h.old.trans (hb.mono h.old.size)⟩
/-- A copy of the first pair. -/
theorem Duo.copied {w0 w w1 w2 : World} {F : Nat → Prop} {b r c q : Nat} {d : D} (h : Both w F b r d) (hF : ∀ k, F k → w0.heap.size ≤ k) (ho : Below w0.heap.size w0 w)
    (hP : PAt w1 (New w w1) c d) (hB1 : Below w.heap.size w w1) (hR : RAt w2 (New w1 w2) q d) (hB2 : Below w1.heap.size w1 w2) : Duo w0 w2 b r c q d d := by
  have hB : Below w.heap.size w w2 := hB1.trans (hB2.mono hB1.size)
  refine ⟨⟨F, New w w2, h.below hB, Both.made hP hB1 hR hB2, fun k hk hk2 => ?_, hF, fun k hk => Nat.le_trans ho.size hk.1⟩, ho.trans (hB.mono ho.size)⟩
  have := h.flt k hk
  have := hk2.1
  omega
/-- The first pair alone. -/
structure Uno (w0 w : World) (b r : Nat) (d : D) : Prop where
  ex : ∃ F, Both w F b r d ∧ ∀ k, F k → w0.heap.size ≤ k
  old : Below w0.heap.size w0 w
theorem Duo.uno {w0 w : World} {b r c q : Nat} {d e : D} (h : Duo w0 w b r c q d e) : Uno w0 w b r d := by
  obtain ⟨F, G, h1, h2, h3, h4, h5⟩ := h.ex
  exact ⟨⟨F, h1, h4⟩, h.old⟩
theorem Uno.copy {w0 w : World} {b r : Nat} {d : D} (h : Uno w0 w b r d) (hw : d.W.length ≤ 1000) :
    Calls Try.prog 11 #[.pointer (some ⟨b, 0, none⟩)] w fun e w1 => ∃ c, e = .returned (.pointer (some ⟨c, 0, none⟩)) ∧
      Calls Try.prog 12 #[.pointer (some ⟨r, 0, none⟩)] w1 fun e w2 => ∃ q, e = .returned (.pointer (some ⟨q, 0, none⟩)) ∧ Duo w0 w2 b r c q d d := by
  obtain ⟨F, hB, hF⟩ := h.ex
  obtain ⟨⟨F1, hP⟩, ⟨F2, hR⟩⟩ := hB.parts
  refine (copy11 hP (by omega)).mono fun e w1 ⟨he, hP1, hB1⟩ => ⟨_, he, ?_⟩
  exact (refCopy12 (hR.below hB1) (by omega)).mono fun e w2 ⟨q, he2, hR2, hB2⟩ => ⟨q, he2, Duo.copied hB hF h.old hP1 hB1 hR2 hB2⟩

set_option maxRecDepth 100000 in
set_option maxHeartbeats 1000000 in
theorem plays3_lives (L : List Ac) (lv : Value) (n : Int) (w : World) (hL : AcsAt w w.heap.size lv L) (hx : fewB L = false ∨ n < 1 ∨ 4096 < n) :
    Calls Try.prog 3 #[.int .i64 n, lv] w fun e w' => e = .returned (.bool true) ∧ Below w.heap.size w w' := by
  have HF := Lib.hid (few7 L lv w _ hL)
  have HLV := Lib.hid (lives8 w)
  obtain ⟨a, c, rfl, -⟩ := hL
  cases hf : fewB L with
  | false =>
    rw [hf] at HF
    clear hf hx
    go_enter Try.func3, Try.ntmps3
    go_wp2_with (first | (go_at_call 7; refine HF.out.mono ?_; rintro e w' ⟨rfl, rfl⟩) | (go_at_call 8; refine HLV.out.mono ?_; rintro e w' ⟨rfl, hb⟩))
    go_ret
    exact ⟨rfl, hb⟩
  | true =>
    rw [hf] at HF
    have hx : n < 1 ∨ 4096 < n := by
      rcases hx with h | h
      · rw [hf] at h; cases h
      · exact h
    have HN := Lib.hid (new9_no n hx w)
    have HR := Lib.hid (refNew10_no n hx w)
    clear hf hx
    go_enter Try.func3, Try.ntmps3
    go_wp2_with (first | (go_at_call 7; refine HF.out.mono ?_; rintro e w' ⟨rfl, rfl⟩) | (go_at_call 8; refine HLV.out.mono ?_; rintro e w' ⟨rfl, hb⟩) | (go_at_call 9; refine HN.out.mono ?_; rintro e w' ⟨rfl, rfl⟩) | (go_at_call 10; refine HR.out.mono ?_; rintro e w' ⟨rfl, rfl⟩))
    go_ret
    exact ⟨rfl, hb⟩

set_option maxRecDepth 100000 in
set_option maxHeartbeats 2000000 in
theorem plays3_go (L : List Ac) (lv : Value) (n : Nat) (w : World) (hL : AcsAt w w.heap.size lv L) (hf : fewB L = true) (h1 : 1 ≤ n) (h2 : n ≤ 4096) :
    Calls Try.prog 3 #[.int .i64 (n : Int), lv] w fun e w' => e = .returned (.bool true) ∧ Below w.heap.size w w' := by
  have HF := Lib.hid (few7 L lv w _ hL)
  rw [hf] at HF
  have HL := Lib.hid hL
  obtain ⟨a, c, rfl, -⟩ := hL
  have hfew := fewB_iff.1 hf
  have HFEW := Lib.hid hfew.2
  have h150 := hfew.1
  have HN6 := Lib.hid (new9 n h1 h2 w)
  have HR6 : Hid (∀ W, Calls Try.prog 10 #[.int .i64 (n : Int)] W fun e w' => e = .returned (.tuple #[.pointer (some ⟨W.heap.size, 0, none⟩), .int .i64 0]) ∧ RAt w' (New W w') W.heap.size (newD n) ∧ Below W.heap.size W w') := fun W => refNew10 n h1 h2 W
  obtain ⟨ln, hn⟩ : ∃ ln, L.length = ln := ⟨_, rfl⟩
  have HN := Lib.hid hn
  rw [hn] at h150 HF
  rw [hn]
  generalize hb : w.heap.size + 1 = b at HN6
  clear hf hfew hn hb
  go_enter Try.func3, Try.ntmps3
  go_wp2_with fail
  refine HF.out.mono ?_
  rintro e w' ⟨rfl, rfl⟩
  go_wp2_with fail
  refine HN6.out.mono ?_
  rintro e w1 ⟨rfl, hP, hB1⟩
  have HP := Lib.hid hP
  have HB1 := Lib.hid hB1
  clear hP hB1 HN6 HF
  go_wp2_with fail
  refine (HR6.out _).mono ?_
  rintro e w2 ⟨rfl, hR, hB2⟩
  have HU : Hid (Uno w w2 b w1.heap.size (newD n)) := ⟨⟨_, Both.made HP.out HB1.out hR hB2, fun k hk => hk.1⟩, HB1.out.trans (hB2.mono HB1.out.size)⟩
  have HW0 : Hid ((newD n).W.length ≤ 0) := by unfold Hid; simp [newD]
  generalize newD n = d0 at HU HW0
  generalize w1.heap.size = r at HU ⊢
  have HCP := Lib.hid (HU.out.copy (by have := HW0.out; omega))
  clear hR hB2 HR6 HP HB1 h1 h2
  go_wp2_with fail
  refine HCP.out.mono ?_
  rintro e w3 ⟨cc, rfl, hC2⟩
  have HC2 := Lib.hid hC2
  clear hC2 HCP HU
  go_wp2_with fail
  refine HC2.out.mono ?_
  rintro e w4 ⟨qq, rfl, hD⟩
  have HD0 := Lib.hid hD
  clear hD HC2
  go_wp2
  go_loopw [9, 10, 11] (fun s9 s10 s11 wr => ∃ (k c q : Nat) (d e : D), k ≤ ln ∧ s11 = .int .i64 k ∧ s9 = .pointer (some ⟨c, 0, none⟩) ∧ s10 = .pointer (some ⟨q, 0, none⟩) ∧ Hid (Duo w wr b r c q d e) ∧ Hid (d.W.length ≤ k ∧ e.W.length ≤ k)) (fun _ _ s11 _ => ln - (intOf s11).toNat)
  case atStart => exact ⟨0, cc, qq, d0, d0, by omega, rfl, rfl, rfl, HD0, HW0.out, HW0.out⟩
  case round =>
    obtain ⟨k, c1, q1, d, e1, hk, rfl, rfl, rfl, HD, HWK⟩ := hrel
    have hwk1 : d.W.length ≤ k := HWK.out.1
    have hwk2 : e1.W.length ≤ k := HWK.out.2
    by_cases hlt : k < ln
    · have hk' : k < L.length := by rw [HN.out]; exact hlt
      -- the two ways: with a copy or without
      obtain ⟨a', c', hv, hcells⟩ := HL.out
      injection hv with f1 f2 f3
      subst f1
      obtain ⟨bb, oo, rfl, -, -⟩ := hcells (by omega)
      have HAT : Hid (∀ W, Below w.heap.size w W → AcAt W w.heap.size bb (oo + k * 4) L[k]) := by
        intro W hbW
        obtain ⟨a2, c2, hv2, hcells2⟩ := HL.out.below hbW
        injection hv2 with g1 g2 g3
        subst g1
        obtain ⟨b3, o3, g4, -, hc3⟩ := hcells2 (by omega)
        injection g4 with g4
        injection g4 with g5 g6
        subst g5 g6
        exact hc3 k hk'
      have HLK := Lib.hid (HFEW.out _ (List.getElem_mem hk')).2
      have HS2 : Hid ((stepD d L[k]).W.length ≤ k + 1) := by have := step_wlen d L[k]; unfold Hid; omega
      have HSTEP : Hid (∀ W c2 q2 e2, Duo w W b r c2 q2 d e2 → Calls Try.prog 13 #[.pointer (some ⟨b, 0, none⟩), .pointer (some ⟨r, 0, none⟩), .agg #[.int .i64 L[k].k, .int .i64 L[k].i, .string L[k].s, L[k].v]] W fun e' w' => e' = .returned (.bool true) ∧ Duo w w' b r c2 q2 (stepD d L[k]) e2) :=
        fun W c2 q2 e2 hD => hD.step L[k] (HAT.out W hD.old).ints HLK.out (by omega) (HAT.out W hD.old).top
      have HCELL : Hid (∀ W, Below w.heap.size w W → W.cell? ⟨bb, oo + k * 4, none⟩ = some (.int .i64 L[k].k) ∧ W.cell? ⟨bb, oo + k * 4 + 1, none⟩ = some (.int .i64 L[k].i) ∧ W.cell? ⟨bb, oo + k * 4 + 2, none⟩ = some (.string L[k].s) ∧ W.cell? ⟨bb, oo + k * 4 + 3, none⟩ = some L[k].v) := fun W hbW => ⟨(HAT.out W hbW).c0, (HAT.out W hbW).c1, (HAT.out W hbW).c2, (HAT.out W hbW).c3⟩
      have HCPY := Lib.hid (HD.out.uno.copy (by omega))
      generalize stepD d L[k] = d2 at HSTEP HS2
      generalize L[k].k = ak at HSTEP HCELL
      generalize L[k].i = ai at HSTEP HCELL
      generalize L[k].s = asx at HSTEP HCELL
      generalize L[k].v = av at HSTEP HCELL
      have HAL : Hid (∀ W c2 q2 e2, Duo w W b r c2 q2 d2 e2 → Calls Try.prog 14 #[.pointer (some ⟨b, 0, none⟩), .pointer (some ⟨r, 0, none⟩)] W fun e' w' => e' = .returned (.bool true) ∧ Duo w w' b r c2 q2 d2 e2) := fun W c2 q2 e2 hD => hD.alikeA (by have := HS2.out; omega)
      clear hcells f2 f3 hk' HAT HLK HWK
      by_cases hhalf : k = ln / 2
      · have th : ((k : Int) == (ln : Int) / 2) = true := by rw [beq_iff_eq]; omega
        clear hhalf
        go_wp2_with fail
        refine HCPY.out.mono ?_
        rintro e w5 ⟨c3, rfl, hC2⟩
        have HC2 := Lib.hid hC2
        clear hC2 HCPY HD
        go_wp2_with fail
        refine HC2.out.mono ?_
        rintro e w6 ⟨q3, rfl, hD⟩
        have HD6 := Lib.hid hD
        obtain ⟨x0, x1, x2, x3⟩ := HCELL.out _ hD.old
        clear hD HC2 HCELL
        go_wp2_with fail
        refine (HSTEP.out _ _ _ _ HD6.out).mono ?_
        rintro e w7 ⟨rfl, hD⟩
        have HD7 := Lib.hid hD
        clear hD HSTEP HD6
        by_cases h7 : k % 8 = 7
        · have t7 : ((k : Int) % 8 == 7) = true := by rw [beq_iff_eq]; omega
          clear h7
          go_wp2_with fail
          refine (HAL.out _ _ _ _ HD7.out).mono ?_
          rintro e w8 ⟨rfl, hD⟩
          have HD8 := Lib.hid hD
          clear hD HAL HD7
          go_wp2
          go_roundw
          case rel => exact ⟨k + 1, c3, q3, d2, d, by omega, by go_num, rfl, rfl, HD8, HS2.out, by omega⟩
          case measure => simp [intOf]; omega
        · have t7 : ((k : Int) % 8 == 7) = false := by rw [beq_eq_false_iff_ne]; omega
          clear HAL
          go_wp2
          go_roundw
          case rel => exact ⟨k + 1, c3, q3, d2, d, by omega, by go_num, rfl, rfl, HD7, HS2.out, by omega⟩
          case measure => simp [intOf]; omega
      · have th : ((k : Int) == (ln : Int) / 2) = false := by rw [beq_eq_false_iff_ne]; omega
        obtain ⟨x0, x1, x2, x3⟩ := HCELL.out _ HD.out.old
        clear HCELL HCPY
        go_wp2_with fail
        refine (HSTEP.out _ _ _ _ HD.out).mono ?_
        rintro e w7 ⟨rfl, hD⟩
        have HD7 := Lib.hid hD
        clear hD HSTEP HD
        by_cases h7 : k % 8 = 7
        · have t7 : ((k : Int) % 8 == 7) = true := by rw [beq_iff_eq]; omega
          clear h7
          go_wp2_with fail
          refine (HAL.out _ _ _ _ HD7.out).mono ?_
          rintro e w8 ⟨rfl, hD⟩
          have HD8 := Lib.hid hD
          clear hD HAL HD7
          go_wp2
          go_roundw
          case rel => exact ⟨k + 1, c1, q1, d2, e1, by omega, by go_num, rfl, rfl, HD8, HS2.out, by omega⟩
          case measure => simp [intOf]; omega
        · have t7 : ((k : Int) % 8 == 7) = false := by rw [beq_eq_false_iff_ne]; omega
          clear HAL
          go_wp2
          go_roundw
          case rel => exact ⟨k + 1, c1, q1, d2, e1, by omega, by go_num, rfl, rfl, HD7, HS2.out, by omega⟩
          case measure => simp [intOf]; omega
    · have HA := Lib.hid (HD.out.alikeA (by omega))
      have HBB : Hid (∀ W, Duo w W b r c1 q1 d e1 → Calls Try.prog 14 #[.pointer (some ⟨c1, 0, none⟩), .pointer (some ⟨q1, 0, none⟩)] W fun e' w' => e' = .returned (.bool true) ∧ Below w.heap.size w w') := fun W hD => hD.alikeB (by omega)
      clear HD
      go_wp2_with fail
      refine HA.out.mono ?_
      rintro e w5 ⟨rfl, hD⟩
      have HD5 := Lib.hid hD
      clear hD HA
      go_wp2_with fail
      refine (HBB.out _ HD5.out).mono ?_
      rintro e w6 ⟨rfl, hb⟩
      have HB6 := Lib.hid hb
      clear hb HBB HD5
      go_wp2_with fail
      refine (lives8 _).mono ?_
      rintro e w7 ⟨rfl, hb⟩
      have HB7 := Lib.hid (HB6.out.trans (hb.mono HB6.out.size))
      clear hb
      go_wp2
      go_ret
      exact ⟨rfl, HB7.out⟩

theorem plays3 (L : List Ac) (lv : Value) (n : Int) (w : World) (hL : AcsAt w w.heap.size lv L) :
    Calls Try.prog 3 #[.int .i64 n, lv] w fun e w' => e = .returned (.bool true) ∧ Below w.heap.size w w' := by
  by_cases hx : fewB L = false ∨ n < 1 ∨ 4096 < n
  · exact plays3_lives L lv n w hL hx
  · have h0 : fewB L = true := by
      cases h : fewB L with
      | true => rfl
      | false => exact absurd (.inl h) hx
    have h1 : ¬ n < 1 := fun h => hx (.inr (.inl h))
    have h2 : ¬ 4096 < n := fun h => hx (.inr (.inr h))
    obtain ⟨n', rfl⟩ : ∃ n' : Nat, n = (n' : Int) := ⟨n.toNat, by omega⟩
    exact plays3_go L lv n' w hL h0 (by omega) (by omega)
end Go.Proofs.Ytikbkeckkdkkbaa
