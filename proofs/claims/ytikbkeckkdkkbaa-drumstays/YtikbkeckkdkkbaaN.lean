/-
  A drum all of whose memory is new: the contracts again; the document's example. No condition.
-/
import Derived.Test.YtikbkeckkdkkbaaM
namespace Go.Proofs.Ytikbkeckkdkkbaa
open Go.RowKit

/-- A drum whose blocks all lie from w0's end on; nothing of w0 has turned. -/
def PN (w0 w : World) (b : Nat) (d : D) : Prop := ∃ F, PAt w F b d ∧ (∀ k, F k → w0.heap.size ≤ k) ∧ Below w0.heap.size w0 w
theorem PN.below {w0 w w' : World} {b : Nat} {d : D} (h : PN w0 w b d) (hb : Below w.heap.size w w') : PN w0 w' b d := by
  obtain ⟨F, hP, hF, hB⟩ := h
  exact ⟨F, hP.below hb, hF, hB.trans (hb.mono hB.size)⟩
theorem PN.old {w0 w : World} {b : Nat} {d : D} (h : PN w0 w b d) : Below w0.heap.size w0 w := by
  obtain ⟨F, _, _, hB⟩ := h
  exact hB
theorem PN.ok {w0 w : World} {b : Nat} {d : D} (h : PN w0 w b d) : Ok d := by
  obtain ⟨F, hP, _, _⟩ := h
  exact hP.ok
theorem PN.turn {w0 w w' : World} {F : Nat → Prop} {b : Nat} {d' : D} (hF : ∀ k, F k → w0.heap.size ≤ k) (hB : Below w0.heap.size w0 w) (hP : PAt w' F b d') (hT : Turn F w w') : PN w0 w' b d' :=
  ⟨F, hP, hF, hB.trans (hT.below _ hB.size hF)⟩
theorem PN.turnUp {w0 w w' : World} {F : Nat → Prop} {b : Nat} {d' : D} (hF : ∀ k, F k → w0.heap.size ≤ k) (hB : Below w0.heap.size w0 w) (hP : PAt w' (Up F w w') b d') (hT : Turn F w w') : PN w0 w' b d' :=
  ⟨_, hP, fun k hk => by rcases hk with h | h; exact hF k h; exact Nat.le_trans hB.size h.1, hB.trans (hT.below _ hB.size hF)⟩

theorem newN (n : Nat) (h1 : 1 ≤ n) (h2 : n ≤ 4096) (w : World) :
    Calls Try.prog 9 #[.int .i64 (n : Int)] w fun e w' => ∃ b, e = .returned (.tuple #[.pointer (some ⟨b, 0, none⟩), .int .i64 0]) ∧ PN w w' b (newD n) :=
  (new9 n h1 h2 w).mono fun _ _ ⟨he, hP, hB⟩ => ⟨_, he, _, hP, fun _ hk => hk.1, hB⟩
theorem writeN {w0 w : World} {b : Nat} {d : D} (h : PN w0 w b d) (i : Int) (s : ByteArray) (hw : d.W.length ≤ 1000000) :
    Calls Try.prog 18 #[.pointer (some ⟨b, 0, none⟩), .int .i64 i, .string s] w fun e w' => e = .returned (.int .i64 (writeE d i s)) ∧ PN w0 w' b (writeD d i s) := by
  obtain ⟨F, hP, hF, hB⟩ := h
  exact (write18 hP i s hw).mono fun _ _ ⟨he, hP', hT⟩ => ⟨he, PN.turnUp hF hB hP' hT⟩
theorem settleN {w0 w : World} {b : Nat} {d : D} (h : PN w0 w b d) (hw : d.W.length ≤ 1000000) :
    Calls Try.prog 21 #[.pointer (some ⟨b, 0, none⟩)] w fun e w' => e = .returned (.int .i64 (settleE d)) ∧ PN w0 w' b (settleD d) := by
  obtain ⟨F, hP, hF, hB⟩ := h
  exact (settle21 hP hw).mono fun _ _ ⟨he, hP', hT⟩ => ⟨he, PN.turn hF hB hP' hT⟩
theorem armN {w0 w : World} {b : Nat} {d : D} (h : PN w0 w b d) (n : Int) (hn : n ≤ 9223372036854775807) :
    Calls Try.prog 23 #[.pointer (some ⟨b, 0, none⟩), .int .i64 n] w fun e w' => e = .returned (.int .i64 (armE d n)) ∧ PN w0 w' b (armD d n) := by
  obtain ⟨F, hP, hF, hB⟩ := h
  exact (arm23 hP n hn).mono fun _ _ ⟨he, hP', hT, _⟩ => ⟨he, PN.turn hF hB hP' hT⟩
theorem crashN {w0 w : World} {b : Nat} {d : D} (h : PN w0 w b d) (hw : d.W.length ≤ 1000000) (l : List Int) (lv : Value) (hl : IntsAt w w.heap.size lv l) (hll : l.length ≤ 1000000) :
    Calls Try.prog 16 #[.pointer (some ⟨b, 0, none⟩), lv] w fun e w' => e = .returned (.int .i64 0) ∧ PN w0 w' b (crashD d l) := by
  obtain ⟨F, hP, hF, hB⟩ := h
  exact (crash16 hP hw l lv hl hll).mono fun _ _ ⟨he, hP', hT⟩ => ⟨he, PN.turn hF hB hP' hT⟩
theorem readN {w0 w : World} {b : Nat} {d : D} (h : PN w0 w b d) (i : Int) (hw : d.W.length ≤ 1000000) :
    Calls Try.prog 22 #[.pointer (some ⟨b, 0, none⟩), .int .i64 i] w fun e w' => e = .returned (.tuple #[.string (readS d i), .int .i64 (readE d i)]) ∧ PN w0 w' b d ∧ Below w.heap.size w w' := by
  have hN := h
  obtain ⟨F, hP, hF, hB⟩ := h
  exact (read22 hP i hw).mono fun _ _ ⟨he, hb⟩ => ⟨he, hN.below hb, hb⟩
theorem sureN {w0 w : World} {b : Nat} {d : D} (h : PN w0 w b d) (i : Int) :
    Calls Try.prog 17 #[.pointer (some ⟨b, 0, none⟩), .int .i64 i] w fun e w' => e = .returned (.string (sureS d i)) ∧ PN w0 w' b d ∧ Below w.heap.size w w' := by
  have hN := h
  obtain ⟨F, hP, hF, hB⟩ := h
  exact (sure17 hP i).mono fun _ _ ⟨he, hb⟩ => ⟨he, hN.below hb, hb⟩
theorem looseN {w0 w : World} {b : Nat} {d : D} (h : PN w0 w b d) :
    Calls Try.prog 20 #[.pointer (some ⟨b, 0, none⟩)] w fun e w' => e = .returned (.int .i64 (d.W.length : Int)) ∧ w = w' := by
  obtain ⟨F, hP, hF, hB⟩ := h
  exact loose20 hP
theorem downN {w0 w : World} {b : Nat} {d : D} (h : PN w0 w b d) :
    Calls Try.prog 24 #[.pointer (some ⟨b, 0, none⟩)] w fun e w' => e = .returned (.bool d.gone) ∧ w = w' := by
  obtain ⟨F, hP, hF, hB⟩ := h
  exact down24 hP

/-! ### The example, plain -/
def exD (sa sb sc : ByteArray) : D := ⟨[z64, z64], [(0, sa), (0, sb), (1, sc)], -1, false⟩
theorem ex1 (sa : ByteArray) (ha : sa.size = 64) : writeE (newD 2) 0 sa = 0 ∧ writeD (newD 2) 0 sa = ⟨[z64, z64], [(0, sa)], -1, false⟩ := by
  simp [writeE, writeD, writeOk, hasB, newD, burn, ha, List.replicate]
theorem ex2 (sa sb : ByteArray) (hb : sb.size = 64) : writeE ⟨[z64, z64], [(0, sa)], -1, false⟩ 0 sb = 0 ∧ writeD ⟨[z64, z64], [(0, sa)], -1, false⟩ 0 sb = ⟨[z64, z64], [(0, sa), (0, sb)], -1, false⟩ := by
  simp [writeE, writeD, writeOk, hasB, burn, hb]
theorem ex3 (sa sb sc : ByteArray) (hc : sc.size = 64) : writeE ⟨[z64, z64], [(0, sa), (0, sb)], -1, false⟩ 1 sc = 0 ∧ writeD ⟨[z64, z64], [(0, sa), (0, sb)], -1, false⟩ 1 sc = exD sa sb sc := by
  simp [writeE, writeD, writeOk, hasB, burn, hc, exD]
theorem ex4 (sa sb sc : ByteArray) : crashD (exD sa sb sc) [0, 2] = ⟨[sa, sc], [], -1, false⟩ := by
  simp [crashD, exD, ap, keepF, pw]
theorem ex5 (sa sc : ByteArray) : readS ⟨[sa, sc], [], -1, false⟩ 0 = sa ∧ readE ⟨[sa, sc], [], -1, false⟩ 0 = 0 ∧ readS ⟨[sa, sc], [], -1, false⟩ 1 = sc ∧ readE ⟨[sa, sc], [], -1, false⟩ 1 = 0 := by
  simp [readS, readE, hasB, sh]

theorem ints_lit (w : World) (l : List Int) : IntsAt (w.alloc (.cells (l.map (Value.int .i64)).toArray 3)) (w.heap.size + 1) (.slice (some ⟨w.heap.size, 0, none⟩) l.length l.length) l := by
  refine ⟨_, _, rfl, fun _ => ⟨w.heap.size, 0, rfl, by omega, fun i hi => ?_⟩⟩
  rw [Nat.zero_add]
  exact cell_row (heap_alloc_new w _) (by simp [hi])

set_option maxRecDepth 100000 in
set_option maxHeartbeats 1000000 in
theorem lives8 (w : World) : Calls Try.prog 8 #[] w fun e w' => e = .returned (.bool true) ∧ Below w.heap.size w w' := by
  have HN : Hid (Calls Try.prog 9 #[.int .i64 2] w fun e w' => ∃ b, e = .returned (.tuple #[.pointer (some ⟨b, 0, none⟩), .int .i64 0]) ∧ PN w w' b (newD 2)) := newN 2 (by omega) (by omega) w
  have HA := Lib.hid (padS_size ⟨#[97]⟩)
  have HB := Lib.hid (padS_size ⟨#[98]⟩)
  have HC := Lib.hid (padS_size ⟨#[99]⟩)
  have KA := Lib.hid (sector19 ⟨#[97]⟩)
  have KB := Lib.hid (sector19 ⟨#[98]⟩)
  have KC := Lib.hid (sector19 ⟨#[99]⟩)
  generalize padS ⟨#[97]⟩ = sa at HA KA
  generalize padS ⟨#[98]⟩ = sb at HB KB
  generalize padS ⟨#[99]⟩ = sc at HC KC
  go_enter Try.func8, Try.ntmps8
  go_wp2_with fail
  refine HN.out.mono ?_
  rintro e w1 ⟨b, rfl, hP⟩
  have H1 := Lib.hid hP
  clear hP HN
  go_wp2_with fail
  refine (KA.out _).mono ?_
  rintro e w2 ⟨rfl, hb⟩
  have H2 := Lib.hid (writeN (H1.out.below hb) 0 sa (by simp [newD]))
  rw [(ex1 sa HA.out).1, (ex1 sa HA.out).2] at H2
  clear hb H1
  go_wp2_with fail
  refine H2.out.mono ?_
  rintro e w3 ⟨rfl, hP⟩
  have H3 := Lib.hid hP
  clear hP H2
  go_wp2_with fail
  refine (KB.out _).mono ?_
  rintro e w4 ⟨rfl, hb⟩
  have H4 := Lib.hid (writeN (H3.out.below hb) 0 sb (by simp))
  rw [(ex2 sa sb HB.out).1, (ex2 sa sb HB.out).2] at H4
  clear hb H3
  go_wp2_with fail
  refine H4.out.mono ?_
  rintro e w5 ⟨rfl, hP⟩
  have H5 := Lib.hid hP
  clear hP H4
  go_wp2_with fail
  refine (KC.out _).mono ?_
  rintro e w6 ⟨rfl, hb⟩
  have H6 := Lib.hid (writeN (H5.out.below hb) 1 sc (by simp))
  rw [(ex3 sa sb sc HC.out).1, (ex3 sa sb sc HC.out).2] at H6
  clear hb H5
  go_wp2_with fail
  refine H6.out.mono ?_
  rintro e w7 ⟨rfl, hP⟩
  have L7 : Hid (Calls Try.prog 20 #[.pointer (some ⟨b, 0, none⟩)] w7 fun e w' => e = .returned (.int .i64 3) ∧ w7 = w') := looseN hP
  have H8 := Lib.hid (crashN (hP.below (w' := w7.alloc (.cells #[.int .i64 0, .int .i64 2] 3)) ((Below.refl _ _).alloc (Nat.le_refl _) _)) (by simp [exD]) [0, 2] _ (by have := ints_lit w7 [0, 2]; simpa using this) (by simp))
  rw [ex4] at H8
  clear hP H6
  go_wp2_with fail
  refine L7.out.mono ?_
  rintro e w' ⟨rfl, rfl⟩
  clear L7
  go_wp2_with fail
  refine H8.out.mono ?_
  rintro e w9 ⟨rfl, hP⟩
  have R0 := Lib.hid (readN hP 0 (by simp))
  rw [(ex5 sa sc).1, (ex5 sa sc).2.1] at R0
  clear hP H8
  go_wp2_with fail
  refine R0.out.mono ?_
  rintro e w10 ⟨rfl, hP, -⟩
  have R1 := Lib.hid (readN hP 1 (by simp))
  rw [(ex5 sa sc).2.2.1, (ex5 sa sc).2.2.2] at R1
  clear hP R0
  go_wp2_with fail
  refine R1.out.mono ?_
  rintro e w11 ⟨rfl, hP, -⟩
  have H11 := Lib.hid hP
  clear hP R1
  go_wp2_with fail
  refine (KA.out _).mono ?_
  rintro e w12 ⟨rfl, hb⟩
  have H12 := Lib.hid (H11.out.below hb)
  clear hb H11
  go_wp2_with fail
  refine (KC.out _).mono ?_
  rintro e w13 ⟨rfl, hb⟩
  have H13 := Lib.hid (H12.out.below hb)
  have L13 : Hid (Calls Try.prog 20 #[.pointer (some ⟨b, 0, none⟩)] w13 fun e w' => e = .returned (.int .i64 0) ∧ w13 = w') := looseN H13.out
  clear hb H12
  go_wp2_with fail
  refine L13.out.mono ?_
  rintro e w' ⟨rfl, rfl⟩
  go_wp2
  go_ret
  exact ⟨rfl, H13.out.old⟩
end Go.Proofs.Ytikbkeckkdkkbaa
