/-
  A drum all of whose memory is new: the contracts again; the document's example. No condition.
-/
import Derived.Test.YtjanddnlhaionaaGreatDoorL6M
namespace Go.Proofs.YtjanddnlhaionaaGreatDoor.L6
open Go.RowKit

/-- A drum whose blocks all lie from w0's end on; nothing of w0 has turned. -/
def PN (w0 w : World) (b : Nat) (d : D) : Prop := ∃ F, PAt w F b d ∧ (∀ k, F k → w0.heap.size ≤ k) ∧ Below w0.heap.size w0 w
set_option maxRecDepth 100000 in
theorem PN.below {w0 w w' : World} {b : Nat} {d : D} (h : PN w0 w b d) (hb : Below w.heap.size w w') : PN w0 w' b d := by
  obtain ⟨F, hP, hF, hB⟩ := h
  exact ⟨F, hP.below hb, hF, hB.trans (hb.mono hB.size)⟩
set_option maxRecDepth 100000 in
theorem PN.old {w0 w : World} {b : Nat} {d : D} (h : PN w0 w b d) : Below w0.heap.size w0 w := by
  obtain ⟨F, _, _, hB⟩ := h
  exact hB
set_option maxRecDepth 100000 in
theorem PN.ok {w0 w : World} {b : Nat} {d : D} (h : PN w0 w b d) : Ok d := by
  obtain ⟨F, hP, _, _⟩ := h
  exact hP.ok
set_option maxRecDepth 100000 in
theorem PN.turn {w0 w w' : World} {F : Nat → Prop} {b : Nat} {d' : D} (hF : ∀ k, F k → w0.heap.size ≤ k) (hB : Below w0.heap.size w0 w) (hP : PAt w' F b d') (hT : Turn F w w') : PN w0 w' b d' :=
  ⟨F, hP, hF, hB.trans (hT.below _ hB.size hF)⟩
set_option maxRecDepth 100000 in
theorem PN.turnUp {w0 w w' : World} {F : Nat → Prop} {b : Nat} {d' : D} (hF : ∀ k, F k → w0.heap.size ≤ k) (hB : Below w0.heap.size w0 w) (hP : PAt w' (Up F w w') b d') (hT : Turn F w w') : PN w0 w' b d' :=
  ⟨_, hP, fun k hk => by rcases hk with h | h; exact hF k h; exact Nat.le_trans hB.size h.1, hB.trans (hT.below _ hB.size hF)⟩

set_option maxRecDepth 100000 in
theorem newN (n : Nat) (h1 : 1 ≤ n) (h2 : n ≤ 4096) (w : World) :
    Calls Tryz.prog 28 #[.int .i64 (n : Int)] w fun e w' => ∃ b, e = .returned (.tuple #[.pointer (some ⟨b, 0, none⟩), .int .i64 0]) ∧ PN w w' b (newD n) :=
  (new9 n h1 h2 w).mono fun _ _ ⟨he, hP, hB⟩ => ⟨_, he, _, hP, fun _ hk => hk.1, hB⟩
set_option maxRecDepth 100000 in
theorem writeN {w0 w : World} {b : Nat} {d : D} (h : PN w0 w b d) (i : Int) (s : ByteArray) (hw : d.W.length ≤ 1000000) :
    Calls Tryz.prog 199 #[.pointer (some ⟨b, 0, none⟩), .int .i64 i, .string s] w fun e w' => e = .returned (.int .i64 (writeE d i s)) ∧ PN w0 w' b (writeD d i s) := by
  obtain ⟨F, hP, hF, hB⟩ := h
  exact (write18 hP i s hw).mono fun _ _ ⟨he, hP', hT⟩ => ⟨he, PN.turnUp hF hB hP' hT⟩
set_option maxRecDepth 100000 in
theorem settleN {w0 w : World} {b : Nat} {d : D} (h : PN w0 w b d) (hw : d.W.length ≤ 1000000) :
    Calls Tryz.prog 201 #[.pointer (some ⟨b, 0, none⟩)] w fun e w' => e = .returned (.int .i64 (settleE d)) ∧ PN w0 w' b (settleD d) := by
  obtain ⟨F, hP, hF, hB⟩ := h
  exact (settle21 hP hw).mono fun _ _ ⟨he, hP', hT⟩ => ⟨he, PN.turn hF hB hP' hT⟩
set_option maxRecDepth 100000 in
theorem armN {w0 w : World} {b : Nat} {d : D} (h : PN w0 w b d) (n : Int) (hn : n ≤ 9223372036854775807) :
    Calls Tryz.prog 37 #[.pointer (some ⟨b, 0, none⟩), .int .i64 n] w fun e w' => e = .returned (.int .i64 (armE d n)) ∧ PN w0 w' b (armD d n) := by
  obtain ⟨F, hP, hF, hB⟩ := h
  exact (arm23 hP n hn).mono fun _ _ ⟨he, hP', hT, _⟩ => ⟨he, PN.turn hF hB hP' hT⟩
set_option maxRecDepth 100000 in
theorem crashN {w0 w : World} {b : Nat} {d : D} (h : PN w0 w b d) (hw : d.W.length ≤ 1000000) (l : List Int) (lv : Value) (hl : IntsAt w w.heap.size lv l) (hll : l.length ≤ 1000000) :
    Calls Tryz.prog 36 #[.pointer (some ⟨b, 0, none⟩), lv] w fun e w' => e = .returned (.int .i64 0) ∧ PN w0 w' b (crashD d l) := by
  obtain ⟨F, hP, hF, hB⟩ := h
  exact (crash16 hP hw l lv hl hll).mono fun _ _ ⟨he, hP', hT⟩ => ⟨he, PN.turn hF hB hP' hT⟩
set_option maxRecDepth 100000 in
theorem readN {w0 w : World} {b : Nat} {d : D} (h : PN w0 w b d) (i : Int) (hw : d.W.length ≤ 1000000) :
    Calls Tryz.prog 193 #[.pointer (some ⟨b, 0, none⟩), .int .i64 i] w fun e w' => e = .returned (.tuple #[.string (readS d i), .int .i64 (readE d i)]) ∧ PN w0 w' b d ∧ Below w.heap.size w w' := by
  have hN := h
  obtain ⟨F, hP, hF, hB⟩ := h
  exact (read22 hP i hw).mono fun _ _ ⟨he, hb⟩ => ⟨he, hN.below hb, hb⟩
end Go.Proofs.YtjanddnlhaionaaGreatDoor.L6
