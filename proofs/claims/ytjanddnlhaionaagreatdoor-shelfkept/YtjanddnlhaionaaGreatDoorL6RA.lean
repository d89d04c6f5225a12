/-
  The document's drum in memory; contracts of its burnt, Arm, Sure, Shows, Read. No condition.
-/
import Derived.Test.YtjanddnlhaionaaGreatDoorL6N
namespace Go.Proofs.YtjanddnlhaionaaGreatDoor.L6
open Go.RowKit

def putC (p : Nat × ByteArray) : List Value := [.int .i64 (p.1 : Int), .string p.2]
def putCells (W : List (Nat × ByteArray)) : List Value := W.flatMap putC
def strs (S : List ByteArray) : List Value := S.map Value.string
structure RIs (w : World) (F : Nat → Prop) (b : Nat) (d : D) (v1 v2 : Value) : Prop where
  row : w.heap[b]? = some (.cells #[v1, v2, .int .i64 d.fuse, .bool d.gone] 123 (0, 0))
  o1 : w.ownsRow 0 9 1 v1 d.S.length (strs d.S)
  o2 : w.ownsRow 0 102 2 v2 d.W.length (putCells d.W)
  n1 : v1.ownBlock ≠ some b
  n2 : v2.ownBlock ≠ some b
  n12 : ∀ k, v1.ownBlock = some k → v2.ownBlock ≠ some k
  fb : F b
  f1 : ∀ k, v1.ownBlock = some k → F k
  f2 : ∀ k, v2.ownBlock = some k → F k
structure RW (w : World) (F : Nat → Prop) (b : Nat) (d : D) (v1 v2 : Value) : Prop where
  is : RIs w F b d v1 v2
  ok : Ok d
  lt : ∀ k, F k → k < w.heap.size
def RAt (w : World) (F : Nat → Prop) (b : Nat) (d : D) : Prop := ∃ v1 v2, RW w F b d v1 v2

set_option maxRecDepth 100000 in
theorem RIs.keep {w w' : World} {F : Nat → Prop} {b : Nat} {d : D} {v1 v2 : Value} (h : RIs w F b d v1 v2) (hk : ∀ k, F k → w'.heap[k]? = w.heap[k]?) : RIs w' F b d v1 v2 :=
  ⟨by rw [hk b h.fb]; exact h.row, row_keep h.o1 (fun k hk' => hk k (h.f1 k hk')), row_keep h.o2 (fun k hk' => hk k (h.f2 k hk')), h.n1, h.n2, h.n12, h.fb, h.f1, h.f2⟩
set_option maxRecDepth 100000 in
theorem RIs.more {w : World} {F G : Nat → Prop} {b : Nat} {d : D} {v1 v2 : Value} (h : RIs w F b d v1 v2) (hk : ∀ k, F k → G k) : RIs w G b d v1 v2 :=
  ⟨h.row, h.o1, h.o2, h.n1, h.n2, h.n12, hk _ h.fb, fun k hk' => hk k (h.f1 k hk'), fun k hk' => hk k (h.f2 k hk')⟩
set_option maxRecDepth 100000 in
theorem RW.keep {w w' : World} {F G : Nat → Prop} {b : Nat} {d : D} {v1 v2 : Value} (h : RW w F b d v1 v2) (ht : Turn G w w') (hd : ∀ k, F k → ¬ G k) : RW w' F b d v1 v2 :=
  ⟨h.is.keep (fun k hk => ht.block k (h.lt k hk) (hd k hk)), h.ok, fun k hk => Nat.lt_of_lt_of_le (h.lt k hk) ht.size⟩
set_option maxRecDepth 100000 in
theorem RW.below {w w' : World} {F : Nat → Prop} {b : Nat} {d : D} {v1 v2 : Value} (h : RW w F b d v1 v2) (ht : Below w.heap.size w w') : RW w' F b d v1 v2 :=
  h.keep (G := fun _ => False) (Turn.of_below ht) (fun _ _ h => h)
set_option maxRecDepth 100000 in
theorem RAt.keep {w w' : World} {F G : Nat → Prop} {b : Nat} {d : D} (h : RAt w F b d) (ht : Turn G w w') (hd : ∀ k, F k → ¬ G k) : RAt w' F b d := by
  obtain ⟨v1, v2, h⟩ := h
  exact ⟨v1, v2, h.keep ht hd⟩
set_option maxRecDepth 100000 in
theorem RAt.below {w w' : World} {F : Nat → Prop} {b : Nat} {d : D} (h : RAt w F b d) (ht : Below w.heap.size w w') : RAt w' F b d := by
  obtain ⟨v1, v2, h⟩ := h
  exact ⟨v1, v2, h.below ht⟩
set_option maxRecDepth 100000 in
theorem RAt.up {w' : World} {F : Nat → Prop} {b : Nat} {d : D} (h : RAt w' F b d) (w0 : World) : RAt w' (Up F w0 w') b d := by
  obtain ⟨v1, v2, hi⟩ := h
  exact ⟨v1, v2, hi.is.more (fun k hk => .inl hk), hi.ok, fun k hk => by rcases hk with h1 | h1; exact hi.lt k h1; exact h1.2⟩
set_option maxRecDepth 100000 in
theorem RIs.lt {w : World} {F : Nat → Prop} {b : Nat} {d : D} {v1 v2 : Value} (h : RIs w F b d v1 v2) : b < w.heap.size := (Array.getElem?_eq_some_iff.1 h.row).1
set_option maxRecDepth 100000 in
theorem RIs.c0 {w : World} {F : Nat → Prop} {b : Nat} {d : D} {v1 v2 : Value} (h : RIs w F b d v1 v2) : w.cell? ⟨b, 0, none⟩ = some v1 := cell_row h.row rfl
set_option maxRecDepth 100000 in
theorem RIs.c1 {w : World} {F : Nat → Prop} {b : Nat} {d : D} {v1 v2 : Value} (h : RIs w F b d v1 v2) : w.cell? ⟨b, 1, none⟩ = some v2 := cell_row h.row rfl
set_option maxRecDepth 100000 in
theorem RIs.c2 {w : World} {F : Nat → Prop} {b : Nat} {d : D} {v1 v2 : Value} (h : RIs w F b d v1 v2) : w.cell? ⟨b, 2, none⟩ = some (.int .i64 d.fuse) := cell_row h.row rfl
set_option maxRecDepth 100000 in
theorem RIs.c3 {w : World} {F : Nat → Prop} {b : Nat} {d : D} {v1 v2 : Value} (h : RIs w F b d v1 v2) : w.cell? ⟨b, 3, none⟩ = some (.bool d.gone) := cell_row h.row rfl
set_option maxRecDepth 100000 in
theorem RIs.fr {w : World} {F : Nat → Prop} {b : Nat} {d : D} {v1 v2 : Value} (h : RIs w F b d v1 v2) (j : Nat) : w.frozen? ⟨b, j, none⟩ = false := frozen_of_row w b j _ _ h.row
set_option maxRecDepth 100000 in
theorem RIs.turn {w w' : World} {F : Nat → Prop} {b : Nat} {d : D} {v1 v2 : Value} (h : RIs w F b d v1 v2) (f : Int) (q : Bool)
    (hr : w'.heap[b]? = some (.cells #[v1, v2, .int .i64 f, .bool q] 123 (0, 0))) (hk : ∀ k, k ≠ b → w'.heap[k]? = w.heap[k]?) : RIs w' F b { d with fuse := f, gone := q } v1 v2 :=
  ⟨hr, row_keep h.o1 (fun k hk' => hk k (own_ne h.n1 hk')), row_keep h.o2 (fun k hk' => hk k (own_ne h.n2 hk')), h.n1, h.n2, h.n12, h.fb, h.f1, h.f2⟩
set_option maxRecDepth 100000 in
theorem RIs.sec {w : World} {F : Nat → Prop} {b : Nat} {d : D} {g c n : Nat} {v2 : Value} (h : RIs w F b d (.slice (some ⟨g, 0, none⟩) n c) v2) (hn : n = d.S.length) {i : Nat} (hi : i < d.S.length) : w.cell? ⟨g, i, none⟩ = some (.string (d.S.getD i ByteArray.empty)) := by
  subst hn
  rw [h.o1.cellAt i (by omega)]
  simp [strs, hi]
set_option maxRecDepth 100000 in
theorem RIs.pen {w : World} {F : Nat → Prop} {b : Nat} {d : D} {gp n cp : Nat} {v1 : Value} (h : RIs w F b d v1 (.slice (some ⟨gp, 0, none⟩) n cp)) (hn : n = d.W.length) {k : Nat} (hk : k < d.W.length) : w.cell? ⟨gp, k * 2, none⟩ = some (.int .i64 ((pw d.W k).1 : Int)) ∧ w.cell? ⟨gp, k * 2 + 1, none⟩ = some (.string (pw d.W k).2) := by
  subst hn
  have hr : w.rangeAt gp (k * 2) (putC (pw d.W k)) := row_range h.o2 (fun _ _ => rfl) rfl k _ (by rw [pw_eq hk, List.getElem?_eq_getElem hk])
  exact ⟨hr 0 _ rfl, hr 1 _ rfl⟩

set_option maxRecDepth 100000 in
set_option maxHeartbeats 400000 in
theorem burnt40 {F : Nat → Prop} {b : Nat} {d : D} {w : World} {v1 v2 : Value} (h : RW w F b d v1 v2) :
    Calls Tryz.prog 189 #[.pointer (some ⟨b, 0, none⟩)] w fun e w' => e = .returned (.bool (burn d).gone) ∧ RW w' F b (burn d) v1 v2 ∧ Turn F w w' ∧ w'.heap.size = w.heap.size := by
  have HOK := Lib.hid h.ok.burn
  have HLT := Lib.hid h.lt
  have hi := h.is
  have c2 := hi.c2
  have c3 := hi.c3
  have f2 := hi.fr 2
  have f3 := hi.fr 3
  have hg := h.ok.g
  have hf1 := h.ok.f1
  have hf2 := h.ok.f2
  have HI := Lib.hid hi
  obtain ⟨S, W, f, q⟩ := d
  have hg : q = true → f = 0 := hg
  have hf1 : -1 ≤ f := hf1
  have hf2 : f ≤ 9223372036854775807 := hf2
  have c2 : w.cell? ⟨b, 2, none⟩ = some (.int .i64 f) := c2
  have c3 : w.cell? ⟨b, 3, none⟩ = some (.bool q) := c3
  clear hi h
  obtain ⟨r, hr⟩ : ∃ r, burn ⟨S, W, f, q⟩ = r := ⟨_, rfl⟩
  rw [hr] at HOK ⊢
  have HR := Lib.hid hr
  clear hr
  by_cases h0 : f = 0
  · have er : r = ⟨S, W, f, true⟩ := by rw [← HR.out]; simp [burn, h0]
    subst er
    subst h0
    have HFIN : Hid (RW (w.setCell ⟨b, 3, none⟩ (.bool true)) F b ⟨S, W, 0, true⟩ v1 v2 ∧ Turn F w (w.setCell ⟨b, 3, none⟩ (.bool true))) := by
      refine ⟨⟨HI.out.turn 0 true ?_ (fun k hk => Below.heap_setCell _ _ _ _ hk), HOK.out, fun k hk => by simpa [World.setCell] using HLT.out k hk⟩, (Turn.refl F w).setCell _ _ (.inl HI.out.fb)⟩
      rw [heap_setCell_same _ _ _ _ _ _ HI.out.row]; rfl
    clear hg hf1 hf2 HR HOK
    go_enter Tryz.func189, Tryz.ntmps189
    go_wp2
    go_ret
    exact ⟨rfl, HFIN.out.1, HFIN.out.2, by simp [World.setCell]⟩
  · have hq : q = false := by cases q with | false => rfl | true => exact absurd (hg rfl) h0
    subst hq
    have t0 : (f == 0) = false := by simpa using h0
    by_cases h1 : f = -1
    · subst h1
      have er : r = ⟨S, W, -1, false⟩ := by rw [← HR.out]; simp [burn]
      subst er
      have HFIN : Hid (RW w F b ⟨S, W, -1, false⟩ v1 v2) := ⟨HI.out, HOK.out, HLT.out⟩
      have t1 : decide ((0 : Int) < -1) = false := rfl
      clear hg hf1 hf2 HR HOK h0
      go_enter Tryz.func189, Tryz.ntmps189
      go_wp2
      go_ret
      exact ⟨rfl, HFIN.out, Turn.refl _ _, rfl⟩
    · have hpos : 0 < f := by omega
      have t1 : decide (0 < f) = true := by simpa using hpos
      have er : r = ⟨S, W, f - 1, false⟩ := by rw [← HR.out]; simp [burn, h0, hpos]
      subst er
      have HFIN : Hid (RW (w.setCell ⟨b, 2, none⟩ (.int .i64 (f - 1))) F b ⟨S, W, f - 1, false⟩ v1 v2 ∧ Turn F w (w.setCell ⟨b, 2, none⟩ (.int .i64 (f - 1)))) := by
        refine ⟨⟨HI.out.turn (f - 1) false ?_ (fun k hk => Below.heap_setCell _ _ _ _ hk), HOK.out, fun k hk => by simpa [World.setCell] using HLT.out k hk⟩, (Turn.refl F w).setCell _ _ (.inl HI.out.fb)⟩
        rw [heap_setCell_same _ _ _ _ _ _ HI.out.row]; rfl
      clear hg HR HOK h0 h1
      go_enter Tryz.func189, Tryz.ntmps189
      go_wp2
      go_ret
      exact ⟨rfl, HFIN.out.1, HFIN.out.2, by simp [World.setCell]⟩

set_option maxRecDepth 100000 in
set_option maxHeartbeats 400000 in
theorem refArm29 {F : Nat → Prop} {b : Nat} {d : D} {w : World} (h : RAt w F b d) (n : Int) (hn : n ≤ 9223372036854775807) :
    Calls Tryz.prog 69 #[.pointer (some ⟨b, 0, none⟩), .int .i64 n] w fun e w' => e = .returned (.int .i64 (armE d n)) ∧ RAt w' F b (armD d n) ∧ Turn F w w' ∧ w'.heap.size = w.heap.size := by
  have HH := Lib.hid h
  obtain ⟨v1, v2, h⟩ := h
  have HOK := Lib.hid (h.ok.arm n hn)
  have HLT := Lib.hid h.lt
  have hi := h.is
  have c3 := hi.c3
  have c2 := hi.c2
  have f2 := hi.fr 2
  have HI := Lib.hid hi
  clear hi h hn
  by_cases h0 : n < 0
  · have e1 : armE d n = 2 := by simp [armE, h0]
    have e2 : armD d n = d := by simp [armD, h0]
    rw [e1, e2]
    have t0 : decide (n < 0) = true := by simpa using h0
    clear e1 e2 HOK
    go_enter Tryz.func69, Tryz.ntmps69
    go_wp2
    go_ret
    exact ⟨rfl, HH.out, Turn.refl _ _, rfl⟩
  · have t0 : decide (n < 0) = false := by simpa using h0
    cases hq : d.gone with
    | true =>
      rw [hq] at c3
      have e1 : armE d n = 9 := by simp [armE, h0, hq]
      have e2 : armD d n = d := by simp [armD, h0, hq]
      rw [e1, e2]
      clear e1 e2 HOK hq
      go_enter Tryz.func69, Tryz.ntmps69
      go_wp2
      go_ret
      exact ⟨rfl, HH.out, Turn.refl _ _, rfl⟩
    | false =>
      rw [hq] at c3
      have e1 : armE d n = 0 := by simp [armE, h0, hq]
      have e2 : armD d n = { d with fuse := n, gone := false } := by
        obtain ⟨S, W, f, q⟩ := d
        have hq : q = false := hq
        subst hq
        simp [armD, h0]
      rw [e2] at HOK
      rw [e1, e2]
      have HFIN : Hid (RAt (w.setCell ⟨b, 2, none⟩ (.int .i64 n)) F b { d with fuse := n, gone := false } ∧ Turn F w (w.setCell ⟨b, 2, none⟩ (.int .i64 n))) := by
        refine ⟨⟨v1, v2, HI.out.turn n false ?_ (fun k hk => Below.heap_setCell _ _ _ _ hk), HOK.out, fun k hk => by simpa [World.setCell] using HLT.out k hk⟩, (Turn.refl F w).setCell _ _ (.inl HI.out.fb)⟩
        rw [heap_setCell_same _ _ _ _ _ _ HI.out.row, hq]; rfl
      clear e1 e2 HOK hq
      go_enter Tryz.func69, Tryz.ntmps69
      go_wp2
      go_ret
      exact ⟨rfl, HFIN.out.1, HFIN.out.2, by simp [World.setCell]⟩
theorem Tryz.info9 : (Tryz.prog.info? 9).map (fun i => (i.zero, i.size, i.bytes)) = some (some (.string ByteArray.empty), 1, 16) := by kernel_rfl
theorem info9 : ∃ i, Tryz.prog.info? 9 = some i ∧ i.zero = some (.string ByteArray.empty) ∧ i.size = 1 ∧ i.bytes = 16 := by
  have h := Tryz.info9
  cases hq : Tryz.prog.info? 9 with
  | none => simp [hq] at h
  | some i =>
    simp [hq] at h
    exact ⟨i, rfl, h.1, h.2.1, h.2.2⟩
end Go.Proofs.YtjanddnlhaionaaGreatDoor.L6
