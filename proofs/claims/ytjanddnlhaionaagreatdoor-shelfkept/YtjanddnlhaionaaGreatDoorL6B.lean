/-
  Contracts of exists, has, spend, Loose, Size, Down, Arm. No condition.
-/
import Derived.Test.YtjanddnlhaionaaGreatDoorL6A
namespace Go.Proofs.YtjanddnlhaionaaGreatDoor.L6
open Go.RowKit

def ptr (b : Nat) : Value := .pointer (some ⟨b, 0, none⟩)

set_option maxRecDepth 100000 in
theorem exists26 {F : Nat → Prop} {b : Nat} {d : D} {w : World} (h : PAt w F b d) :
    Calls Tryz.prog 80 #[.pointer (some ⟨b, 0, none⟩)] w fun e w' => e = .returned (.bool true) ∧ w = w' := by
  obtain ⟨g, c, v, hi⟩ := h.is
  have c0 := hi.c0
  have hn := h.ok.n1
  generalize d.S.length = n at c0 hn
  have hp : decide (0 < (n : Int)) = true := by simp; omega
  have hp' : decide (0 < n) = true := by simp; omega
  clear hi h
  go_enter Tryz.func80, Tryz.ntmps80
  go_wp2
  go_ret
  exact ⟨rfl, rfl⟩

set_option maxRecDepth 100000 in
theorem has35 {F : Nat → Prop} {b : Nat} {d : D} {w : World} (h : PAt w F b d) (i : Int) :
    Calls Tryz.prog 207 #[.pointer (some ⟨b, 0, none⟩), .int .i64 i] w fun e w' => e = .returned (.bool (hasB d i)) ∧ w = w' := by
  obtain ⟨g, c, v, hi⟩ := h.is
  have c0 := hi.c0
  obtain ⟨r, hr⟩ : ∃ r, hasB d i = r := ⟨_, rfl⟩
  rw [hr]
  unfold hasB at hr
  generalize d.S.length = n at c0 hr
  have HR := Lib.hid hr
  clear hi h hr
  by_cases h0 : 0 ≤ i
  · by_cases h1 : i < n
    · have e : r = true := by rw [← HR.out]; simp [h0, h1]
      subst e
      clear HR
      go_enter Tryz.func207, Tryz.ntmps207
      go_wp2
      go_ret
      exact ⟨rfl, rfl⟩
    · have e : r = false := by rw [← HR.out]; simp [h1]
      subst e
      have h2 : decide (i < (n : Int)) = false := by simp; omega
      clear HR h1
      go_enter Tryz.func207, Tryz.ntmps207
      go_wp2
      go_ret
      exact ⟨rfl, rfl⟩
  · have e : r = false := by rw [← HR.out]; simp [h0]
    subst e
    have h2 : decide (0 ≤ i) = false := by simp; omega
    clear HR h0
    go_enter Tryz.func207, Tryz.ntmps207
    go_wp2
    go_ret
    exact ⟨rfl, rfl⟩

set_option maxRecDepth 100000 in
theorem size25 {F : Nat → Prop} {b : Nat} {d : D} {w : World} (h : PAt w F b d) :
    Calls Tryz.prog 172 #[.pointer (some ⟨b, 0, none⟩)] w fun e w' => e = .returned (.int .i64 (d.S.length : Int)) ∧ w = w' := by
  have HE := Lib.hid (exists26 h)
  obtain ⟨g, c, v, hi⟩ := h.is
  have c0 := hi.c0
  clear hi h
  go_enter Tryz.func172, Tryz.ntmps172
  go_wp2_with (go_at_call 80; refine HE.out.mono ?_; rintro e w' ⟨rfl, rfl⟩)
  go_ret
  exact ⟨rfl, rfl⟩
set_option maxRecDepth 100000 in
/-- The drum's own block, with other words in it. -/
theorem PIs.turn {w w' : World} {F : Nat → Prop} {b : Nat} {d : D} {g c : Nat} {v : Value} (h : PIs w F b d g c v) (f : Int) (q : Bool)
    (hr : w'.heap[b]? = some (.cells #[.slice (some ⟨g, 0, none⟩) d.S.length c, v, .int .i64 f, .bool q] 120 (0, 0))) (hk : ∀ k, k ≠ b → w'.heap[k]? = w.heap[k]?) : PIs w' F b { d with fuse := f, gone := q } g c v :=
  ⟨hr, row_keep h.o1 (fun k hk' => hk k (own_some hk' ▸ h.n1)), row_keep h.o2 (fun k hk' => hk k (fun e => h.n2 (e ▸ hk'))), h.n1, h.n2, h.n12, h.fb, h.f1, h.f2⟩

set_option maxRecDepth 100000 in
set_option maxHeartbeats 400000 in
theorem spend37 {F : Nat → Prop} {b : Nat} {d : D} {w : World} (h : PAt w F b d) :
    Calls Tryz.prog 213 #[.pointer (some ⟨b, 0, none⟩)] w fun e w' => e = .returned (.bool (!(burn d).gone)) ∧ PAt w' F b (burn d) ∧ Turn F w w' ∧ w'.heap.size = w.heap.size := by
  have HOK := Lib.hid h.ok.burn
  have HLT := Lib.hid h.lt
  obtain ⟨g, c, v, hi⟩ := h.is
  have c2 := hi.c2
  have c3 := hi.c3
  have f2 := hi.fr 2
  have f3 := hi.fr 3
  have hg := h.ok.g
  have hf1 := h.ok.f1
  have hf2 := h.ok.f2
  have HI := Lib.hid hi
  obtain ⟨S, W, f, q⟩ := d
  have hg : q = true → f = 0 := hg
  have hf1 : -1 ≤ f := hf1
  have hf2 : f ≤ 9223372036854775807 := hf2
  have c2 : w.cell? ⟨b, 2, none⟩ = some (.int .i64 f) := c2
  have c3 : w.cell? ⟨b, 3, none⟩ = some (.bool q) := c3
  clear hi h
  obtain ⟨r, hr⟩ : ∃ r, burn ⟨S, W, f, q⟩ = r := ⟨_, rfl⟩
  rw [hr] at HOK ⊢
  have HR := Lib.hid hr
  clear hr
  by_cases h0 : f = 0
  · have er : r = ⟨S, W, f, true⟩ := by rw [← HR.out]; simp [burn, h0]
    subst er
    subst h0
    have HFIN : Hid (PAt (w.setCell ⟨b, 3, none⟩ (.bool true)) F b ⟨S, W, 0, true⟩ ∧ Turn F w (w.setCell ⟨b, 3, none⟩ (.bool true))) := by
      refine ⟨⟨⟨g, c, v, HI.out.turn 0 true ?_ (fun k hk => Below.heap_setCell _ _ _ _ hk)⟩, HOK.out, fun k hk => by simpa [World.setCell] using HLT.out k hk⟩, (Turn.refl F w).setCell _ _ (.inl HI.out.fb)⟩
      rw [heap_setCell_same _ _ _ _ _ _ HI.out.row]; rfl
    clear hg hf1 hf2 HR HOK
    go_enter Tryz.func213, Tryz.ntmps213
    go_wp2
    go_ret
    exact ⟨rfl, HFIN.out.1, HFIN.out.2, by simp [World.setCell]⟩
  · have hq : q = false := by cases q with | false => rfl | true => exact absurd (hg rfl) h0
    subst hq
    have t0 : (f == 0) = false := by simpa using h0
    by_cases h1 : f = -1
    · subst h1
      have er : r = ⟨S, W, -1, false⟩ := by rw [← HR.out]; simp [burn]
      subst er
      have HFIN : Hid (PAt w F b ⟨S, W, -1, false⟩) := ⟨⟨g, c, v, HI.out⟩, HOK.out, HLT.out⟩
      clear hg hf1 hf2 HR HOK h0
      go_enter Tryz.func213, Tryz.ntmps213
      go_wp2
      go_ret
      exact ⟨rfl, HFIN.out, Turn.refl _ _, rfl⟩
    · have t1 : (f != -1) = true := by simpa using h1
      have hpos : 0 < f := by omega
      have er : r = ⟨S, W, f - 1, false⟩ := by rw [← HR.out]; simp [burn, h0, hpos]
      subst er
      have HFIN : Hid (PAt (w.setCell ⟨b, 2, none⟩ (.int .i64 (f - 1))) F b ⟨S, W, f - 1, false⟩ ∧ Turn F w (w.setCell ⟨b, 2, none⟩ (.int .i64 (f - 1)))) := by
        refine ⟨⟨⟨g, c, v, HI.out.turn (f - 1) false ?_ (fun k hk => Below.heap_setCell _ _ _ _ hk)⟩, HOK.out, fun k hk => by simpa [World.setCell] using HLT.out k hk⟩, (Turn.refl F w).setCell _ _ (.inl HI.out.fb)⟩
        rw [heap_setCell_same _ _ _ _ _ _ HI.out.row]; rfl
      clear hg HR HOK h0 h1
      go_enter Tryz.func213, Tryz.ntmps213
      go_wp2
      go_ret
      exact ⟨rfl, HFIN.out.1, HFIN.out.2, by simp [World.setCell]⟩

set_option maxRecDepth 100000 in
set_option maxHeartbeats 400000 in
theorem arm23 {F : Nat → Prop} {b : Nat} {d : D} {w : World} (h : PAt w F b d) (n : Int) (hn : n ≤ 9223372036854775807) :
    Calls Tryz.prog 37 #[.pointer (some ⟨b, 0, none⟩), .int .i64 n] w fun e w' => e = .returned (.int .i64 (armE d n)) ∧ PAt w' F b (armD d n) ∧ Turn F w w' ∧ w'.heap.size = w.heap.size := by
  have HE := Lib.hid (exists26 h)
  have HOK := Lib.hid (h.ok.arm n hn)
  have HLT := Lib.hid h.lt
  have HH := Lib.hid h
  obtain ⟨g, c, v, hi⟩ := h.is
  have c3 := hi.c3
  have c2 := hi.c2
  have f2 := hi.fr 2
  have HI := Lib.hid hi
  clear hi h hn
  by_cases h0 : n < 0
  · have e1 : armE d n = 2 := by simp [armE, h0]
    have e2 : armD d n = d := by simp [armD, h0]
    rw [e1, e2]
    have t0 : decide (n < 0) = true := by simpa using h0
    clear e1 e2 HOK
    go_enter Tryz.func37, Tryz.ntmps37
    go_wp2_with (go_at_call 80; refine HE.out.mono ?_; rintro e w' ⟨rfl, rfl⟩)
    go_ret
    exact ⟨rfl, HH.out, Turn.refl _ _, rfl⟩
  · have t0 : decide (n < 0) = false := by simpa using h0
    cases hq : d.gone with
    | true =>
      rw [hq] at c3
      have e1 : armE d n = 9 := by simp [armE, h0, hq]
      have e2 : armD d n = d := by simp [armD, h0, hq]
      rw [e1, e2]
      clear e1 e2 HOK hq
      go_enter Tryz.func37, Tryz.ntmps37
      go_wp2_with (go_at_call 80; refine HE.out.mono ?_; rintro e w' ⟨rfl, rfl⟩)
      go_ret
      exact ⟨rfl, HH.out, Turn.refl _ _, rfl⟩
    | false =>
      rw [hq] at c3
      have e1 : armE d n = 0 := by simp [armE, h0, hq]
      have e2 : armD d n = { d with fuse := n, gone := false } := by
        obtain ⟨S, W, f, q⟩ := d
        have hq : q = false := hq
        subst hq
        simp [armD, h0]
      rw [e2] at HOK
      rw [e1, e2]
      have HFIN : Hid (PAt (w.setCell ⟨b, 2, none⟩ (.int .i64 n)) F b { d with fuse := n, gone := false } ∧ Turn F w (w.setCell ⟨b, 2, none⟩ (.int .i64 n))) := by
        refine ⟨⟨⟨g, c, v, HI.out.turn n false ?_ (fun k hk => Below.heap_setCell _ _ _ _ hk)⟩, HOK.out, fun k hk => by simpa [World.setCell] using HLT.out k hk⟩, (Turn.refl F w).setCell _ _ (.inl HI.out.fb)⟩
        rw [heap_setCell_same _ _ _ _ _ _ HI.out.row, hq]; rfl
      clear e1 e2 HOK hq
      go_enter Tryz.func37, Tryz.ntmps37
      go_wp2_with (go_at_call 80; refine HE.out.mono ?_; rintro e w' ⟨rfl, rfl⟩)
      go_ret
      exact ⟨rfl, HFIN.out.1, HFIN.out.2, by simp [World.setCell]⟩
end Go.Proofs.YtjanddnlhaionaaGreatDoor.L6
