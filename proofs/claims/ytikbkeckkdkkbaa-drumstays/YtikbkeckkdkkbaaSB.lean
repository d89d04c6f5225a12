/-
  Contract of step. No condition.
-/
import Derived.Test.YtikbkeckkdkkbaaSA
namespace Go.Proofs.Ytikbkeckkdkkbaa
open Go.RowKit

def stepD (d : D) (a : Ac) : D := if a.k = 1 then settleD d else if a.k = 2 then crashD d a.keep else if a.k = 3 then armD d a.i else if a.k = 4 then writeD d a.i a.s else writeD d a.i (padS a.s)
theorem step_len (d : D) (a : Ac) : (stepD d a).S.length = d.S.length := by
  unfold stepD
  split; exact settle_len d
  split; exact crash_len d _
  split; exact arm_len d _
  split; exact write_len d _ _
  exact write_len d _ _
theorem step_wlen (d : D) (a : Ac) : (stepD d a).W.length ≤ d.W.length + 1 := by
  unfold stepD
  split; exact Nat.le_succ_of_le (settle_wlen d)
  split; simp [crashD]
  split; rw [arm_wlen]; omega
  split; exact write_wlen d _ _
  exact write_wlen d _ _

/-- The cells of the call that is handed in stay, whatever the drums do. -/
theorem box_keep {w W : World} {F : Nat → Prop} {cs : Array Value} {t : TypeId} (hF : ∀ k, F k → k < w.heap.size) (hT : Turn F (w.alloc (.cells cs t)) W) (j : Nat) : W.cell? ⟨w.heap.size, j, none⟩ = cs[j]? := by
  have h1 := hT.block w.heap.size (by simp) (fun h => by have := hF _ h; omega)
  rw [heap_alloc_new] at h1
  exact cell_of_row W w.heap.size j cs t (0, 0) h1

set_option maxRecDepth 100000 in
set_option maxHeartbeats 1000000 in
theorem step13 {w : World} {F : Nat → Prop} {b r : Nat} {d : D} (h : Both w F b r d) (a : Ac) (B : Nat) (hB : B ≤ w.heap.size) (hF : ∀ k, F k → B ≤ k) (hl : IntsAt w B a.v a.keep) (hll : a.keep.length ≤ 200) (hw : d.W.length ≤ 1000) (htop : a.i ≤ 9223372036854775807) :
    Calls Try.prog 13 #[.pointer (some ⟨b, 0, none⟩), .pointer (some ⟨r, 0, none⟩), .agg #[.int .i64 a.k, .int .i64 a.i, .string a.s, a.v]] w fun e w' => e = .returned (.bool true) ∧ Both w' (Up F w w') b r (stepD d a) ∧ Turn F w w' := by
  obtain ⟨d', hd'⟩ : ∃ d', stepD d a = d' := ⟨_, rfl⟩
  rw [hd']
  have HD := Lib.hid hd'
  obtain ⟨k, i, s, v, keep⟩ := a
  have hl' := hl
  obtain ⟨la, lc, hv, -⟩ := hl'
  have hv : v = .slice la keep.length lc := hv
  subst hv
  have HL : Hid (IntsAt w B (.slice la keep.length lc) keep) := hl
  have hb0 : Below w.heap.size w (w.alloc (.cells #[.int .i64 k, .int .i64 i, .string s, .slice la keep.length lc] 37)) := (Below.refl _ _).alloc (Nat.le_refl _) _
  have HI : Hid (In w F b r d d (w.alloc (.cells #[.int .i64 k, .int .i64 i, .string s, .slice la keep.length lc] 37))) := In.below h hb0
  have HKP : Hid (∀ W, Turn F (w.alloc (.cells #[.int .i64 k, .int .i64 i, .string s, .slice la keep.length lc] 37)) W → W.cell? ⟨w.heap.size, 1, none⟩ = some (.int .i64 i) ∧ W.cell? ⟨w.heap.size, 2, none⟩ = some (.string s) ∧ W.cell? ⟨w.heap.size, 3, none⟩ = some (.slice la keep.length lc)) := fun W hT => ⟨box_keep h.flt hT 1, box_keep h.flt hT 2, box_keep h.flt hT 3⟩
  have HF := Lib.hid hF
  have HFL := Lib.hid h.flt
  have hll : keep.length ≤ 200 := hll
  have htop : i ≤ 9223372036854775807 := htop
  have HI1 : Hid (In (w.alloc (.cells #[.int .i64 k, .int .i64 i, .string s, .slice la keep.length lc] 37)) F b r d d (w.alloc (.cells #[.int .i64 k, .int .i64 i, .string s, .slice la keep.length lc] 37))) := by
    obtain ⟨F1, F2, hP, hR, hdd, h1, h2⟩ := h.ex
    have hf : ∀ k, Up F w w k → F k := fun k hk => by rcases hk with hk | hk; exact hk; omega
    exact ⟨⟨F1, F2, hP.below hb0, hR.below hb0, hdd, fun k hk => .inl (hf k (h1 k hk)), fun k hk => .inl (hf k (h2 k hk))⟩, Turn.refl _ _, fun k hk => Nat.lt_of_lt_of_le (h.flt k hk) hb0.size⟩
  have HEND : Hid (∀ W d1, In (w.alloc (.cells #[.int .i64 k, .int .i64 i, .string s, .slice la keep.length lc] 37)) F b r d1 d1 W → Both W (Up F w W) b r d1 ∧ Turn F w W) := by
    intro W d1 hI
    refine In.both ⟨?_, (Turn.of_below (F := F) hb0).trans hI.turn (fun i h => .inl h), h.flt⟩
    obtain ⟨F1, F2, hP, hR, hdd, h1, h2⟩ := hI.ex
    have hsz : w.heap.size ≤ (w.alloc (.cells #[.int .i64 k, .int .i64 i, .string s, .slice la keep.length lc] 37)).heap.size := hb0.size
    exact ⟨F1, F2, hP, hR, hdd, fun k hk => (h1 k hk).imp id (fun h => ⟨by omega, h.2⟩), fun k hk => (h2 k hk).imp id (fun h => ⟨by omega, h.2⟩)⟩
  have HL1 : Hid (∀ W, In (w.alloc (.cells #[.int .i64 k, .int .i64 i, .string s, .slice la keep.length lc] 37)) F b r d d W ∨ In (w.alloc (.cells #[.int .i64 k, .int .i64 i, .string s, .slice la keep.length lc] 37)) F b r d (crashD d keep) W → IntsAt W B (.slice la keep.length lc) keep) := by
    intro W hI
    have hT : Turn F (w.alloc (.cells #[.int .i64 k, .int .i64 i, .string s, .slice la keep.length lc] 37)) W := by rcases hI with h | h <;> exact h.turn
    exact (HL.out.below (hb0.mono hB)).below (hT.below B (Nat.le_trans hB hb0.size) HF.out)
  have HB : Hid (B ≤ (w.alloc (.cells #[.int .i64 k, .int .i64 i, .string s, .slice la keep.length lc] 37)).heap.size) := Nat.le_trans hB hb0.size
  have q1 := box_keep (j := 1) h.flt (Turn.refl F (w.alloc (.cells #[.int .i64 k, .int .i64 i, .string s, .slice la keep.length lc] 37)))
  have HSB : Hid (∀ W d1 d2, In (w.alloc (.cells #[.int .i64 k, .int .i64 i, .string s, .slice la keep.length lc] 37)) F b r d1 d2 W → W.cell? ⟨w.heap.size, 1, none⟩ = some (.int .i64 i) ∧ W.cell? ⟨w.heap.size, 2, none⟩ = some (.string s)) := fun W d1 d2 hI => ⟨(HKP.out W hI.turn).1, (HKP.out W hI.turn).2.1⟩
  have hwl : d.W.length ≤ 1000000 := by omega
  have HWL := Lib.hid hwl
  obtain ⟨kn, hkn⟩ : ∃ kn, keep.length = kn := ⟨_, rfl⟩
  rw [hkn] at HI1 HEND HL1 HB HSB HKP hll
  rw [hkn]
  have HKN := Lib.hid hkn
  clear hb0 h hF hl hd' q1 HL HI hkn hwl
  by_cases k1 : k = 1
  · subst k1
    have e : settleD d = d' := HD.out
    have HC1 := Lib.hid (HI1.out.settle HWL.out)
    have HC2 : Hid (∀ W, In (w.alloc (.cells #[.int .i64 1, .int .i64 i, .string s, .slice la kn lc] 37)) F b r (settleD d) d W → Calls Try.prog 27 #[.pointer (some ⟨r, 0, none⟩)] W fun e w' => e = .returned (.int .i64 (settleE d)) ∧ In (w.alloc (.cells #[.int .i64 1, .int .i64 i, .string s, .slice la kn lc] 37)) F b r (settleD d) (settleD d) w') := fun W hI => hI.refSettle HWL.out
    rw [e] at HC1 HC2
    generalize settleE d = er at HC1 HC2
    clear e HI1 HL1 HSB HKP
    go_enter Try.func13, Try.ntmps13
    go_wp2_with fail
    refine HC1.out.mono ?_
    rintro e w2 ⟨rfl, hI⟩
    have HI2 := Lib.hid hI
    clear hI HC1
    go_wp2_with fail
    refine (HC2.out _ HI2.out).mono ?_
    rintro e w3 ⟨rfl, hI⟩
    have HI3 := Lib.hid (HEND.out _ _ hI)
    clear hI HC2 HI2 HEND
    go_wp2
    go_ret
    exact ⟨by simp, HI3.out.1, HI3.out.2⟩
  · have t1 : (k == 1) = false := by simpa using k1
    by_cases k2 : k = 2
    · subst k2
      have e : crashD d keep = d' := by rw [← HD.out]; rfl
      have c3 := (HKP.out _ (Turn.refl F _)).2.2
      have HC1 := Lib.hid (HI1.out.refCrash HWL.out B HB.out HF.out keep (.slice la kn lc) (by have := HL1.out _ (.inl HI1.out); exact this) (by rw [HKN.out]; omega))
      have HC2 : Hid (∀ W, In (w.alloc (.cells #[.int .i64 2, .int .i64 i, .string s, .slice la kn lc] 37)) F b r d (crashD d keep) W → Calls Try.prog 16 #[.pointer (some ⟨b, 0, none⟩), .slice la kn lc] W fun e w' => e = .returned (.int .i64 0) ∧ In (w.alloc (.cells #[.int .i64 2, .int .i64 i, .string s, .slice la kn lc] 37)) F b r (crashD d keep) (crashD d keep) w') := fun W hI => hI.crash HWL.out keep _ (by
        have := HL1.out _ (.inr hI)
        exact this.more (Nat.le_trans HB.out hI.turn.size)) (by rw [HKN.out]; omega)
      have HC3 : Hid (∀ W, In (w.alloc (.cells #[.int .i64 2, .int .i64 i, .string s, .slice la kn lc] 37)) F b r d (crashD d keep) W → W.cell? ⟨w.heap.size, 3, none⟩ = some (.slice la kn lc)) := fun W hI => (HKP.out W hI.turn).2.2
      rw [e] at HC1 HC2 HC3
      clear e HI1 HL1 HSB HKP k1
      go_enter Try.func13, Try.ntmps13
      go_wp2_with fail
      refine HC1.out.mono ?_
      rintro e w2 ⟨rfl, hI⟩
      have HI2 := Lib.hid hI
      have c3' := HC3.out _ hI
      clear hI HC1 HC3
      go_wp2_with fail
      refine (HC2.out _ HI2.out).mono ?_
      rintro e w3 ⟨rfl, hI⟩
      have HI3 := Lib.hid (HEND.out _ _ hI)
      clear hI HC2 HI2 HEND
      go_wp2
      go_ret
      exact ⟨by simp, HI3.out.1, HI3.out.2⟩
    · have t2 : (k == 2) = false := by simpa using k2
      by_cases k3 : k = 3
      · subst k3
        have e : armD d i = d' := by rw [← HD.out]; rfl
        have HC1 : Hid (∀ W, In (w.alloc (.cells #[.int .i64 3, .int .i64 i, .string s, .slice la kn lc] 37)) F b r d d W → Calls Try.prog 23 #[.pointer (some ⟨b, 0, none⟩), .int .i64 i] W fun e w' => e = .returned (.int .i64 (armE d i)) ∧ In (w.alloc (.cells #[.int .i64 3, .int .i64 i, .string s, .slice la kn lc] 37)) F b r (armD d i) d w') := fun W hI => hI.arm i htop
        have HC2 : Hid (∀ W, In (w.alloc (.cells #[.int .i64 3, .int .i64 i, .string s, .slice la kn lc] 37)) F b r (armD d i) d W → Calls Try.prog 29 #[.pointer (some ⟨r, 0, none⟩), .int .i64 i] W fun e w' => e = .returned (.int .i64 (armE d i)) ∧ In (w.alloc (.cells #[.int .i64 3, .int .i64 i, .string s, .slice la kn lc] 37)) F b r (armD d i) (armD d i) w') := fun W hI => hI.refArm i htop
        rw [e] at HC1 HC2
        generalize armE d i = er at HC1 HC2
        have hI0 : Hid (In (w.alloc (.cells #[.int .i64 3, .int .i64 i, .string s, .slice la kn lc] 37)) F b r d d (w.alloc (.cells #[.int .i64 3, .int .i64 i, .string s, .slice la kn lc] 37)).drew) := HI1.out.drew
        clear e HI1 HL1 HKP k1 k2
        go_enter Try.func13, Try.ntmps13
        go_wp2_with fail
        go_region_held3 (fun W => W.cell? ⟨w.heap.size, 1, none⟩ = some (.int .i64 i) ∧ W.cell? ⟨w.heap.size, 2, none⟩ = some (.string s)) ((first | exact HSB.out _ _ _ hI0.out | exact HSB.out _ _ _ (Hid.out (by assumption)))) (first | (go_at_call 23; (with_reducible refine (HC1.out _ hI0.out).mono ?_); rintro e w2 ⟨rfl, hI⟩; have HI2 := Lib.hid hI; clear hI) | (go_at_call 29; (with_reducible refine (HC2.out _ HI2.out).mono ?_); rintro e w3 ⟨rfl, hI⟩; have HI3 := Lib.hid hI; clear hI))
        have HI4 := Lib.hid (HEND.out _ _ HI3.out)
        clear HI3 HC1 HC2 HI2 HEND HSB
        go_wp2
        go_ret
        exact ⟨by simp, HI4.out.1, HI4.out.2⟩
      · have t3 : (k == 3) = false := by simpa using k3
        by_cases k4 : k = 4
        · subst k4
          have e : writeD d i s = d' := by rw [← HD.out]; rfl
          have HC1 : Hid (∀ W, In (w.alloc (.cells #[.int .i64 4, .int .i64 i, .string s, .slice la kn lc] 37)) F b r d d W → Calls Try.prog 18 #[.pointer (some ⟨b, 0, none⟩), .int .i64 i, .string s] W fun e w' => e = .returned (.int .i64 (writeE d i s)) ∧ In (w.alloc (.cells #[.int .i64 4, .int .i64 i, .string s, .slice la kn lc] 37)) F b r (writeD d i s) d w') := fun W hI => hI.write i s HWL.out
          have HC2 : Hid (∀ W, In (w.alloc (.cells #[.int .i64 4, .int .i64 i, .string s, .slice la kn lc] 37)) F b r (writeD d i s) d W → Calls Try.prog 30 #[.pointer (some ⟨r, 0, none⟩), .int .i64 i, .string s] W fun e w' => e = .returned (.int .i64 (writeE d i s)) ∧ In (w.alloc (.cells #[.int .i64 4, .int .i64 i, .string s, .slice la kn lc] 37)) F b r (writeD d i s) (writeD d i s) w') := fun W hI => hI.refWrite i s HWL.out
          rw [e] at HC1 HC2
          generalize writeE d i s = er at HC1 HC2
          have hI0 : Hid (In (w.alloc (.cells #[.int .i64 4, .int .i64 i, .string s, .slice la kn lc] 37)) F b r d d (w.alloc (.cells #[.int .i64 4, .int .i64 i, .string s, .slice la kn lc] 37)).drew) := HI1.out.drew
          clear e HI1 HL1 HKP k1 k2 k3
          go_enter Try.func13, Try.ntmps13
          go_wp2_with fail
          go_region_held3 (fun W => W.cell? ⟨w.heap.size, 1, none⟩ = some (.int .i64 i) ∧ W.cell? ⟨w.heap.size, 2, none⟩ = some (.string s)) ((first | exact HSB.out _ _ _ hI0.out | exact HSB.out _ _ _ (Hid.out (by assumption)))) (first | (go_at_call 18; (with_reducible refine (HC1.out _ hI0.out).mono ?_); rintro e w2 ⟨rfl, hI⟩; have HI2 := Lib.hid hI; clear hI) | (go_at_call 30; (with_reducible refine (HC2.out _ HI2.out).mono ?_); rintro e w3 ⟨rfl, hI⟩; have HI3 := Lib.hid hI; clear hI))
          have HI4 := Lib.hid (HEND.out _ _ HI3.out)
          clear HI3 HC1 HC2 HI2 HEND HSB
          go_wp2
          go_ret
          exact ⟨by simp, HI4.out.1, HI4.out.2⟩
        · have t4 : (k == 4) = false := by simpa using k4
          have e : writeD d i (padS s) = d' := by rw [← HD.out]; simp [stepD, k1, k2, k3, k4]
          have HC1 : Hid (∀ W, In (w.alloc (.cells #[.int .i64 k, .int .i64 i, .string s, .slice la kn lc] 37)) F b r d d W → Calls Try.prog 18 #[.pointer (some ⟨b, 0, none⟩), .int .i64 i, .string (padS s)] W fun e w' => e = .returned (.int .i64 (writeE d i (padS s))) ∧ In (w.alloc (.cells #[.int .i64 k, .int .i64 i, .string s, .slice la kn lc] 37)) F b r (writeD d i (padS s)) d w') := fun W hI => hI.write i (padS s) HWL.out
          have HC2 : Hid (∀ W, In (w.alloc (.cells #[.int .i64 k, .int .i64 i, .string s, .slice la kn lc] 37)) F b r (writeD d i (padS s)) d W → Calls Try.prog 30 #[.pointer (some ⟨r, 0, none⟩), .int .i64 i, .string (padS s)] W fun e w' => e = .returned (.int .i64 (writeE d i (padS s))) ∧ In (w.alloc (.cells #[.int .i64 k, .int .i64 i, .string s, .slice la kn lc] 37)) F b r (writeD d i (padS s)) (writeD d i (padS s)) w') := fun W hI => hI.refWrite i (padS s) HWL.out
          have HK1 := Lib.hid (sector19 s)
          rw [e] at HC1 HC2
          generalize writeE d i (padS s) = er at HC1 HC2
          generalize padS s = ps at HC1 HC2 HK1
          have hI0 : Hid (In (w.alloc (.cells #[.int .i64 k, .int .i64 i, .string s, .slice la kn lc] 37)) F b r d d (w.alloc (.cells #[.int .i64 k, .int .i64 i, .string s, .slice la kn lc] 37)).drew) := HI1.out.drew
          clear e HI1 HL1 HKP k1 k2 k3 k4
          go_enter Try.func13, Try.ntmps13
          go_wp2_with fail
          go_region_held3 (fun W => W.cell? ⟨w.heap.size, 1, none⟩ = some (.int .i64 i) ∧ W.cell? ⟨w.heap.size, 2, none⟩ = some (.string s)) ((first | exact HSB.out _ _ _ hI0.out | exact HSB.out _ _ _ (Hid.out (by assumption)))) (first | (go_at_call 18; (with_reducible refine (HC1.out _ HA1.out).mono ?_); rintro e w3 ⟨rfl, hI⟩; have HI2 := Lib.hid hI; clear hI) | (go_at_call 30; (with_reducible refine (HC2.out _ HA2.out).mono ?_); rintro e w5 ⟨rfl, hI⟩; have HI3 := Lib.hid hI; clear hI) | (go_at_call 19; (with_reducible refine (HK1.out _).mono ?_); rintro e w4 ⟨rfl, hb⟩; have HA2 := Lib.hid (HI2.out.below hb); clear hb) | (go_at_call 19; (with_reducible refine (HK1.out _).mono ?_); rintro e w2 ⟨rfl, hb⟩; have HA1 := Lib.hid (hI0.out.below hb); clear hb))
          have HI4 := Lib.hid (HEND.out _ _ HI3.out)
          clear HI3 HC1 HC2 HI2 HEND HSB HA1 HA2
          go_wp2
          go_ret
          exact ⟨by simp, HI4.out.1, HI4.out.2⟩
end Go.Proofs.Ytikbkeckkdkkbaa
