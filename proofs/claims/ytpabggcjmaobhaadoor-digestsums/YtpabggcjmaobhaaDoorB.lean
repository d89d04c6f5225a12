import Derived.Test.YtpabggcjmaobhaaDoorA
import Derived.Deep.WholeRow
import Derived.Deep.MidRow
import Derived.StillTailTactics
namespace Go.Proofs.YtpabggcjmaobhaaDoor
open Go.RowKit

theorem cell_row {w : World} {g j : Nat} {l : List Value} {t : TypeId} {v : Value} (h : w.heap[g]? = some (.cells l.toArray t (0, 0))) (hv : l[j]? = some v) : w.cell? ⟨g, j, none⟩ = some v := by
  rw [cell_of_row w g j _ t _ h]; simpa using hv
theorem bytesV_get (B : List UInt8) (j : Nat) (h : j < B.length) : (bytesV B)[j]? = some (.int .u8 ((B.getD j 0).toNat : Int)) := by
  simp [bytesV, h]

/-- The three blocks of words. -/
structure W31 (w : World) (B : List UInt8) (l : List Int) (wr : World) : Prop where
  hb : wr.heap[w.heap.size]? = some (.cells (bytesV B).toArray 41 (0, 0))
  hr : wr.heap[w.heap.size + 1]? = some (.cells (rowTo []).toArray 55 (0, 0))
  hw : wr.heap[w.heap.size + 1 + 1]? = some (.cells (rowTo l).toArray 55 (0, 0))
  below : Below w.heap.size w wr
theorem W31.drew {w : World} {B : List UInt8} {l : List Int} {wr : World} (h : W31 w B l wr) : W31 w B l wr.drew := ⟨h.hb, h.hr, h.hw, h.below.drew⟩
theorem W31.drewN {w : World} {B : List UInt8} {l : List Int} {wr : World} (h : W31 w B l wr) : ∀ n, W31 w B l (wr.drewN n)
  | 0 => h
  | n + 1 => (h.drewN n).drew
theorem W31.set {w : World} {B : List UInt8} {l : List Int} {wr : World} (h : W31 w B l wr) (hl : l.length < 64) (z : Int) :
    W31 w B (l ++ [z]) (wr.setCell ⟨w.heap.size + 1 + 1, l.length, none⟩ (.int .u32 z)) := by
  refine ⟨?_, ?_, ?_, h.below.setCell (by simp; omega) _⟩
  · rw [heap_setCell_other _ _ _ _ (by simp; omega)]; exact h.hb
  · rw [heap_setCell_other _ _ _ _ (by simp)]; exact h.hr
  · rw [heap_setCell_same _ _ _ _ _ _ h.hw, ← rowTo_set l z hl]
    simp

theorem cells0 : (#[Value.int .u32 0, Value.int .u32 0, Value.int .u32 0, Value.int .u32 0, Value.int .u32 0, Value.int .u32 0, Value.int .u32 0, Value.int .u32 0,
 Value.int .u32 0, Value.int .u32 0, Value.int .u32 0, Value.int .u32 0, Value.int .u32 0, Value.int .u32 0, Value.int .u32 0, Value.int .u32 0,
 Value.int .u32 0, Value.int .u32 0, Value.int .u32 0, Value.int .u32 0, Value.int .u32 0, Value.int .u32 0, Value.int .u32 0, Value.int .u32 0,
 Value.int .u32 0, Value.int .u32 0, Value.int .u32 0, Value.int .u32 0, Value.int .u32 0, Value.int .u32 0, Value.int .u32 0, Value.int .u32 0,
 Value.int .u32 0, Value.int .u32 0, Value.int .u32 0, Value.int .u32 0, Value.int .u32 0, Value.int .u32 0, Value.int .u32 0, Value.int .u32 0,
 Value.int .u32 0, Value.int .u32 0, Value.int .u32 0, Value.int .u32 0, Value.int .u32 0, Value.int .u32 0, Value.int .u32 0, Value.int .u32 0,
 Value.int .u32 0, Value.int .u32 0, Value.int .u32 0, Value.int .u32 0, Value.int .u32 0, Value.int .u32 0, Value.int .u32 0, Value.int .u32 0,
 Value.int .u32 0, Value.int .u32 0, Value.int .u32 0, Value.int .u32 0, Value.int .u32 0, Value.int .u32 0, Value.int .u32 0, Value.int .u32 0] : Array Value) = (rowTo []).toArray := by
  rfl

theorem w31_start (w : World) (B : List UInt8) (z : Array Value) (hz : z = (rowTo []).toArray) :
    W31 w B [] (((w.alloc (.cells (bytesV B).toArray 41)).alloc (.cells z 55)).alloc (.cells z 55)) := by
  subst hz
  refine ⟨?_, ?_, ?_, ?_⟩
  · rw [Below.heap_alloc _ _ _ (by simp; omega), Below.heap_alloc _ _ _ (by simp), heap_alloc_new]
  · have := heap_alloc2_old (w.alloc (.cells (bytesV B).toArray 41)) (.cells (rowTo []).toArray 55) (.cells (rowTo []).toArray 55)
    simpa using this
  · have := heap_alloc2_new (w.alloc (.cells (bytesV B).toArray 41)) (.cells (rowTo []).toArray 55) (.cells (rowTo []).toArray 55)
    simpa using this
  · exact (((Below.refl _ _).alloc (Nat.le_refl _) _).alloc (by simp) _).alloc (by simp; omega) _

set_option maxRecDepth 100000 in
set_option maxHeartbeats 400000 in
theorem words31 (B : List UInt8) (hB : B.length = 64) (w : World) :
    Calls Tryd.prog 31 #[.agg (bytesV B).toArray] w fun e w' => e = .returned (.agg (wordsV (wordsTo B 64)).toArray) ∧ Below w.heap.size w w' := by
  have hsz : (bytesV B).length = 64 := by simp [bytesV, hB]
  have hst := Lib.hid (w31_start w B _ cells0)
  go_enter Tryd.func31, Tryd.ntmps31
  go_wp2
  go_loopw [8] (fun s8 wr => ∃ k : Nat, k ≤ 16 ∧ s8 = .int .i64 k ∧ Hid (W31 w B (wordsTo B k) wr)) (fun s8 _ => 16 - (intOf s8).toNat)
  case atStart => exact ⟨0, by omega, rfl, hst⟩
  case round =>
    obtain ⟨k, hk, rfl, HW⟩ := hrel
    by_cases hlt : k < 16
    · obtain ⟨j0, hj0⟩ : ∃ j, j = 4 * k := ⟨_, rfl⟩
      obtain ⟨j1, hj1⟩ : ∃ j, j = 4 * k + 1 := ⟨_, rfl⟩
      obtain ⟨j2, hj2⟩ : ∃ j, j = 4 * k + 2 := ⟨_, rfl⟩
      obtain ⟨j3, hj3⟩ : ∃ j, j = 4 * k + 3 := ⟨_, rfl⟩
      have e0 : IntKind.i64.wrap (4 * (k : Int)) = j0 := by rw [IntKind.wrap_i64]; omega
      have e1 : IntKind.i64.wrap ((j0 : Int) + 1) = j1 := by rw [IntKind.wrap_i64]; omega
      have e2 : IntKind.i64.wrap ((j0 : Int) + 2) = j2 := by rw [IntKind.wrap_i64]; omega
      have e3 : IntKind.i64.wrap ((j0 : Int) + 3) = j3 := by rw [IntKind.wrap_i64]; omega
      have b0 : (j0 : Int) < 64 := by omega
      have b1 : (j1 : Int) < 64 := by omega
      have b2 : (j2 : Int) < 64 := by omega
      have b3 : (j3 : Int) < 64 := by omega
      have bk : (k : Int) < 64 := by omega
      have c0 := cell_row HW.out.hb (bytesV_get B j0 (by omega))
      have c1 := cell_row HW.out.hb (bytesV_get B j1 (by omega))
      have c2 := cell_row HW.out.hb (bytesV_get B j2 (by omega))
      have c3 := cell_row HW.out.hb (bytesV_get B j3 (by omega))
      have HZ : Hid (word B (wordsTo B k) k = num4 (B.getD j0 0) (B.getD j1 0) (B.getD j2 0) (B.getD j3 0)) := by
        unfold Hid word
        rw [if_pos hlt, hj0, hj1, hj2, hj3]
      generalize B.getD j0 0 = x0 at c0 HZ
      generalize B.getD j1 0 = x1 at c1 HZ
      generalize B.getD j2 0 = x2 at c2 HZ
      generalize B.getD j3 0 = x3 at c3 HZ
      clear hj0 hj1 hj2 hj3 hk
      have cw := cell_row HW.out.hw (rowTo_get0 (wordsTo B k) k (by rw [wordsTo_length]; omega) (by omega))
      have fw := frozen_of_row wr _ k _ _ HW.out.hw
      have HN : Hid (W31 w B (wordsTo B (k + 1)) (wr.setCell ⟨w.heap.size + 1 + 1, k, none⟩ (.int .u32 (num4 x0 x1 x2 x3))).drew) := by
        have := (HW.out.set (by rw [wordsTo_length]; omega) (num4 x0 x1 x2 x3)).drew
        rw [wordsTo_length] at this
        unfold Hid wordsTo
        rw [HZ.out]
        exact this
      clear HZ HW
      go_wp2
      go_still_tail 31, (by kernel_rfl)
      change wpList _ _ _ _ _ wr.drew
      go_wp2
      go_roundw
      case rel => exact ⟨k + 1, by omega, by go_num, HN⟩
      case measure => simp [intOf]; omega
    · have hk16 : k = 16 := by omega
      rw [hk16] at HW
      clear hk16 hk hst
      go_wp2
      go_loopw [5] (fun s5 wr => ∃ k : Nat, 16 ≤ k ∧ k ≤ 64 ∧ s5 = .int .i64 k ∧ Hid (W31 w B (wordsTo B k) wr)) (fun s5 _ => 64 - (intOf s5).toNat)
      case atStart => exact ⟨16, by omega, by omega, rfl, HW⟩
      case round =>
        obtain ⟨k, hk0, hk, rfl, HW⟩ := hrel
        by_cases hlt : k < 64
        · obtain ⟨j15, hj15⟩ : ∃ j, j = k - 15 := ⟨_, rfl⟩
          obtain ⟨j2, hj2⟩ : ∃ j, j = k - 2 := ⟨_, rfl⟩
          obtain ⟨j7, hj7⟩ : ∃ j, j = k - 7 := ⟨_, rfl⟩
          obtain ⟨j16, hj16⟩ : ∃ j, j = k - 16 := ⟨_, rfl⟩
          have e15 : IntKind.i64.wrap ((k : Int) - 15) = j15 := by rw [IntKind.wrap_i64]; omega
          have e2 : IntKind.i64.wrap ((k : Int) - 2) = j2 := by rw [IntKind.wrap_i64]; omega
          have e7 : IntKind.i64.wrap ((k : Int) - 7) = j7 := by rw [IntKind.wrap_i64]; omega
          have e16 : IntKind.i64.wrap ((k : Int) - 16) = j16 := by rw [IntKind.wrap_i64]; omega
          have b15 : (j15 : Int) < 64 := by omega
          have b2 : (j2 : Int) < 64 := by omega
          have b7 : (j7 : Int) < 64 := by omega
          have b16 : (j16 : Int) < 64 := by omega
          have bk : (k : Int) < 64 := by omega
          have hl := wordsTo_length B k
          have c15 := cell_row HW.out.hw (rowTo_get (wordsTo B k) j15 (by omega))
          have c2 := cell_row HW.out.hw (rowTo_get (wordsTo B k) j2 (by omega))
          have c7 := cell_row HW.out.hw (rowTo_get (wordsTo B k) j7 (by omega))
          have c16 := cell_row HW.out.hw (rowTo_get (wordsTo B k) j16 (by omega))
          have HZ : Hid (word B (wordsTo B k) k = wNext ((wordsTo B k).getD j15 0) ((wordsTo B k).getD j2 0) ((wordsTo B k).getD j7 0) ((wordsTo B k).getD j16 0)) := by
            unfold Hid word
            rw [if_neg (by omega), hj15, hj2, hj7, hj16]
          generalize (wordsTo B k).getD j15 0 = x15 at c15 HZ
          generalize (wordsTo B k).getD j2 0 = x2 at c2 HZ
          generalize (wordsTo B k).getD j7 0 = x7 at c7 HZ
          generalize (wordsTo B k).getD j16 0 = x16 at c16 HZ
          have cw := cell_row HW.out.hw (rowTo_get0 (wordsTo B k) k (by omega) (by omega))
          have fw := frozen_of_row wr _ k _ _ HW.out.hw
          have HN : Hid (∀ W, W31 w B (wordsTo B k) W → W31 w B (wordsTo B (k + 1)) (W.setCell ⟨w.heap.size + 1 + 1, k, none⟩ (.int .u32 (wNext x15 x2 x7 x16)))) := by
            intro W hW
            have := hW.set (by omega) (wNext x15 x2 x7 x16)
            rw [hl] at this
            unfold wordsTo
            rw [HZ.out]
            exact this
          clear HZ hl hj15 hj2 hj7 hj16
          go_wp2
          go_quiet ((go_at_call 32; exact Calls.quiet_of (rotate32 _ _ (by decide) (by decide) _)))
          have c2' : (wr.drewN nq).cell? ⟨w.heap.size + 1 + 1, j2, none⟩ = some (.int .u32 x2) := c2
          have c7' : (wr.drewN nq).cell? ⟨w.heap.size + 1 + 1, j7, none⟩ = some (.int .u32 x7) := c7
          have c16' : (wr.drewN nq).cell? ⟨w.heap.size + 1 + 1, j16, none⟩ = some (.int .u32 x16) := c16
          have cw' : (wr.drewN nq).cell? ⟨w.heap.size + 1 + 1, k, none⟩ = some (.int .u32 0) := cw
          have fw' : (wr.drewN nq).frozen? ⟨w.heap.size + 1 + 1, k, none⟩ = false := fw
          have HW2 := Lib.hid (HW.out.drewN nq)
          clear c2 c7 c15 c16 cw fw HW
          generalize wr.drewN nq = w2 at c2' c7' c16' cw' fw' HW2 ⊢
          go_wp2
          go_quiet ((go_at_call 32; exact Calls.quiet_of (rotate32 _ _ (by decide) (by decide) _)))
          have c7 : (w2.drewN nq).cell? ⟨w.heap.size + 1 + 1, j7, none⟩ = some (.int .u32 x7) := c7'
          have c16 : (w2.drewN nq).cell? ⟨w.heap.size + 1 + 1, j16, none⟩ = some (.int .u32 x16) := c16'
          have cw : (w2.drewN nq).cell? ⟨w.heap.size + 1 + 1, k, none⟩ = some (.int .u32 0) := cw'
          have fw : (w2.drewN nq).frozen? ⟨w.heap.size + 1 + 1, k, none⟩ = false := fw'
          have HN2 := Lib.hid (HN.out _ (HW2.out.drewN nq))
          clear c7' c16' cw' fw' c2' HN HW2
          generalize w2.drewN nq = w3 at c7 c16 cw fw HN2 ⊢
          go_wp2
          go_still_tail 15, (by kernel_rfl)
          change wpList _ _ _ _ _ (World.drew _)
          go_wp2
          go_roundw
          case rel =>
            refine ⟨k + 1, by omega, by omega, by go_num, ?_⟩
            show W31 _ _ _ _
            repeat (first | exact HN2.out | refine W31.drew ?_ | refine W31.drewN ?_ _)
          case measure => simp [intOf]; omega
        · have hk64 : k = 64 := by omega
          subst hk64
          have hfull : rowTo (wordsTo B 64) = wordsV (wordsTo B 64) := rowTo_full _ (wordsTo_length B 64)
          have hws : (wordsV (wordsTo B 64)).length = 64 := by simp [wordsV, wordsTo_length]
          have hg2 := HW.out.hw
          have hg1 := HW.out.hr
          rw [hfull] at hg2
          have HBW := Lib.hid HW.out.below
          have H1 := Lib.hid (words_oneCell (wordsTo B 64))
          have hi : (Tryd.prog.info? 55).map (·.size) = some 64 := by kernel_rfl
          have HI := Lib.hid hi
          clear hi
          clear hfull HW hlt hk hk0
          generalize hl : wordsTo B 64 = l at hg2 hws H1
          have HL := Lib.hid hl
          clear hl
          go_wp2_with (first | (refine wpList_load_row rfl 55 _ rfl _ rfl 55 _ (0, 0) _ hg2 Tryd.underlying55 rfl (by simpa [hws] using HI.out) ?_) | (refine wpList_store_row rfl 55 _ _ rfl _ _ rfl rfl 55 _ hg1 (by simpa [hws] using HI.out) (by simp [hws, rowTo_length]) H1.out ?_))
          refine bodyPost_ret (results_cell_row (p := 2) (ty := 55) rfl _ _ (w.heap.size + 1) 55 (wordsV l).toArray (0, 0) _ ?hp (setRow_heap wr (w.heap.size + 1) _ _ 55 (0, 0) hg1) Tryd.underlying55 rfl (by simpa [hws] using HI.out)) rfl ?_
          case hp => simp [Act.put]
          exact ⟨by rw [HL.out], HBW.out.trans ⟨rfl, rfl, rfl, by simp, fun i hi => setRow_other _ _ _ _ (by omega)⟩⟩
end Go.Proofs.YtpabggcjmaobhaaDoor
