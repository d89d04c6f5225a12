/-
  The document's words of a block.
-/
import Derived.Test.YtpabggcjmaobhaaDoorB
import Derived.Test.YtpabggcjmaobhaaDoorI
namespace Go.Proofs.YtpabggcjmaobhaaDoor
open Go.RowKit

/-- The two blocks of the document's words. -/
structure W28 (w : World) (l : List Int) (wr : World) : Prop where
  hr : wr.heap[w.heap.size]? = some (.cells (rowTo []).toArray 55 (0, 0))
  hw : wr.heap[w.heap.size + 1]? = some (.cells (rowTo l).toArray 55 (0, 0))
  below : Below w.heap.size w wr
theorem W28.drew {w : World} {l : List Int} {wr : World} (h : W28 w l wr) : W28 w l wr.drew := ⟨h.hr, h.hw, h.below.drew⟩
theorem W28.drewN {w : World} {l : List Int} {wr : World} (h : W28 w l wr) : ∀ n, W28 w l (wr.drewN n)
  | 0 => h
  | n + 1 => (h.drewN n).drew
theorem W28.set {w : World} {l : List Int} {wr : World} (h : W28 w l wr) (hl : l.length < 64) (z : Int) :
    W28 w (l ++ [z]) (wr.setCell ⟨w.heap.size + 1, l.length, none⟩ (.int .u32 z)) := by
  refine ⟨?_, ?_, h.below.setCell (by simp) _⟩
  · rw [heap_setCell_other _ _ _ _ (by simp)]; exact h.hr
  · rw [heap_setCell_same _ _ _ _ _ _ h.hw, ← rowTo_set l z hl]
    simp
theorem w28_start (w : World) (z : Array Value) (hz : z = (rowTo []).toArray) : W28 w [] ((w.alloc (.cells z 55)).alloc (.cells z 55)) := by
  subst hz
  exact ⟨heap_alloc2_old w _ _, heap_alloc2_new w _ _, ((Below.refl _ _).alloc (Nat.le_refl _) _).alloc (by simp) _⟩

set_option maxRecDepth 100000 in
set_option maxHeartbeats 800000 in
theorem refWords28 (s : ByteArray) (hs : s.size = 64) (w : World) :
    Calls Tryd.prog 28 #[.string s] w fun e w' => e = .returned (.agg (wordsV (wordsTo s.data.toList 64)).toArray) ∧ Below w.heap.size w w' := by
  have hst := Lib.hid (w28_start w _ cells0)
  obtain ⟨B, hBe⟩ : ∃ B, s.data.toList = B := ⟨_, rfl⟩
  rw [hBe]
  have HBE := Lib.hid hBe
  have HSS := Lib.hid hs
  clear hBe hs
  go_enter Tryd.func28, Tryd.ntmps28
  go_wp2
  go_loopw [4] (fun s4 wr => ∃ k : Nat, k ≤ 64 ∧ s4 = .int .i64 k ∧ Hid (W28 w (wordsTo B k) wr)) (fun s4 _ => 64 - (intOf s4).toNat)
  case atStart => exact ⟨0, by omega, rfl, hst⟩
  case round =>
    obtain ⟨k, hk, rfl, HW⟩ := hrel
    clear hst
    have hl := wordsTo_length B k
    by_cases hlt : k < 64
    · have bk : (k : Int) < 64 := by omega
      have cw := cell_row HW.out.hw (rowTo_get0 (wordsTo B k) k (by omega) (by omega))
      have fw := frozen_of_row wr _ k _ _ HW.out.hw
      by_cases h16 : k < 16
      · have HZ : Hid (word B (wordsTo B k) k = num4 (B.getD (4 * k) 0) (B.getD (4 * k + 1) 0) (B.getD (4 * k + 2) 0) (B.getD (4 * k + 3) 0)) := by
          unfold Hid word
          rw [if_pos h16]
        have HNUM : Hid (∀ W, Calls Tryd.prog 33 #[.string s, .int .i64 (4 * (k : Int))] W fun e w' => e = .returned (.int .u32 (word B (wordsTo B k) k)) ∧ ∃ m, w' = W.drewN m) := by
          intro W
          rw [HZ.out, show (4 * (k : Int)) = ((4 * k : Nat) : Int) by omega, ← HBE.out]
          exact number33 s (4 * k) (by rw [HSS.out]; omega) (by rw [HSS.out]; omega) W
        have HN : Hid (∀ z, word B (wordsTo B k) k = z → ∀ W, W28 w (wordsTo B k) W → W28 w (wordsTo B (k + 1)) (W.setCell ⟨w.heap.size + 1, k, none⟩ (.int .u32 z))) := by
          intro z hz W hW
          have := hW.set (by omega) z
          rw [hl] at this
          unfold wordsTo
          rw [hz]
          exact this
        have HN2 := Lib.hid (HN.out _ rfl)
        generalize word B (wordsTo B k) k = z at HNUM HN2
        clear HZ HN hl
        go_wp2_with (go_at_call 33; refine (HNUM.out _).mono ?_; rintro e w' ⟨rfl, m, rfl⟩)
        exact ⟨⟨k + 1, by omega, by go_num, HN2.out _ (HW.out.drewN m)⟩, by simp [intOf]; omega⟩
      · obtain ⟨j15, hj15⟩ : ∃ j, j = k - 15 := ⟨_, rfl⟩
        obtain ⟨j2, hj2⟩ : ∃ j, j = k - 2 := ⟨_, rfl⟩
        obtain ⟨j7, hj7⟩ : ∃ j, j = k - 7 := ⟨_, rfl⟩
        obtain ⟨j16, hj16⟩ : ∃ j, j = k - 16 := ⟨_, rfl⟩
        have e15 : IntKind.i64.wrap ((k : Int) - 15) = j15 := by rw [IntKind.wrap_i64]; omega
        have e2 : IntKind.i64.wrap ((k : Int) - 2) = j2 := by rw [IntKind.wrap_i64]; omega
        have e7 : IntKind.i64.wrap ((k : Int) - 7) = j7 := by rw [IntKind.wrap_i64]; omega
        have e16 : IntKind.i64.wrap ((k : Int) - 16) = j16 := by rw [IntKind.wrap_i64]; omega
        have b15 : (j15 : Int) < 64 := by omega
        have b2 : (j2 : Int) < 64 := by omega
        have b7 : (j7 : Int) < 64 := by omega
        have b16 : (j16 : Int) < 64 := by omega
        have c15 := cell_row HW.out.hw (rowTo_get (wordsTo B k) j15 (by omega))
        have c2 := cell_row HW.out.hw (rowTo_get (wordsTo B k) j2 (by omega))
        have c7 := cell_row HW.out.hw (rowTo_get (wordsTo B k) j7 (by omega))
        have c16 := cell_row HW.out.hw (rowTo_get (wordsTo B k) j16 (by omega))
        have HZ : Hid (word B (wordsTo B k) k = wNext ((wordsTo B k).getD j15 0) ((wordsTo B k).getD j2 0) ((wordsTo B k).getD j7 0) ((wordsTo B k).getD j16 0)) := by
          unfold Hid word
          rw [if_neg h16, hj15, hj2, hj7, hj16]
        generalize (wordsTo B k).getD j15 0 = x15 at c15 HZ
        generalize (wordsTo B k).getD j2 0 = x2 at c2 HZ
        generalize (wordsTo B k).getD j7 0 = x7 at c7 HZ
        generalize (wordsTo B k).getD j16 0 = x16 at c16 HZ
        have HN : Hid (∀ W, W28 w (wordsTo B k) W → W28 w (wordsTo B (k + 1)) (W.setCell ⟨w.heap.size + 1, k, none⟩ (.int .u32 (wNext x15 x2 x7 x16)))) := by
          intro W hW
          have := hW.set (by omega) (wNext x15 x2 x7 x16)
          rw [hl] at this
          unfold wordsTo
          rw [HZ.out]
          exact this
        clear HZ hl hj15 hj2 hj7 hj16
        go_wp2
        go_quiet (fail)
        have c7' : (wr.drewN nq).cell? ⟨w.heap.size + 1, j7, none⟩ = some (.int .u32 x7) := c7
        have c16' : (wr.drewN nq).cell? ⟨w.heap.size + 1, j16, none⟩ = some (.int .u32 x16) := c16
        have cw' : (wr.drewN nq).cell? ⟨w.heap.size + 1, k, none⟩ = some (.int .u32 0) := cw
        have fw' : (wr.drewN nq).frozen? ⟨w.heap.size + 1, k, none⟩ = false := fw
        have HW2 := Lib.hid (HW.out.drewN nq)
        clear c2 c7 c15 c16 cw fw HW
        generalize wr.drewN nq = w2 at c7' c16' cw' fw' HW2 ⊢
        have HQ : Hid (∀ m, (w2.drewN m).cell? ⟨w.heap.size + 1, j7, none⟩ = some (.int .u32 x7) ∧ (w2.drewN m).cell? ⟨w.heap.size + 1, j16, none⟩ = some (.int .u32 x16) ∧ (w2.drewN m).cell? ⟨w.heap.size + 1, k, none⟩ = some (.int .u32 0) ∧ (w2.drewN m).frozen? ⟨w.heap.size + 1, k, none⟩ = false ∧ W28 w (wordsTo B k) (w2.drewN m)) := fun m => ⟨c7', c16', cw', fw', HW2.out.drewN m⟩
        clear c7' c16' cw' fw' HW2
        go_wp2_with (go_at_call 29; refine (rot29 _ _ (by decide) (by decide) _).mono ?_; rintro e' w' ⟨rfl, m, rfl⟩)
        rename_i m1 m2 m3
        obtain ⟨d7, d16, dw, df, dW⟩ := HQ.out (m1 + m2 + m3 + m)
        have HN2 := Lib.hid (HN.out _ dW)
        clear HQ HN dW
        generalize w2.drewN (m1 + m2 + m3 + m) = w3 at d7 d16 dw df HN2 ⊢
        go_still_tail 15, (by kernel_rfl)
        change wpList _ _ _ _ _ (World.drew _)
        go_wp2
        exact ⟨⟨k + 1, by omega, by go_num, HN2.out.drew⟩, by simp [intOf]; omega⟩
    · have hk64 : k = 64 := by omega
      have hfull : rowTo (wordsTo B k) = wordsV (wordsTo B k) := rowTo_full _ (by omega)
      have hws : (wordsV (wordsTo B k)).length = 64 := by simp [wordsV, wordsTo_length]; omega
      have hg2 := HW.out.hw
      have hg1 := HW.out.hr
      rw [hfull] at hg2
      have HBW := Lib.hid HW.out.below
      have H1 := Lib.hid (words_oneCell (wordsTo B k))
      have hi : (Tryd.prog.info? 55).map (·.size) = some 64 := by kernel_rfl
      have HI := Lib.hid hi
      clear hi
      clear hfull HW hk hl
      generalize hl : wordsTo B k = l at hg2 hws H1
      have HL := Lib.hid hl
      have HK := Lib.hid hk64
      clear hl hk64
      go_wp2_with (first | (refine wpList_load_row rfl 55 _ rfl _ rfl 55 _ (0, 0) _ hg2 Tryd.underlying55 rfl (by simpa [hws] using HI.out) ?_) | (refine wpList_store_row rfl 55 _ _ rfl _ _ rfl rfl 55 _ hg1 (by simpa [hws] using HI.out) (by simp [hws, rowTo_length]) H1.out ?_))
      refine bodyPost_ret (results_cell_row (p := 2) (ty := 55) rfl _ _ w.heap.size 55 (wordsV l).toArray (0, 0) _ ?hp (setRow_heap wr w.heap.size _ _ 55 (0, 0) hg1) Tryd.underlying55 rfl (by simpa [hws] using HI.out)) rfl ?_
      case hp => simp [Act.put]
      exact ⟨by rw [← HL.out, HK.out], HBW.out.trans ⟨rfl, rfl, rfl, by simp, fun i hi => setRow_other _ _ _ _ (by omega)⟩⟩
end Go.Proofs.YtpabggcjmaobhaaDoor
