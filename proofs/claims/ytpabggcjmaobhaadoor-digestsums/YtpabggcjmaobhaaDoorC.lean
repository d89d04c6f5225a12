import Derived.Test.YtpabggcjmaobhaaDoorB
namespace Go.Proofs.YtpabggcjmaobhaaDoor
open Go.RowKit

abbrev st8 (a b c d e f g h : Int) : Array Value := #[.int .u32 a, .int .u32 b, .int .u32 c, .int .u32 d, .int .u32 e, .int .u32 f, .int .u32 g, .int .u32 h]

theorem three_blocks (w : World) (A B C : Obj) :
    (((w.alloc A).alloc B).alloc C).heap[w.heap.size]? = some A ∧ (((w.alloc A).alloc B).alloc C).heap[w.heap.size + 1]? = some B ∧ (((w.alloc A).alloc B).alloc C).heap[w.heap.size + 1 + 1]? = some C ∧ (((w.alloc A).alloc B).alloc C).heap.size = w.heap.size + 1 + 1 + 1 ∧ Below w.heap.size w (((w.alloc A).alloc B).alloc C) := by
  refine ⟨?_, ?_, ?_, by simp, ?_⟩
  · rw [Below.heap_alloc _ _ _ (by simp; omega), Below.heap_alloc _ _ _ (by simp), heap_alloc_new]
  · have := heap_alloc2_old (w.alloc A) B C
    simpa using this
  · have := heap_alloc2_new (w.alloc A) B C
    simpa using this
  · exact (((Below.refl _ _).alloc (Nat.le_refl _) _).alloc (by simp) _).alloc (by simp; omega) _

/-- The round keys lie in block 1. -/
def KeysAt (w : World) (K : List Int) : Prop := ∀ i, i < 64 → w.cell? ⟨1, i, none⟩ = some (.int .u32 (K.getD i 0))

structure A25 (w : World) (S : Array Value) (p : Nat) (W K : List Int) (wr : World) : Prop where
  hs : wr.heap[w.heap.size]? = some (.cells S 39 (0, 0))
  hr : wr.heap[w.heap.size + 1 + 1]? = some (.cells (st8 0 0 0 0 0 0 0 0) 39 (0, 0))
  hw : wr.heap[p]? = some (.cells (wordsV W).toArray 55 (0, 0))
  hk : KeysAt wr K
  below : Below w.heap.size w wr
theorem A25.drewN {w : World} {S : Array Value} {p : Nat} {W K : List Int} {wr : World} (h : A25 w S p W K wr) (n : Nat) : A25 w S p W K (wr.drewN n) := ⟨h.hs, h.hr, h.hw, h.hk, h.below.trans ⟨rfl, rfl, rfl, Nat.le_refl _, fun _ _ => rfl⟩⟩

theorem a25_start {w w0 w1 : World} {S : Array Value} {W K : List Int} {z : Array Value} (hk : KeysAt w K) (hs2 : 2 ≤ w.heap.size) (h0 : w0.heap[w.heap.size]? = some (.cells S 39 (0, 0)))
    (h2 : w0.heap[w.heap.size + 1 + 1]? = some (.cells (st8 0 0 0 0 0 0 0 0) 39 (0, 0))) (hsz : w0.heap.size = w.heap.size + 1 + 1 + 1) (hb0 : Below w.heap.size w w0) (hb : Below w0.heap.size w0 w1) :
    A25 w S w1.heap.size W K ((w1.alloc (.cells z 55)).setRow w1.heap.size (wordsV W).toArray) := by
  have hle := hb.size
  have hB : Below w.heap.size w ((w1.alloc (.cells z 55)).setRow w1.heap.size (wordsV W).toArray) := by
    refine ((hb0.trans (hb.mono (by omega))).alloc (by omega) _).trans ⟨rfl, rfl, rfl, by simp, fun i hi => setRow_other _ _ _ _ (by omega)⟩
  refine ⟨?_, ?_, ?_, ?_, hB⟩
  · rw [setRow_other _ _ _ _ (by omega), Below.heap_alloc _ _ _ (by omega), hb.block _ (by omega), h0]
  · rw [setRow_other _ _ _ _ (by omega), Below.heap_alloc _ _ _ (by omega), hb.block _ (by omega), h2]
  · exact setRow_heap _ _ _ _ _ _ (heap_alloc_new _ _)
  · intro i hi
    rw [hB.cell (show (1 : Nat) < w.heap.size by omega)]
    exact hk i hi

theorem St.oneCell (s : St) : s.cells.all (·.oneCell') = true := by
  rw [Array.all_eq_true_iff_forall_mem]
  intro v hv
  simp [St.cells] at hv
  rcases hv with rfl | rfl | rfl | rfl | rfl | rfl | rfl | rfl <;> rfl

/-- The state behind k rounds. -/
def Upto (K W : List Int) (s : St) (k : Nat) (a b c d e f g h : Int) : Prop := stepsTo K W s k = ⟨a, b, c, d, e, f, g, h⟩

set_option maxRecDepth 100000 in
set_option maxHeartbeats 600000 in
theorem after25 (a b c d e f g h : Int) (B : List UInt8) (K : List Int) (hB : B.length = 64) (w : World) (hK : KeysAt w K) (hs2 : 2 ≤ w.heap.size) :
    Calls Tryd.prog 25 #[.agg (st8 a b c d e f g h), .agg (bytesV B).toArray] w fun x w' => x = .returned (.agg (afterM K ⟨a, b, c, d, e, f, g, h⟩ B).cells) ∧ Below w.heap.size w w' := by
  have hsz : (bytesV B).length = 64 := by simp [bytesV, hB]
  have HC : Hid (∀ W, Calls Tryd.prog 31 #[.agg (bytesV B).toArray] W fun e w' => e = .returned (.agg (wordsV (wordsTo B 64)).toArray) ∧ Below W.heap.size W w') := words31 B hB
  have hwl := wordsTo_length B 64
  generalize hW : wordsTo B 64 = W at HC hwl
  have HWE := Lib.hid hW
  clear hW
  obtain ⟨R, hR⟩ : ∃ R, (afterM K ⟨a, b, c, d, e, f, g, h⟩ B).cells = R := ⟨_, rfl⟩
  rw [hR]
  have HR := Lib.hid hR
  clear hR
  have hws : (wordsV W).length = 64 := by simp [wordsV, hwl]
  have H1 := Lib.hid (words_oneCell W)
  have hi41 : (Tryd.prog.info? 41).map (·.size) = some 64 := by kernel_rfl
  have HI41 := Lib.hid hi41
  clear hi41
  have hi55 : (Tryd.prog.info? 55).map (·.size) = some 64 := by kernel_rfl
  have HI55 := Lib.hid hi55
  clear hi55
  have HK := Lib.hid hK
  clear hK
  have HT := Lib.hid (three_blocks w (.cells (st8 a b c d e f g h) 39) (.cells (bytesV B).toArray 41) (.cells (st8 0 0 0 0 0 0 0 0) 39))
  go_enter Tryd.func25, Tryd.ntmps25
  go_wp2_with (refine wpList_load_row rfl 41 _ rfl (w.heap.size + 1) rfl 41 _ (0, 0) _ HT.out.2.1 Tryd.underlying41 rfl (by simpa [hsz] using HI41.out) ?_)
  refine (HC.out _).mono ?_
  rintro e' w1 ⟨rfl, hb1⟩
  have HA := Lib.hid (a25_start (W := W) (K := K) (z := (rowTo []).toArray) HK.out hs2 HT.out.1 HT.out.2.2.1 HT.out.2.2.2.1 HT.out.2.2.2.2 hb1)
  clear hb1 HT HC
  have HZ := Lib.hid cells0
  go_wp2_with (refine wpList_store_row rfl 55 _ _ rfl w1.heap.size _ rfl rfl 55 _ (heap_alloc_new _ _) (by simpa [hws] using HI55.out) (by simp [hws]) H1.out ?_)
  rw [HZ.out]
  generalize (w1.alloc (.cells (rowTo []).toArray 55)).setRow w1.heap.size (wordsV W).toArray = w2 at HA ⊢
  generalize w1.heap.size = p at HA ⊢
  clear HZ
  have s0 : w2.cell? ⟨w.heap.size, 0, none⟩ = some (.int .u32 a) := by rw [cell_of_row _ _ _ _ _ _ HA.out.hs]; rfl
  have s1 : w2.cell? ⟨w.heap.size, 1, none⟩ = some (.int .u32 b) := by rw [cell_of_row _ _ _ _ _ _ HA.out.hs]; rfl
  have s2 : w2.cell? ⟨w.heap.size, 2, none⟩ = some (.int .u32 c) := by rw [cell_of_row _ _ _ _ _ _ HA.out.hs]; rfl
  have s3 : w2.cell? ⟨w.heap.size, 3, none⟩ = some (.int .u32 d) := by rw [cell_of_row _ _ _ _ _ _ HA.out.hs]; rfl
  have s4 : w2.cell? ⟨w.heap.size, 4, none⟩ = some (.int .u32 e) := by rw [cell_of_row _ _ _ _ _ _ HA.out.hs]; rfl
  have s5 : w2.cell? ⟨w.heap.size, 5, none⟩ = some (.int .u32 f) := by rw [cell_of_row _ _ _ _ _ _ HA.out.hs]; rfl
  have s6 : w2.cell? ⟨w.heap.size, 6, none⟩ = some (.int .u32 g) := by rw [cell_of_row _ _ _ _ _ _ HA.out.hs]; rfl
  have s7 : w2.cell? ⟨w.heap.size, 7, none⟩ = some (.int .u32 h) := by rw [cell_of_row _ _ _ _ _ _ HA.out.hs]; rfl
  go_quiet (fail)
  have HA2 := Lib.hid (HA.out.drewN nq)
  clear s0 s1 s2 s3 s4 s5 s6 s7 HA
  generalize w2.drewN nq = w3 at HA2 ⊢
  go_wp2
  go_loopw [6, 7, 8, 9, 10, 11, 12, 13, 39] (fun a6 a7 a8 a9 a10 a11 a12 a13 a39 wr => ∃ (k : Nat) (a' b' c' d' e' f' g' h' : Int), k ≤ 64 ∧ a39 = .int .i64 k ∧ a6 = .int .u32 a' ∧ a7 = .int .u32 b' ∧ a8 = .int .u32 c' ∧ a9 = .int .u32 d' ∧ a10 = .int .u32 e' ∧ a11 = .int .u32 f' ∧ a12 = .int .u32 g' ∧ a13 = .int .u32 h' ∧ Hid (A25 w (st8 a b c d e f g h) p W K wr) ∧ Upto K W ⟨a, b, c, d, e, f, g, h⟩ k a' b' c' d' e' f' g' h') (fun _ _ _ _ _ _ _ _ a39 _ => 64 - (intOf a39).toNat)
  case atStart => exact ⟨0, a, b, c, d, e, f, g, h, by omega, rfl, rfl, rfl, rfl, rfl, rfl, rfl, rfl, rfl, HA2, rfl⟩
  case round =>
    obtain ⟨k, a', b', c', d', e', f', g', h', hk, rfl, rfl, rfl, rfl, rfl, rfl, rfl, rfl, rfl, HA, HS⟩ := hrel
    by_cases hlt : k < 64
    · have bk : (k : Int) < 64 := by omega
      have cw : wr.cell? ⟨p, k, none⟩ = some (.int .u32 (W.getD k 0)) := cell_row HA.out.hw (by simp [wordsV, hwl, hlt])
      have ck := HA.out.hk k hlt
      have HN : Hid (stepsTo K W ⟨a, b, c, d, e, f, g, h⟩ (k + 1) = stepM ⟨a', b', c', d', e', f', g', h'⟩ (K.getD k 0) (W.getD k 0)) := by
        unfold Hid stepsTo
        rw [show stepsTo K W ⟨a, b, c, d, e, f, g, h⟩ k = _ from HS]
      generalize W.getD k 0 = x at cw HN
      generalize K.getD k 0 = y at ck HN
      clear HS HA2 HWE HR
      go_wp2_with (go_at_call 32; refine (rotate32 _ _ (by decide) (by decide) _).mono ?_; rintro e' w' ⟨rfl, m, rfl⟩)
      go_quiet (fail)
      go_wp2_with (go_at_call 32; refine (rotate32 _ _ (by decide) (by decide) _).mono ?_; rintro e' w' ⟨rfl, m, rfl⟩)
      go_roundw
      case rel =>
        exact ⟨k + 1, _, _, _, _, _, _, _, _, by omega, by go_num, rfl, rfl, rfl, rfl, rfl, rfl, rfl, rfl, HA.out.drewN _, HN⟩
      case measure => simp [intOf]; omega
    · have hk64 : k = 64 := by omega
      rw [hk64] at HS
      have s0 : wr.cell? ⟨w.heap.size, 0, none⟩ = some (.int .u32 a) := by rw [cell_of_row _ _ _ _ _ _ HA.out.hs]; rfl
      have s1 : wr.cell? ⟨w.heap.size, 1, none⟩ = some (.int .u32 b) := by rw [cell_of_row _ _ _ _ _ _ HA.out.hs]; rfl
      have s2 : wr.cell? ⟨w.heap.size, 2, none⟩ = some (.int .u32 c) := by rw [cell_of_row _ _ _ _ _ _ HA.out.hs]; rfl
      have s3 : wr.cell? ⟨w.heap.size, 3, none⟩ = some (.int .u32 d) := by rw [cell_of_row _ _ _ _ _ _ HA.out.hs]; rfl
      have s4 : wr.cell? ⟨w.heap.size, 4, none⟩ = some (.int .u32 e) := by rw [cell_of_row _ _ _ _ _ _ HA.out.hs]; rfl
      have s5 : wr.cell? ⟨w.heap.size, 5, none⟩ = some (.int .u32 f) := by rw [cell_of_row _ _ _ _ _ _ HA.out.hs]; rfl
      have s6 : wr.cell? ⟨w.heap.size, 6, none⟩ = some (.int .u32 g) := by rw [cell_of_row _ _ _ _ _ _ HA.out.hs]; rfl
      have s7 : wr.cell? ⟨w.heap.size, 7, none⟩ = some (.int .u32 h) := by rw [cell_of_row _ _ _ _ _ _ HA.out.hs]; rfl
      have HF : Hid (afterM K ⟨a, b, c, d, e, f, g, h⟩ B = addSt ⟨a, b, c, d, e, f, g, h⟩ ⟨a', b', c', d', e', f', g', h'⟩) := by
        unfold Hid afterM
        rw [HWE.out, show stepsTo K W ⟨a, b, c, d, e, f, g, h⟩ 64 = _ from HS]
      have hi39 : (Tryd.prog.info? 39).map (·.size) = some 8 := by kernel_rfl
      have HI39 := Lib.hid hi39
      have hg1 := HA.out.hr
      have HBW := Lib.hid HA.out.below
      clear hi39 hk64 hk HS HA2 HK HWE HA
      go_wp2_with (refine wpList_store_row rfl 39 _ _ rfl (w.heap.size + 1 + 1) (addSt ⟨a, b, c, d, e, f, g, h⟩ ⟨a', b', c', d', e', f', g', h'⟩).cells rfl rfl 39 _ hg1 HI39.out (by rfl) (St.oneCell _) ?_)
      refine bodyPost_ret (results_cell_row (p := 4) (ty := 39) rfl _ _ (w.heap.size + 1 + 1) 39 (addSt ⟨a, b, c, d, e, f, g, h⟩ ⟨a', b', c', d', e', f', g', h'⟩).cells (0, 0) _ ?hp (setRow_heap wr (w.heap.size + 1 + 1) _ _ 39 (0, 0) hg1) Tryd.underlying39 rfl (by exact HI39.out)) rfl ?_
      case hp => simp [Act.put]
      exact ⟨by rw [← HR.out, HF.out], HBW.out.trans ⟨rfl, rfl, rfl, by simp, fun i hi => setRow_other _ _ _ _ (by omega)⟩⟩
end Go.Proofs.YtpabggcjmaobhaaDoor
