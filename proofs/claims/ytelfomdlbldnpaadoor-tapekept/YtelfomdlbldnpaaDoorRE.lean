/-
  Contract of the document's New. No condition.
-/
import Derived.Test.YtelfomdlbldnpaaDoorRD
namespace Go.Proofs.YtelfomdlbldnpaaDoor
open Go.RowKit

theorem Tryd.info9 : (Tryd.prog.info? 9).map (fun i => (i.zero, i.size, i.bytes)) = some (some (.string ByteArray.empty), 1, 16) := by kernel_rfl
theorem info9 : ∃ i, Tryd.prog.info? 9 = some i ∧ i.zero = some (.string ByteArray.empty) ∧ i.size = 1 ∧ i.bytes = 16 := by
  have h := Tryd.info9
  cases hq : Tryd.prog.info? 9 with
  | none => simp [hq] at h
  | some i =>
    simp [hq] at h
    exact ⟨i, rfl, h.1, h.2.1, h.2.2⟩
theorem run_make64 (w : World) : (Instr.makeSlice 70 (.int .i64 64) (.int .i64 64)).run Tryd.prog w = .ok (.slice (some ⟨w.heap.size, 0, none⟩) 64 64) (w.alloc (.cells z64c.toArray 5)) := by
  obtain ⟨i0, hi, hz0, hz1, hz2⟩ := info5
  have h := run_make (P := Tryd.prog) w 70 5 i0 _ Tryd.underlying70 hi hz0 .i64 .i64 64 64 (by omega) (Int.le_refl _) (by rw [hz2]; omega) (by omega)
  rw [hz1] at h
  have e : madeCells (Value.int .u8 0).cells (Int.toNat 64 * 1) = z64c.toArray := by
    have := made64
    rw [← this]; rfl
  rw [e] at h
  exact h
theorem conv64 (w : World) : (convert 70 9 (.slice (some ⟨w.heap.size, 0, none⟩) 64 64)).run Tryd.prog (w.alloc (.cells z64c.toArray 5)) = .ok (.string z64) (w.alloc (.cells z64c.toArray 5)) :=
  conv_range _ _ _ _ _ rfl (by rw [secC_z64]; exact range_alloc w _ _)
theorem strs_snoc (n : Nat) : strs (List.replicate (n + 1) z64) = strs (List.replicate n z64) ++ [.string z64] := by
  rw [List.replicate_succ', strs, List.map_append]; rfl

theorem RAt.made {w w' : World} {b : Nat} {d : D} {v1 v2 : Value} (hok : Ok d) (hb : w.heap.size ≤ b)
    (hr : w'.heap[b]? = some (.cells #[v1, v2, .int .i64 d.fuse, .bool d.gone] 69 (0, 0))) (o1 : w'.ownsRow w.heap.size 9 1 v1 d.S.length (strs d.S)) (o2 : w'.ownsRow w.heap.size 102 2 v2 d.W.length (putCells d.W))
    (n1 : v1.ownBlock ≠ some b) (n2 : v2.ownBlock ≠ some b) (n12 : ∀ k, v1.ownBlock = some k → v2.ownBlock ≠ some k) : RAt w' (New w w') b d :=
  ⟨v1, v2, ⟨hr, row_base o1 (Nat.zero_le _), row_base o2 (Nat.zero_le _), n1, n2, n12, ⟨hb, (Array.getElem?_eq_some_iff.1 hr).1⟩, fun _ hk => ⟨row_ge o1 hk, row_lt o1 hk⟩, fun _ hk => ⟨row_ge o2 hk, row_lt o2 hk⟩⟩, hok, fun _ hk => hk.2⟩

set_option maxRecDepth 100000 in
set_option maxHeartbeats 1000000 in
theorem refNew10 (n : Nat) (h1 : 1 ≤ n) (h2 : n ≤ 4096) (w : World) :
    Calls Tryd.prog 10 #[.int .i64 (n : Int)] w fun e w' => e = .returned (.tuple #[.pointer (some ⟨w.heap.size, 0, none⟩), .int .i64 0]) ∧ RAt w' (New w w') w.heap.size (newD n) ∧ Below w.heap.size w w' := by
  have t1 : decide ((n : Int) < 1) = false := by simp; omega
  have t2 : decide ((4096 : Int) < (n : Int)) = false := by simp; omega
  have HR0 : Hid ((w.alloc (.cells #[.slice none 0 0, .slice none 0 0, .int .i64 (-1), .bool false] 69)).heap[w.heap.size]? = some (.cells #[.slice none 0 0, .slice none 0 0, .int .i64 (-1), .bool false] 69 (0, 0))) := heap_alloc_new _ _
  have HB0 : Hid (Below w.heap.size w (w.alloc (.cells #[.slice none 0 0, .slice none 0 0, .int .i64 (-1), .bool false] 69))) := (Below.refl _ _).alloc (Nat.le_refl _) _
  obtain ⟨i9, hi9, hz90, hz91, hz92⟩ := info9
  have hmk := run_make64
  have hcv := conv64
  have HSN := Lib.hid strs_snoc
  have HNW : Hid (newD n = ⟨List.replicate n z64, [], -1, false⟩) := rfl
  have HOK := Lib.hid (Ok.new n h1 h2)
  generalize z64c.toArray = Z at hmk hcv
  generalize z64 = z at hcv HSN HNW
  go_enter Tryd.func10, Tryd.ntmps10
  go_wp2
  go_loopw [5] (fun s5 wr => ∃ (k : Nat) (v1 : Value), k ≤ n ∧ s5 = .int .i64 k ∧ Hid (wr.heap[w.heap.size]? = some (.cells #[v1, .slice none 0 0, .int .i64 (-1), .bool false] 69 (0, 0))) ∧ Hid (wr.ownsRow (w.heap.size + 1) 9 1 v1 k (strs (List.replicate k z))) ∧ Hid (Below w.heap.size w wr)) (fun s5 _ => n - (intOf s5).toNat)
  case atStart => exact ⟨0, .slice none 0 0, by omega, rfl, HR0, World.ownsRow_nil _ _ _ _, HB0⟩
  case round =>
    obtain ⟨k, v1, hk, rfl, HR, HO, HB⟩ := hrel
    by_cases hlt : k < n
    · obtain ⟨a, cp, rfl⟩ := row_slice HO.out
      have c0 : wr.drew.cell? ⟨w.heap.size, 0, none⟩ = some (.slice a k cp) := cell_row (t := 69) HR.out rfl
      have f0 : wr.drew.frozen? ⟨w.heap.size, 0, none⟩ = false := frozen_of_row wr.drew _ _ _ _ HR.out
      have hblt : w.heap.size < wr.drew.heap.size := (Array.getElem?_eq_some_iff.1 HR.out).1
      have HOW : Hid (((wr.drew.alloc (.cells Z 5)).alloc (.cells #[.string z] 9)).ownsRow (w.heap.size + 1) 9 1 (.slice a k cp) k (strs (List.replicate k z))) := World.ownsRow.alloc (World.ownsRow.alloc (row_keep HO.out (fun _ _ => rfl)) _) _
      have HNE : Hid (∀ j u, ([.string z] : List Value)[j]? = some u → ((wr.drew.alloc (.cells Z 5)).alloc (.cells #[.string z] 9)).cell? ((⟨wr.heap.size + 1, 0, none⟩ : Addr).add j) = some u) := fun j u hu => World.news_of_block (cs := #[.string z]) (t := 9) (fr := (0, 0)) (by have := heap_alloc_new (wr.drew.alloc (.cells Z 5)) (.cells #[.string z] 9); simpa using this) j u hu
      have HBA : Hid (Below wr.heap.size wr ((wr.drew.alloc (.cells Z 5)).alloc (.cells #[.string z] 9))) := (((Below.refl _ wr).drew).alloc (Nat.le_refl _) _).alloc (by simp) _
      have HSZ : Hid (w.heap.size + 1 ≤ ((wr.drew.alloc (.cells Z 5)).alloc (.cells #[.string z] 9)).heap.size) := Nat.le_trans hblt HBA.out.size
      have HC4 : Hid (∀ w4, ((wr.drew.alloc (.cells Z 5)).alloc (.cells #[.string z] 9)).grownBy w4 (Value.ownBlock (.slice a k cp)) → w4.heap[w.heap.size]? = some (.cells #[.slice a k cp, .slice none 0 0, .int .i64 (-1), .bool false] 69 (0, 0))) := by
        intro w4 hg4
        rw [hg4.block _ (by have := HSZ.out; omega) (fun e => by have := row_ge HO.out e.symm; omega), HBA.out.block _ hblt]
        exact HR.out
      have HFIN : Hid (∀ w4 g' cap, w4.ownsRow (w.heap.size + 1) 9 1 (.slice (some ⟨g', 0, none⟩) (k + 1) cap) (k + 1) (strs (List.replicate k z) ++ [.string z]) → ((wr.drew.alloc (.cells Z 5)).alloc (.cells #[.string z] 9)).grownBy w4 (Value.ownBlock (.slice a k cp)) →
          (w4.setCell ⟨w.heap.size, 0, none⟩ (.slice (some ⟨g', 0, none⟩) (k + 1) cap)).heap[w.heap.size]? = some (.cells #[.slice (some ⟨g', 0, none⟩) (k + 1) cap, .slice none 0 0, .int .i64 (-1), .bool false] 69 (0, 0)) ∧ (w4.setCell ⟨w.heap.size, 0, none⟩ (.slice (some ⟨g', 0, none⟩) (k + 1) cap)).ownsRow (w.heap.size + 1) 9 1 (.slice (some ⟨g', 0, none⟩) (k + 1) cap) (k + 1) (strs (List.replicate (k + 1) z)) ∧ Below w.heap.size w (w4.setCell ⟨w.heap.size, 0, none⟩ (.slice (some ⟨g', 0, none⟩) (k + 1) cap))) := by
        intro w4 g' cap ho4 hg4
        refine ⟨?_, ?_, ?_⟩
        · rw [heap_setCell_same _ _ _ _ _ _ (HC4.out w4 hg4)]; rfl
        · rw [HSN.out]
          exact row_keep ho4 (fun i hi => Below.heap_setCell _ _ _ _ (fun e => by have := row_ge ho4 hi; have e : i = w.heap.size := e; omega))
        · exact ((HB.out.trans (HBA.out.mono HB.out.size)).grown hg4 (by have := HSZ.out; omega) (fun i e => by have := row_ge HO.out e; omega)).setCell (Nat.le_refl _) _
      have c0a : (wr.alloc (.cells Z 5)).cell? ⟨w.heap.size, 0, none⟩ = some (.slice a k cp) := (((Below.refl wr.heap.size wr).alloc (Nat.le_refl _) (.cells Z 5)).cell (p := ⟨w.heap.size, 0, none⟩) hblt).trans c0
      have c0b : ((wr.alloc (.cells Z 5)).alloc (.cells #[.string z] 9)).cell? ⟨w.heap.size, 0, none⟩ = some (.slice a k cp) := (((((Below.refl wr.heap.size wr).alloc (Nat.le_refl _) (.cells Z 5))).alloc (by simp) (.cells #[.string z] 9)).cell (p := ⟨w.heap.size, 0, none⟩) hblt).trans c0
      have hcv2 : (convert 70 9 (.slice (some ⟨wr.heap.size, 0, none⟩) 64 64)).run Tryd.prog (wr.alloc (.cells Z 5)).drew = .ok (.string z) (wr.alloc (.cells Z 5)).drew := hcv wr.drew
      clear HR HO HB
      go_wp2_with fail
      go_region_law (refine step_append_lies _ rfl (.tmp 23) (.tmp 26) 41 rfl (w.heap.size + 1) 9 i9 _ 1 16 Tryd.underlying41 hi9 hz90 hz91 hz92 rfl (by omega) (.slice a k cp) k (strs (List.replicate k z)) (by simp [Act.eval]) HOW.out ⟨wr.heap.size + 1, 0, none⟩ 1 1 [.string z] (by simp [Act.eval]) rfl HNE.out (by intro u hu; simp at hu; subst hu; rfl) (by omega) (by unfold maxLen; omega) (by omega) HSZ.out _ rfl ?_; intro g' cap w4 ho4 hg4 hat4 hlt4; have r0 := cell_row (j := 0) (HC4.out _ hg4) rfl; have r0f := frozen_of_row _ _ 0 _ _ (HC4.out _ hg4); have HF := Lib.hid (HFIN.out _ _ _ ho4 hg4); clear ho4 hg4 hat4 hlt4)
      all_goals
        go_wp2
        go_roundw
        case rel => exact ⟨k + 1, _, by omega, by go_num, HF.out.1, HF.out.2.1, HF.out.2.2⟩
        case measure => simp [intOf]; omega
    · have hkn : k = n := by omega
      subst hkn
      have HFIN : Hid (RAt wr (New w wr) w.heap.size (newD k)) := by
        have hl : (newD k).S.length = k := by simp [newD]
        refine RAt.made HOK.out (Nat.le_refl _) (v1 := v1) (v2 := .slice none 0 0) ?_ ?_ ?_ (fun e => by have := row_ge HO.out e; omega) (by simp [Value.ownBlock]) (fun _ _ => by simp [Value.ownBlock])
        · rw [HNW.out]; exact HR.out
        · rw [hl, HNW.out]; exact row_base HO.out (by omega)
        · rw [HNW.out]; exact World.ownsRow_nil _ _ _ _
      go_wp2
      go_ret2
      exact ⟨rfl, HFIN.out, HB.out⟩
set_option maxHeartbeats 1000000 in
theorem refNew10_no (n : Int) (h : n < 1 ∨ 4096 < n) (w : World) :
    Calls Tryd.prog 10 #[.int .i64 n] w fun e w' => e = .returned (.tuple #[.pointer none, .int .i64 2]) ∧ w = w' := by
  by_cases h1 : n < 1
  · have t1 : decide (n < 1) = true := by simpa using h1
    clear h
    go_enter Tryd.func10, Tryd.ntmps10
    go_wp2
    go_ret2
    exact ⟨rfl, rfl⟩
  · have t1 : decide (n < 1) = false := by simpa using h1
    have t2 : decide (4096 < n) = true := by simp; omega
    clear h
    go_enter Tryd.func10, Tryd.ntmps10
    go_wp2
    go_ret2
    exact ⟨rfl, rfl⟩
end Go.Proofs.YtelfomdlbldnpaaDoor
