/-
  Contracts of Write (whole), New. No condition.
-/
import Derived.Test.YtjanddnlhaionaaGreatDoorL6J
namespace Go.Proofs.YtjanddnlhaionaaGreatDoor.L6
open Go.RowKit

set_option maxRecDepth 100000 in
set_option maxHeartbeats 1000000 in
theorem write18 {F : Nat → Prop} {b : Nat} {d : D} {w : World} (h : PAt w F b d) (i : Int) (s : ByteArray) (hw : d.W.length ≤ 1000000) :
    Calls Tryz.prog 199 #[.pointer (some ⟨b, 0, none⟩), .int .i64 i, .string s] w fun e w' => e = .returned (.int .i64 (writeE d i s)) ∧ PAt w' (Up F w w') b (writeD d i s) ∧ Turn F w w' := by
  cases hok : writeOk d i s with
  | false =>
    have e1 : writeE d i s = 2 := by simp [writeE, hok]
    have e2 : writeD d i s = d := by simp [writeD, hok]
    rw [e1, e2]
    have HE := Lib.hid (exists26 h)
    have HH := Lib.hid (has35 h i)
    have HP := Lib.hid h
    unfold writeOk at hok
    rw [Bool.and_eq_false_iff] at hok
    cases hb : hasB d i with
    | false =>
      rw [hb] at HH
      clear e1 e2 h hb hok hw
      go_enter Tryz.func199, Tryz.ntmps199
      go_wp2_with (first | (go_at_call 80; refine HE.out.mono ?_; rintro e w' ⟨rfl, rfl⟩) | (go_at_call 207; refine HH.out.mono ?_; rintro e w' ⟨rfl, rfl⟩))
      go_ret
      exact ⟨rfl, HP.out.up _, Turn.refl _ _⟩
    | true =>
      rw [hb] at HH
      have t64 : ((s.size : Int) != 64) = true := by
        rcases hok with h1 | h1
        · rw [hb] at h1; cases h1
        · have : ¬ s.size = 64 := by simpa using h1
          rw [bne_iff_ne]; omega
      clear e1 e2 h hb hok hw
      go_enter Tryz.func199, Tryz.ntmps199
      go_wp2_with (first | (go_at_call 80; refine HE.out.mono ?_; rintro e w' ⟨rfl, rfl⟩) | (go_at_call 207; refine HH.out.mono ?_; rintro e w' ⟨rfl, rfl⟩))
      go_ret
      exact ⟨rfl, HP.out.up _, Turn.refl _ _⟩
  | true =>
    have hok' := hok
    unfold writeOk at hok'
    rw [Bool.and_eq_true, decide_eq_true_eq] at hok'
    obtain ⟨hb, hs⟩ := hok'
    have hr := hasB_iff.1 hb
    obtain ⟨k, rfl⟩ : ∃ k : Nat, i = (k : Int) := ⟨i.toNat, by omega⟩
    cases hg : (burn d).gone with
    | false =>
      have e1 : writeE d (k : Int) s = 0 := by simp [writeE, hok, hg]
      have e2 : writeD d (k : Int) s = { burn d with W := d.W ++ [(k, s)] } := by simp [writeD, hok, hg]
      rw [e1, e2]
      exact write18_go h k s hw hok hg
    | true =>
      have e1 : writeE d (k : Int) s = 9 := by simp [writeE, hok, hg]
      have e2 : writeD d (k : Int) s = burn d := by simp [writeD, hok, hg]
      rw [e1, e2]
      have HE := Lib.hid (exists26 h)
      have HH := Lib.hid (has35 h (k : Int))
      have HSP := Lib.hid (spend37 h)
      rw [hg] at HSP
      rw [hb] at HH
      have t64 : ((s.size : Int) != 64) = false := by simp [hs]
      clear e1 e2 h hb hok hw hr hg hs
      go_enter Tryz.func199, Tryz.ntmps199
      go_wp2_with (first | (go_at_call 80; refine HE.out.mono ?_; rintro e w' ⟨rfl, rfl⟩) | (go_at_call 207; refine HH.out.mono ?_; rintro e w' ⟨rfl, rfl⟩))
      refine HSP.out.mono ?_
      rintro e w1 ⟨rfl, hP, hT, -⟩
      have HP1 := Lib.hid (hP.up w)
      have HT1 := Lib.hid hT
      clear hP hT
      go_wp2
      go_ret
      exact ⟨rfl, HP1.out, HT1.out⟩

/-! ### New -/
def New (w w' : World) : Nat → Prop := fun k => w.heap.size ≤ k ∧ k < w'.heap.size
set_option maxRecDepth 100000 in
theorem Tryz.info144 : (Tryz.prog.info? 144).map (fun i => (i.zero, i.size, i.bytes)) = some (some (.agg z64c.toArray), 64, 64) := by kernel_rfl
set_option maxRecDepth 100000 in
theorem info72 : ∃ i, Tryz.prog.info? 144 = some i ∧ i.zero = some (.agg z64c.toArray) ∧ i.size = 64 ∧ i.bytes = 64 := by
  have h := Tryz.info144
  cases hq : Tryz.prog.info? 144 with
  | none => simp [hq] at h
  | some i =>
    simp [hq] at h
    exact ⟨i, rfl, h.1, h.2.1, h.2.2⟩
set_option maxRecDepth 100000 in
theorem secC_z64 : secC z64 = z64c := by simp [secC, z64, z64c, bytesV]
set_option maxRecDepth 100000 in
theorem made72 (n : Nat) : (madeCells (Value.agg z64c.toArray).cells (n * 64)).toList = secCells (List.replicate n z64) := by
  have hz : (Value.agg z64c.toArray).cells = z64c.toArray := rfl
  have hzl : z64c.length = 64 := by simp [z64c]
  have hall : ∀ x ∈ List.replicate n z64, (secC x).length = 64 := fun x hx => by rw [List.eq_of_mem_replicate hx, secC_len]; rfl
  apply List.ext_getElem?
  intro i
  by_cases hi : i < n * 64
  · have hk : i / 64 < n := by omega
    have hj : i % 64 < 64 := by omega
    have hd : i = i / 64 * 64 + i % 64 := by omega
    have h2 := fm_get secC 64 (List.replicate n z64) hall (i / 64) z64 (by rw [List.getElem?_replicate]; simp [hk]) (i % 64) hj
    rw [← hd] at h2
    unfold secCells
    rw [h2, secC_z64]
    unfold madeCells
    rw [hz]
    simp only [Array.toList_map, Array.toList_range, List.getElem?_map, List.getElem?_range hi, Option.map_some, List.size_toArray, hzl]
    rw [List.getElem?_eq_getElem (by rw [hzl]; exact hj)]
    congr 1
    rw [getElem!_pos z64c.toArray (i % 64) (by simpa [hzl] using hj)]
    simp
  · rw [List.getElem?_eq_none (by simp [madeCells]; omega), List.getElem?_eq_none (by unfold secCells; rw [fm_len secC 64 _ hall]; simp; omega)]

set_option maxRecDepth 100000 in
set_option maxHeartbeats 1000000 in
theorem new9 (n : Nat) (h1 : 1 ≤ n) (h2 : n ≤ 4096) (w : World) :
    Calls Tryz.prog 28 #[.int .i64 (n : Int)] w fun e w' => e = .returned (.tuple #[.pointer (some ⟨w.heap.size + 1, 0, none⟩), .int .i64 0]) ∧ PAt w' (New w w') (w.heap.size + 1) (newD n) ∧ Below w.heap.size w w' := by
  obtain ⟨i0, hi, hz0, hz1, hz2⟩ := info72
  obtain ⟨w1, hm, ho, hg⟩ := run_make_full (P := Tryz.prog) w 0 117 144 i0 _ 64 Tryz.underlying117 hi hz0 hz1 .i64 .i64 n (by rw [hz2]; omega) (by unfold maxLen; omega) (Nat.zero_le _)
  rw [made72] at ho
  have hb1 : Below w.heap.size w w1 := (Below.refl _ _).grown hg (Nat.le_refl _) (fun k hk => by cases hk)
  have hg1 : w.heap.size < w1.heap.size := row_lt ho rfl
  have hs1 : w1.heap.size = w.heap.size + 1 := by
    have := run_make (P := Tryz.prog) w 117 144 i0 _ Tryz.underlying117 hi hz0 .i64 .i64 n n (by omega) (Int.le_refl _) (by rw [hz2]; omega) (by omega)
    rw [this] at hm
    injection hm with _ hw
    rw [← hw]
    simp
  have HFIN : Hid (PAt (w1.alloc (.cells #[.slice (some ⟨w.heap.size, 0, none⟩) n n, .slice none 0 0, .int .i64 (-1), .bool false] 120)) (New w (w1.alloc (.cells #[.slice (some ⟨w.heap.size, 0, none⟩) n n, .slice none 0 0, .int .i64 (-1), .bool false] 120))) (w.heap.size + 1) (newD n) ∧ Below w.heap.size w (w1.alloc (.cells #[.slice (some ⟨w.heap.size, 0, none⟩) n n, .slice none 0 0, .int .i64 (-1), .bool false] 120))) := by
    refine ⟨⟨⟨w.heap.size, n, .slice none 0 0, ?_⟩, Ok.new n h1 h2, fun k hk => hk.2⟩, hb1.alloc hb1.size _⟩
    have hl : (newD n).S.length = n := by simp [newD]
    refine ⟨?_, ?_, World.ownsRow_nil _ _ _ _, by omega, by simp [Value.ownBlock], by simp [Value.ownBlock], ⟨by omega, by simp; omega⟩, ⟨Nat.le_refl _, by simp; omega⟩, by simp [Value.ownBlock]⟩
    · rw [hl, ← hs1]
      exact heap_alloc_new _ _
    · rw [hl]
      exact World.ownsRow.alloc ho _
  have t1 : decide ((n : Int) < 1) = false := by simp; omega
  have t2 : decide ((4096 : Int) < (n : Int)) = false := by simp; omega
  have HS1 := Lib.hid hs1
  clear ho hg hb1 hi hz0 hz1 hz2 hg1 hs1
  go_enter Tryz.func28, Tryz.ntmps28
  go_wp2
  go_ret2
  refine ⟨?_, HFIN.out.1, HFIN.out.2⟩
  rw [← HS1.out]; rfl
set_option maxRecDepth 100000 in
set_option maxHeartbeats 1000000 in
theorem new9_no (n : Int) (h : n < 1 ∨ 4096 < n) (w : World) :
    Calls Tryz.prog 28 #[.int .i64 n] w fun e w' => e = .returned (.tuple #[.pointer none, .int .i64 2]) ∧ w = w' := by
  by_cases h1 : n < 1
  · have t1 : decide (n < 1) = true := by simpa using h1
    clear h
    go_enter Tryz.func28, Tryz.ntmps28
    go_wp2
    go_ret2
    exact ⟨rfl, rfl⟩
  · have t1 : decide (n < 1) = false := by simpa using h1
    have t2 : decide (4096 < n) = true := by simp; omega
    clear h
    go_enter Tryz.func28, Tryz.ntmps28
    go_wp2
    go_ret2
    exact ⟨rfl, rfl⟩
end Go.Proofs.YtjanddnlhaionaaGreatDoor.L6
