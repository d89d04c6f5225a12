/-
  Contract of putNumber. No condition.
-/
import Derived.Test.YtjanddnlhaionaaGreatDoorL6XA
import Derived.Test.YtjanddnlhaionaaGreatDoorL6C
import Derived.Deep.Cut
import Derived.Deep.DeepMust
import Derived.OwnWalk
namespace Go.Proofs.YtjanddnlhaionaaGreatDoor.L6
open Go.RowKit

set_option maxRecDepth 100000 in
theorem be_step (j N : Nat) (tail : List UInt8) : be (j + 1) N ++ tail = be j (N / 256) ++ (UInt8.ofNat (N % 256) :: tail) := by simp [be]
set_option maxRecDepth 100000 in
theorem setRow_cell (w : World) (g o : Nat) (L : List Value) (t : TypeId) (v : Value) (hg : w.heap[g]? = some (.cells L.toArray t (0, 0))) (L' : List Value) (X : Value) (Y Z : List Value) (h1 : L = Y ++ X :: Z) (h2 : L' = Y ++ v :: Z) (ho : o = Y.length) :
    (w.setCell ⟨g, o, none⟩ v).heap[g]? = some (.cells L'.toArray t (0, 0)) := by
  subst h1 h2 ho
  simp [World.setCell, Array.getElem?_modify, hg]

set_option maxRecDepth 100000 in
theorem put76 (g o n c : Nat) (cs : List Value) (tt : TypeId) (N : Nat) (w : World) (hg : w.heap[g]? = some (.cells cs.toArray tt (0, 0))) (hfit : o + n ≤ cs.length) (hN : N < 9223372036854775808) (hn : n ≤ 8) :
    Calls Tryz.prog 215 #[.slice (some ⟨g, o, none⟩) n c, .int .i64 (N : Int)] w fun e w' => e = .returned (.tuple #[]) ∧
      w'.heap[g]? = some (.cells (cs.take o ++ bytesV (be n N) ++ cs.drop (o + n)).toArray tt (0, 0)) ∧ Turn (fun k => k = g) w w' ∧ w'.heap.size = w.heap.size := by
  obtain ⟨R, hR⟩ : ∃ R, be n N = R := ⟨_, rfl⟩
  rw [hR]
  have HR := Lib.hid hR
  have HG := Lib.hid hg
  have HF := Lib.hid hfit
  clear hg hR hfit
  go_enter Tryz.func215, Tryz.ntmps215
  go_wp2
  go_loopw [1, 4] (fun s1 s4 wr => ∃ (k : Int) (j M : Nat) (tail : List UInt8), s1 = .int .i64 (M : Int) ∧ s4 = .int .i64 k ∧ k = (j : Int) - 1 ∧ j ≤ n ∧ M < 9223372036854775808 ∧ Hid (be j M ++ tail = R) ∧ Hid (tail.length = n - j) ∧
    Hid (wr.heap[g]? = some (.cells (cs.take (o + j) ++ bytesV tail ++ cs.drop (o + n)).toArray tt (0, 0))) ∧ Hid (Turn (fun k => k = g) w wr) ∧ Hid (wr.heap.size = w.heap.size)) (fun _ s4 _ => (intOf s4 + 1).toNat)
  case atStart =>
    refine ⟨_, n, N, [], rfl, rfl, rfl, Nat.le_refl _, hN, by unfold Hid; rw [List.append_nil]; exact HR.out, by simp [Hid], ?_, Turn.refl _ _, rfl⟩
    unfold Hid
    have : cs.take (o + n) ++ bytesV [] ++ cs.drop (o + n) = cs := by simp [bytesV]
    rw [this]
    exact HG.out
  case round =>
    obtain ⟨k, j, M, tail, rfl, rfl, hk, hj, hM, HB, HT, HW, HTU, HSZ⟩ := hrel
    by_cases h0 : j = 0
    · obtain rfl : k = -1 := by omega
      subst h0
      have hfin : Hid (wr.heap[g]? = some (.cells (cs.take o ++ bytesV R ++ cs.drop (o + n)).toArray tt (0, 0))) := by
        have := HB.out
        simp only [be, List.nil_append] at this
        subst this
        exact HW.out
      clear HB HW hM hk hj
      go_wp2
      go_end0
      exact ⟨rfl, hfin.out, HTU.out, HSZ.out⟩
    · obtain ⟨i, rfl⟩ : ∃ i, j = i + 1 := ⟨j - 1, by omega⟩
      obtain rfl : k = (i : Int) := by omega
      have hlen : o + n ≤ cs.length := HF.out
      obtain ⟨X, hX⟩ : ∃ X, cs[o + i]? = some X := ⟨_, List.getElem?_eq_getElem (by omega)⟩
      have hcut : cs.take (o + (i + 1)) = cs.take (o + i) ++ [X] := by
        rw [show o + (i + 1) = (o + i) + 1 by omega, List.take_add_one, hX]; rfl
      have hc0 : wr.cell? ⟨g, o + i, none⟩ = some X := by
        refine cell_row HW.out ?_
        rw [hcut]
        have hl : (cs.take (o + i)).length = o + i := by rw [List.length_take]; omega
        simp [hl]
      have hfr : wr.frozen? ⟨g, o + i, none⟩ = false := frozen_of_row wr g (o + i) _ _ HW.out
      have HW2 : Hid ((wr.setCell ⟨g, o + i, none⟩ (.int .u8 ((M % 256 : Nat) : Int))).heap[g]? = some (.cells (cs.take (o + i) ++ bytesV (UInt8.ofNat (M % 256) :: tail) ++ cs.drop (o + n)).toArray tt (0, 0))) := by
        refine setRow_cell wr g (o + i) _ tt _ HW.out _ X (cs.take (o + i)) (bytesV tail ++ cs.drop (o + n)) ?_ ?_ ?_
        · rw [hcut]; simp
        · simp [bytesV]
        · rw [List.length_take]; omega
      have HTU2 : Hid (Turn (fun k => k = g) w (wr.setCell ⟨g, o + i, none⟩ (.int .u8 ((M % 256 : Nat) : Int)))) := HTU.out.setCell _ _ (.inl rfl)
      have HSZ2 : Hid ((wr.setCell ⟨g, o + i, none⟩ (.int .u8 ((M % 256 : Nat) : Int))).heap.size = w.heap.size) := by unfold Hid; rw [← HSZ.out]; simp [World.setCell]
      have HB2 : Hid (be i (M / 256) ++ (UInt8.ofNat (M % 256) :: tail) = R) := by unfold Hid; rw [← be_step]; exact HB.out
      have HT2 : Hid ((UInt8.ofNat (M % 256) :: tail).length = n - i) := by unfold Hid; have := HT.out; simp; omega
      have hin : (i : Int) < (n : Int) := by omega
      obtain ⟨m, hm⟩ : ∃ m, M % 256 = m := ⟨_, rfl⟩
      obtain ⟨q, hq⟩ : ∃ q, M / 256 = q := ⟨_, rfl⟩
      rw [hm] at HW2 HTU2 HSZ2 HB2 HT2
      rw [hq] at HB2
      have em : IntKind.u8.wrap (M : Int) = (m : Int) := by rw [IntKind.wrap_u8]; omega
      have eq : (M : Int) / 256 = (q : Int) := by omega
      have hq2 : q < 9223372036854775808 := by omega
      clear HB HT HW HTU HSZ hcut hX HG HF h0 hk hm hq hM
      go_wp2
      go_round
      case rel => exact ⟨(i : Int) - 1, i, q, _, by go_num, by go_num, rfl, by omega, hq2, HB2, HT2, HW2, HTU2, HSZ2⟩
      case measure => simp [intOf]
end Go.Proofs.YtjanddnlhaionaaGreatDoor.L6
