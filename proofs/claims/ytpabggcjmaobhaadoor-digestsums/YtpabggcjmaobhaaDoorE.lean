/-
  The padding. No condition.
-/
import Derived.Test.YtpabggcjmaobhaaDoorD
namespace Go.Proofs.YtpabggcjmaobhaaDoor
open Go.RowKit

def padN (n : Nat) : Nat := (119 - n % 64) % 64
def len8To (n k : Nat) : List UInt8 := (List.range k).map fun i : Nat => toB ((n : Int) * 8 / 2 ^ (8 * (7 - i)))
def padL (n : Nat) : List UInt8 := 128 :: List.replicate (padN n) 0 ++ len8To n 8

theorem cells128 : #[Value.int .u8 128] = (bytesV [128]).toArray := rfl
theorem cells00 : #[Value.int .u8 0] = (bytesV [0]).toArray := rfl
theorem cellsU (x : Int) : #[Value.int .u8 (x % 256)] = (bytesV [toB x]).toArray := by simp [bytesV, toB_toNat]

theorem Own.new0 (w : World) (B : Nat) (hB : B ≤ w.heap.size) (b : UInt8) (z : Int) (h : (b.toNat : Int) = z) : Own B (.slice (some ⟨w.heap.size, 0, none⟩) 1 1) [b] (w.alloc (.cells #[.int .u8 z] 5)) :=
  Own.new w B hB [b] _ (by subst h; rfl) (by simp)

set_option maxHeartbeats 800000 in
theorem padding26 (n : Nat) (hn : n ≤ 1000000) (w : World) :
    Calls Tryd.prog 26 #[.int .i64 n] w fun e w' => e = .returned (.string ⟨(padL n).toArray⟩) ∧ Below w.heap.size w w' := by
  obtain ⟨i0, hi, hz0, hz1, hz2⟩ := info5
  have HO := Lib.hid (Own.new0 w w.heap.size (Nat.le_refl _) 128 128 rfl)
  have HB : Hid (Below w.heap.size w (w.alloc (.cells #[.int .u8 128] 5))) := (Below.refl _ _).alloc (Nat.le_refl _) _
  obtain ⟨R, hR⟩ : ∃ R, padL n = R := ⟨_, rfl⟩
  rw [hR]
  have HR := Lib.hid hR
  clear hR
  have hp64 : padN n < 64 := by unfold padN; omega
  go_enter Tryd.func26, Tryd.ntmps26
  go_wp2
  go_loopw [3] (fun s3 wr => ∃ k : Nat, k ≤ padN n ∧ Hid (Own w.heap.size s3 (128 :: List.replicate k 0) wr) ∧ (∃ a c, s3 = .slice a (k + 1) c) ∧ Hid (Below w.heap.size w wr)) (fun s3 _ => 64 - (match s3 with | .slice _ l _ => l | _ => 0))
  case atStart => exact ⟨0, by omega, HO.out, ⟨_, _, rfl⟩, HB⟩
  case round =>
    obtain ⟨k, hk, HO, ⟨a, c, rfl⟩, HB⟩ := hrel
    have hB1 := HB.out.size
    by_cases hlt : k < padN n
    · have ht : (((n : Int) + ((k : Int) + 1) + 8) % 64 != 0) = true := by
        have : ((n : Int) + ((k : Int) + 1) + 8) % 64 ≠ 0 := by unfold padN at hlt; omega
        simpa using this
      have HN : Hid ((128 : UInt8) :: List.replicate (k + 1) 0 = (128 :: List.replicate k 0) ++ [0]) := by
        unfold Hid; rw [List.replicate_succ']; rfl
      have hll : ((128 : UInt8) :: List.replicate k 0).length = k + 1 := by simp
      generalize (128 : UInt8) :: List.replicate k 0 = l at HO HN hll
      go_wp2_with (at_builtin; go_must (refine wpList_append_own _ rfl _ _ 47 rfl w.heap.size 5 i0 (.int .u8 0) 1 1 Tryd.underlying47 hi hz0 hz1 hz2 rfl (by omega) _ l.length (bytesV l) rfl (HO.out.alloc _) ⟨wr.heap.size, 0, none⟩ 1 1 (bytesV [0]) rfl rfl ?hn (bytes_oneCell _) ?c3 ?c4 ?c5 ?_))
      case hn => exact new_cells wr [0] _ rfl
      case c3 => unfold maxLen; omega
      case c4 => omega
      case c5 => simp; omega
      intro v' w' ho' hg' _
      have HO' : Hid (Own w.heap.size v' (128 :: List.replicate (k + 1) 0) w') := by unfold Hid; rw [HN.out]; exact Own.mk ho' (by simp; omega)
      have HG := Lib.hid (Own.below (HB.out.alloc hB1 _) (HO.out.alloc _) hg' (by simp; omega))
      obtain ⟨a', c', rfl⟩ := HO'.out.slice
      clear ho' hg' HN hll
      have e2 : ((128 : UInt8) :: List.replicate (k + 1) 0).length = k + 1 + 1 := by simp
      rw [e2] at HO' ⊢
      go_wp2
      go_roundw
      case rel => exact ⟨k + 1, by omega, HO'.out, ⟨_, _, rfl⟩, HG⟩
      case measure => simp; omega
    · have hkp : k = padN n := by omega
      have ht : (((n : Int) + ((k : Int) + 1) + 8) % 64 != 0) = false := by
        have : ((n : Int) + ((k : Int) + 1) + 8) % 64 = 0 := by unfold padN at hkp; omega
        simpa using this
      have hlist : (128 : UInt8) :: List.replicate k 0 = 128 :: List.replicate (padN n) 0 := by rw [hkp]
      rw [hlist] at HO
      clear hlist
      have HP : Hid (R = (128 :: List.replicate (padN n) 0) ++ len8To n 8) := HR.out.symm
      have hll : ((128 : UInt8) :: List.replicate (padN n) 0).length = padN n + 1 := by simp
      generalize (128 : UInt8) :: List.replicate (padN n) 0 = l at HO HP hll
      clear HR
      have hlk : l.length = k + 1 := by omega
      clear hkp hlt hk
      have hll' : l.length ≤ 64 := by omega
      have hk64 : k < 64 := by omega
      clear hlk hll
      go_wp2_with fail
      go_loopw [3, 20] (fun s3 s20 wr => ∃ j : Nat, j ≤ 8 ∧ s20 = .int .i64 j ∧ Hid (Own w.heap.size s3 (l ++ len8To n j) wr) ∧ Hid (Below w.heap.size w wr)) (fun _ s20 _ => 8 - (intOf s20).toNat)
      case atStart => exact ⟨0, by omega, rfl, by simpa [Hid, len8To] using HO.out, HB⟩
      case round =>
        obtain ⟨j, hj, rfl, HO, HB⟩ := hrel
        have hB1 := HB.out.size
        by_cases hlt : j < 8
        · have HN : Hid (l ++ len8To n (j + 1) = (l ++ len8To n j) ++ [toB ((n : Int) * 8 / 2 ^ (8 * (7 - j)))]) := by
            unfold Hid len8To
            rw [List.range_succ, List.map_append, ← List.append_assoc]; rfl
          have hl2 : (l ++ len8To n j).length ≤ 72 := by simp [len8To]; omega
          generalize l ++ len8To n j = q at HO HN hl2
          have HC := Lib.hid (cellsU ((n : Int) * 8 / 2 ^ (8 * (7 - j))))
          generalize toB ((n : Int) * 8 / 2 ^ (8 * (7 - j))) = y at HN HC
          go_wp2_with (at_builtin; go_must (refine wpList_append_own _ rfl _ _ 47 rfl w.heap.size 5 i0 (.int .u8 0) 1 1 Tryd.underlying47 hi hz0 hz1 hz2 rfl (by omega) _ q.length (bytesV q) rfl (HO.out.alloc _) ⟨wr.heap.size, 0, none⟩ 1 1 (bytesV [y]) rfl rfl ?hn (bytes_oneCell _) ?c3 ?c4 ?c5 ?_))
          case hn => exact new_cells wr [y] _ HC.out
          case c3 => unfold maxLen; omega
          case c4 => omega
          case c5 => simp; omega
          intro v' w' ho' hg' _
          have HO' : Hid (Own w.heap.size v' (l ++ len8To n (j + 1)) w') := by unfold Hid; rw [HN.out]; exact Own.mk ho' rfl
          have HG := Lib.hid (Own.below (HB.out.alloc hB1 _) (HO.out.alloc _) hg' (by simp; omega))
          clear ho' hg' HN
          go_wp2
          go_roundw
          case rel => exact ⟨j + 1, by omega, by go_num, HO', HG⟩
          case measure => simp [intOf]; omega
        · have hj8 : j = 8 := by omega
          rw [hj8] at HO
          have HF := HP.out
          rw [← HF] at HO
          clear HF hj8 HP
          obtain ⟨a, c, rfl⟩ := HO.out.slice
          have hcv := conv_own _ _ _ _ _ _ HO.out rfl
          go_wp2
          go_ret
          exact ⟨rfl, HB.out⟩
end Go.Proofs.YtpabggcjmaobhaaDoor
