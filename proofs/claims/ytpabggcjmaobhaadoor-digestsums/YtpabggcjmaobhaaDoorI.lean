/-
  Hex. No condition but a length.
-/
import Derived.Test.YtpabggcjmaobhaaDoorE
import Derived.Deep.AppendLies
import Derived.Deep.RegionLaw
import Derived.BigRegion
namespace Go.Proofs.YtpabggcjmaobhaaDoor
open Go.RowKit

def hexD (n : Nat) : UInt8 := if n < 10 then UInt8.ofNat (48 + n) else UInt8.ofNat (87 + n)
def hex2 (c : UInt8) : List UInt8 := [hexD (c.toNat / 16), hexD (c.toNat % 16)]
def hexL (l : List UInt8) : List UInt8 := l.flatMap hex2
theorem hexL_length (l : List UInt8) : (hexL l).length = 2 * l.length := by
  induction l with
  | nil => rfl
  | cons a l ih => 
    have : hexL (a :: l) = hex2 a ++ hexL l := rfl
    rw [this, List.length_append, ih]; simp [hex2]; omega

theorem hexIndex (n : Nat) (h1 : n < 16) (w : World) :
    (Instr.index 9 (.string ⟨#[48, 49, 50, 51, 52, 53, 54, 55, 56, 57, 97, 98, 99, 100, 101, 102]⟩) (.int .u8 (n : Int))).run Tryd.prog w = .ok (.int .u8 ((hexD n).toNat : Int)) w := by
  have hn : n = 0 ∨ n = 1 ∨ n = 2 ∨ n = 3 ∨ n = 4 ∨ n = 5 ∨ n = 6 ∨ n = 7 ∨ n = 8 ∨ n = 9 ∨ n = 10 ∨ n = 11 ∨ n = 12 ∨ n = 13 ∨ n = 14 ∨ n = 15 := by omega
  rcases hn with rfl | rfl | rfl | rfl | rfl | rfl | rfl | rfl | rfl | rfl | rfl | rfl | rfl | rfl | rfl | rfl <;> (show _ = _; kernel_rfl)
theorem and15 (c : UInt8) : bits BinOp.and IntKind.u8 (c.toNat : Int) 15 = ((c.toNat % 16 : Nat) : Int) := by
  have : ∀ k : Fin 256, bits BinOp.and IntKind.u8 (k.val : Int) 15 = ((k.val % 16 : Nat) : Int) := by decide +kernel
  exact this ⟨c.toNat, c.toNat_lt⟩

theorem getD_byte (s : ByteArray) (j : Nat) (hj : j < s.size) : s.data.toList.getD j 0 = s[j] := by
  have : j < s.data.toList.length := by simpa using hj
  rw [List.getD_eq_getElem?_getD, List.getElem?_eq_getElem this]
  rfl

theorem cells2 (x y : UInt8) : #[Value.int .u8 (x.toNat : Int), .int .u8 (y.toNat : Int)] = (bytesV [x, y]).toArray := rfl

theorem Own.drew {B : Nat} {v : Value} {l : List UInt8} {w : World} (h : Own B v l w) : Own B v l w.drew := h

set_option maxHeartbeats 800000 in
theorem hex13 (s : ByteArray) (hs : s.size ≤ 400000) (w : World) :
    Calls Tryd.prog 13 #[.string s] w fun e w' => e = .returned (.string ⟨(hexL s.data.toList).toArray⟩) ∧ Below w.heap.size w w' := by
  obtain ⟨i0, hi, hz0, hz1, hz2⟩ := info5
  have hsl : s.data.toList.length = s.size := by simp
  obtain ⟨w1, hm, ho, hb⟩ := make_own w w.heap.size (2 * s.size) (Nat.le_refl _) (by omega)
  have hm' : (Instr.makeSlice 47 (.int .i64 0) (.int .i64 (2 * (s.size : Int)))).run Tryd.prog w = .ok (.slice (some ⟨w.heap.size, 0, none⟩) 0 (2 * s.size)) w1 := by simpa using hm
  have HO := Lib.hid ho
  have HB := Lib.hid hb
  obtain ⟨R, hR⟩ : ∃ R, hexL s.data.toList = R := ⟨_, rfl⟩
  rw [hR]
  have HR := Lib.hid hR
  have HSL := Lib.hid hsl
  clear hm ho hb hR hsl
  go_enter Tryd.func13, Tryd.ntmps13
  go_wp2
  clear hm'
  go_loopw [3, 11] (fun s3 s11 wr => ∃ k : Nat, k ≤ s.size ∧ s11 = .int .i64 k ∧ Hid (Own w.heap.size s3 (hexL (s.data.toList.take k)) wr) ∧ Hid (Below w.heap.size w wr)) (fun _ s11 _ => s.size - (intOf s11).toNat)
  case atStart => exact ⟨0, by omega, rfl, by simpa [Hid, hexL] using HO.out, HB⟩
  case round =>
    obtain ⟨k, hk, rfl, HO, HB⟩ := hrel
    have hB1 := HB.out.size
    by_cases hlt : k < s.size
    · have hki : (k : Int) < (s.size : Int) := by omega
      have HN : Hid (hexL (s.data.toList.take (k + 1)) = hexL (s.data.toList.take k) ++ hex2 s[k]) := by
        unfold Hid hexL
        rw [List.take_succ_eq_append_getElem (by rw [HSL.out]; exact hlt), List.flatMap_append]
        simp
        rfl
      have hll : (hexL (s.data.toList.take k)).length ≤ 800000 := by rw [hexL_length, List.length_take]; omega
      generalize hexL (s.data.toList.take k) = l at HO HN hll
      have hc := s[k].toNat_lt
      have ha : bits BinOp.and IntKind.u8 (s[k].toNat : Int) 15 = (s[k].toNat : Int) % 16 := by rw [and15]; rfl
      have hx1 : ∀ W, (Instr.index 9 (.string ⟨#[48, 49, 50, 51, 52, 53, 54, 55, 56, 57, 97, 98, 99, 100, 101, 102]⟩) (.int .u8 ((s[k].toNat : Int) / 16))).run Tryd.prog W = .ok (.int .u8 ((hexD (s[k].toNat / 16)).toNat : Int)) W := fun W => hexIndex (s[k].toNat / 16) (by omega) W
      have hx2 : ∀ W, (Instr.index 9 (.string ⟨#[48, 49, 50, 51, 52, 53, 54, 55, 56, 57, 97, 98, 99, 100, 101, 102]⟩) (.int .u8 ((s[k].toNat : Int) % 16))).run Tryd.prog W = .ok (.int .u8 ((hexD (s[k].toNat % 16)).toNat : Int)) W := fun W => hexIndex (s[k].toNat % 16) (by omega) W
      unfold hex2 at HN
      generalize hexD (s[k].toNat / 16) = d1 at hx1 HN
      generalize hexD (s[k].toNat % 16) = d2 at hx2 HN
      go_wp2
      go_region_law (refine step_append_lies _ rfl (.tmp 14) (.tmp 25) 47 rfl w.heap.size 5 i0 (.int .u8 0) 1 1 Tryd.underlying47 hi hz0 hz1 hz2 rfl (by omega) _ l.length (bytesV l) (by simp [Act.eval]) (HO.out.alloc _) ⟨wr.heap.size, 0, none⟩ 2 2 (bytesV [d1, d2]) (by simp [Act.eval]) rfl (new_cells wr [d1, d2] _ rfl) (bytes_oneCell _) (by omega) (by unfold maxLen; omega) (by omega) (by simp; omega) (wr.heap.size + 1) (by simp) ?_; intro g cap w1 ho1 hg1 _ _)
      all_goals
        have HO' : Hid (Own w.heap.size (.slice (some ⟨g, 0, none⟩) (l.length + 2) cap) (hexL (s.data.toList.take (k + 1))) w1) := by
          unfold Hid; rw [HN.out]; exact Own.mk ho1 rfl
        have HG := Lib.hid (Own.below ((HB.out.alloc hB1 _).drew) (HO.out.alloc _).drew hg1 (by simp; omega))
        clear ho1 hg1 HN hx1 hx2
        go_wp2
        go_roundw
        case rel => exact ⟨k + 1, by omega, by go_num, HO', HG⟩
        case measure => simp [intOf]; omega
    · have hkl : k = s.size := by omega
      rw [hkl, ← HSL.out, List.take_length, HR.out] at HO
      clear hkl
      obtain ⟨a, c, rfl⟩ := HO.out.slice
      have hcv := conv_own _ _ _ _ _ _ HO.out rfl
      go_wp2
      go_ret
      exact ⟨rfl, HB.out⟩
end Go.Proofs.YtpabggcjmaobhaaDoor
