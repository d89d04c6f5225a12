import Derived.Test.YtapfhonapejpjaaH
import Derived.Deep.AppendLies
import Derived.Deep.RegionLaw
import Derived.BigRegion
namespace Go.Proofs.Ytapfhonapejpjaa
open Go.RowKit

def hexNib (n : Int) : UInt8 := if n < 10 then UInt8.ofNat (48 + n.toNat) else UInt8.ofNat (87 + n.toNat)
theorem hexIndex (n : Int) (h0 : 0 ≤ n) (h1 : n ≤ 15) (w : World) :
    (Instr.index 9 (.string ⟨#[48, 49, 50, 51, 52, 53, 54, 55, 56, 57, 97, 98, 99, 100, 101, 102]⟩) (.int .i32 n)).run Try.prog w = .ok (.int .u8 (hexNib n).toNat) w := by
  have hn : n = 0 ∨ n = 1 ∨ n = 2 ∨ n = 3 ∨ n = 4 ∨ n = 5 ∨ n = 6 ∨ n = 7 ∨ n = 8 ∨ n = 9 ∨ n = 10 ∨ n = 11 ∨ n = 12 ∨ n = 13 ∨ n = 14 ∨ n = 15 := by omega
  rcases hn with rfl | rfl | rfl | rfl | rfl | rfl | rfl | rfl | rfl | rfl | rfl | rfl | rfl | rfl | rfl | rfl <;> (show _ = _; kernel_rfl)

theorem and15 (c : Int) (h : 0 ≤ c) (h1 : c < 128) : bits BinOp.and IntKind.i32 c 15 = c % 16 := by
  obtain ⟨n, rfl⟩ := Int.eq_ofNat_of_zero_le h
  have hn : n < 128 := by omega
  have : ∀ k : Fin 128, bits BinOp.and IntKind.i32 (k.val : Int) 15 = (k.val : Int) % 16 := by decide +kernel
  exact this ⟨n, hn⟩

theorem Own.drew {B : Nat} {v : Value} {l : List UInt8} {w : World} (h : Own B v l w) : Own B v l w.drew := h
theorem Gr.drew {B : Nat} {x y : World} (h : Gr B x y) : Gr B x y.drew := ⟨h.1.drew, h.2.drew⟩

/-- A code point as the textual form of a string has it. -/
def pointText (c : Int) : List UInt8 :=
  if c = 34 ∨ c = 92 then [92, UInt8.ofNat c.toNat] else if c = 10 then [92, 110] else if isCtl c then [92, 120, hexNib (c / 16), hexNib (c % 16)] else (Utf8.encode c).data.toList

set_option maxHeartbeats 400000 in
theorem appendPoint29 (c : Int) (B : Nat) (v : Value) (l : List UInt8) (w : World) (ho : Own B v l w) (hB : B ≤ w.heap.size) (h0 : 0 ≤ c) (hl : l.length ≤ 1000000) :
    Calls Try.prog 29 #[v, .int .i32 c] w (AppTo B w (l ++ pointText c)) := by
  obtain ⟨i0, hi, hz0, hz1, hz2⟩ := info5
  have HI := Lib.hid (isC47 c w)
  have HO := Lib.hid ho
  clear ho
  by_cases c1 : c = 34 ∨ c = 92
  · have hA : Hid (pointText c = [92, UInt8.ofNat c.toNat]) := by rw [Hid, pointText, if_pos c1]
    rw [hA.out]
    clear HI hA
    rcases c1 with rfl | rfl
    · go_enter Try.func29, Try.ntmps29
      go_wp2_with (at_builtin; go_must (refine wpList_append_own _ rfl _ _ 46 rfl B 5 i0 (.int .u8 0) 1 1 Try.underlying46 hi hz0 hz1 hz2 rfl (by omega) _ l.length (bytesV l) rfl (HO.out.alloc _) ⟨w.heap.size, 0, none⟩ 2 2 (bytesV [92, 34]) rfl rfl ?hn (bytes_oneCell _) ?c3 ?c4 ?c5 ?_))
      case hn => exact new_cells w [92, 34] _ rfl
      case c3 => unfold maxLen; omega
      case c4 => omega
      case c5 => simp; omega
      intro v' w' ho' hg' _
      have HO' := Lib.hid (Own.mk ho' rfl)
      have HG := Lib.hid (((Gr.refl B w).alloc hB _).grown (HO.out.alloc _) hg' (by simp; omega))
      clear ho' hg'
      go_wp2
      go_ret
      exact ⟨v', rfl, HO'.out, HG.out⟩
    · go_enter Try.func29, Try.ntmps29
      go_wp2_with (at_builtin; go_must (refine wpList_append_own _ rfl _ _ 46 rfl B 5 i0 (.int .u8 0) 1 1 Try.underlying46 hi hz0 hz1 hz2 rfl (by omega) _ l.length (bytesV l) rfl (HO.out.alloc _) ⟨w.heap.size, 0, none⟩ 2 2 (bytesV [92, 92]) rfl rfl ?hn (bytes_oneCell _) ?c3 ?c4 ?c5 ?_))
      case hn => exact new_cells w [92, 92] _ rfl
      case c3 => unfold maxLen; omega
      case c4 => omega
      case c5 => simp; omega
      intro v' w' ho' hg' _
      have HO' := Lib.hid (Own.mk ho' rfl)
      have HG := Lib.hid (((Gr.refl B w).alloc hB _).grown (HO.out.alloc _) hg' (by simp; omega))
      clear ho' hg'
      go_wp2
      go_ret
      exact ⟨v', rfl, HO'.out, HG.out⟩
  have b1 : (c == 34) = false := by simp; omega
  have b2 : (c == 92) = false := by simp; omega
  by_cases c2 : c = 10
  · have hA : Hid (pointText c = [92, 110]) := by rw [Hid, pointText, if_neg c1, if_pos c2]
    rw [hA.out]
    clear HI hA c1 b1 b2
    subst c2
    go_enter Try.func29, Try.ntmps29
    go_wp2_with (at_builtin; go_must (refine wpList_append_own _ rfl _ _ 46 rfl B 5 i0 (.int .u8 0) 1 1 Try.underlying46 hi hz0 hz1 hz2 rfl (by omega) _ l.length (bytesV l) rfl (HO.out.alloc _) ⟨w.heap.size, 0, none⟩ 2 2 (bytesV [92, 110]) rfl rfl ?hn (bytes_oneCell _) ?c3 ?c4 ?c5 ?_))
    case hn => exact new_cells w [92, 110] _ rfl
    case c3 => unfold maxLen; omega
    case c4 => omega
    case c5 => simp; omega
    intro v' w' ho' hg' _
    have HO' := Lib.hid (Own.mk ho' rfl)
    have HG := Lib.hid (((Gr.refl B w).alloc hB _).grown (HO.out.alloc _) hg' (by simp; omega))
    clear ho' hg'
    go_wp2
    go_ret
    exact ⟨v', rfl, HO'.out, HG.out⟩
  have b3 : (c == 10) = false := by simpa using c2
  cases hc : isCtl c with
  | true =>
    have hA : Hid (pointText c = [92, 120, hexNib (c / 16), hexNib (c % 16)]) := by rw [Hid, pointText, if_neg c1, if_neg c2, hc]; rfl
    rw [hA.out]
    have hc128 : c < 128 := by simp [isCtl] at hc; omega
    rw [hc] at HI
    clear hA hc c1 c2
    have hx1 := hexIndex (c / 16) (by omega) (by omega)
    have hx2 := hexIndex (c % 16) (by omega) (by omega)
    have ha := and15 c (by omega) (by omega)
    generalize hexNib (c / 16) = d1 at hx1 ⊢
    generalize hexNib (c % 16) = d2 at hx2 ⊢
    go_enter Try.func29, Try.ntmps29
    go_wp2_with (go_at_call 47; go_must (refine HI.out.mono ?_); rintro e w' ⟨rfl, rfl⟩)
    go_region_law (refine step_append_lies _ rfl (.tmp 26) (.tmp 33) 46 rfl B 5 i0 (.int .u8 0) 1 1 Try.underlying46 hi hz0 hz1 hz2 rfl (by omega) v l.length (bytesV l) (by simp [Act.eval]) (HO.out.alloc _) ⟨w.heap.size, 0, none⟩ 4 4 (bytesV [92, 120, d1, d2]) (by simp [Act.eval]) rfl (new_cells w [92, 120, d1, d2] _ rfl) (bytes_oneCell _) (by omega) (by unfold maxLen; omega) (by omega) (by simp; omega) (w.heap.size + 1) (by simp) ?_; intro g cap w1 ho1 hg1 _ _)
    all_goals
      have HO' := Lib.hid (Own.mk ho1 rfl)
      have HG := Lib.hid ((((Gr.refl B w).alloc hB _).drew).grown (HO.out.alloc _).drew hg1 (by simp; omega))
      clear ho1 hg1
      go_wp2
      go_ret
      exact ⟨_, rfl, HO'.out, HG.out⟩
  | false =>
    have hA : Hid (pointText c = (Utf8.encode c).data.toList) := by rw [Hid, pointText, if_neg c1, if_neg c2, hc]; rfl
    rw [hA.out]
    rw [hc] at HI
    clear hA hc c1 c2
    have hen : (Utf8.encode c).size ≤ 4 := by have := encode_len c; simpa using this
    go_enter Try.func29, Try.ntmps29
    go_wp2_with (first | (go_at_call 47; go_must (refine HI.out.mono ?_); rintro e w' ⟨rfl, rfl⟩) | (at_builtin; go_must (refine Lib.wpList_append_own_string _ rfl _ _ 46 9 rfl B 5 i0 Try.underlying46 Try.underlying9 hi hz0 hz1 hz2 _ _ _ rfl HO.out (Utf8.encode c) rfl ?c3 ?c4 ?c5 ?_)))
    case c3 => unfold maxLen; omega
    case c4 => omega
    case c5 => exact hB
    intro v' w' ho' hg' _
    have HO' := Lib.hid (Own.mk (k := (Utf8.encode c).data.toList) ho' rfl)
    have HG := Lib.hid ((Gr.refl B w).grown HO.out hg' hB)
    clear ho' hg'
    go_wp2
    go_ret
    exact ⟨v', rfl, HO'.out, HG.out⟩
end Go.Proofs.Ytapfhonapejpjaa
