import Derived.Test.YtecefhoinggmgaaH
import Derived.Deep.AppendLies
import Derived.Deep.RegionLaw
import Derived.BigRegion
namespace Go.Proofs.Ytecefhoinggmgaa
open Go.RowKit

def hexNib (n : Int) : UInt8 := if n < 10 then UInt8.ofNat (48 + n.toNat) else UInt8.ofNat (87 + n.toNat)
theorem hexIndex (n : Int) (h0 : 0 ≤ n) (h1 : n ≤ 15) (w : World) :
    (Instr.index 9 (.string ⟨#[48, 49, 50, 51, 52, 53, 54, 55, 56, 57, 97, 98, 99, 100, 101, 102]⟩) (.int .i32 n)).run Try.prog w = .ok (.int .u8 (hexNib n).toNat) w := by
  have hn : n = 0 ∨ n = 1 ∨ n = 2 ∨ n = 3 ∨ n = 4 ∨ n = 5 ∨ n = 6 ∨ n = 7 ∨ n = 8 ∨ n = 9 ∨ n = 10 ∨ n = 11 ∨ n = 12 ∨ n = 13 ∨ n = 14 ∨ n = 15 := by omega
  rcases hn with rfl | rfl | rfl | rfl | rfl | rfl | rfl | rfl | rfl | rfl | rfl | rfl | rfl | rfl | rfl | rfl <;> (show _ = _; kernel_rfl)

theorem and15 (c : Int) (h : 0 ≤ c) (h1 : c < 128) : bits BinOp.and IntKind.i32 c 15 = c % 16 := by
  obtain ⟨n, rfl⟩ := Int.eq_ofNat_of_zero_le h
  have hn : n < 128 := by omega
  have : ∀ k : Fin 128, bits BinOp.and IntKind.i32 (k.val : Int) 15 = (k.val : Int) % 16 := by decide +kernel
  exact this ⟨n, hn⟩

theorem Own.drew {B : Nat} {v : Value} {l : List UInt8} {w : World} (h : Own B v l w) : Own B v l w.drew := h
theorem Gr.drew {B : Nat} {x y : World} (h : Gr B x y) : Gr B x y.drew := ⟨h.1.drew, h.2.drew⟩

/-- A code point as the textual form of a string has it. -/
def pointText (c : Int) : List UInt8 :=
  if c = 34 ∨ c = 92 then [92, UInt8.ofNat c.toNat] else if c = 10 then [92, 110] else if isCtl c then [92, 120, hexNib (c / 16), hexNib (c % 16)] else (Utf8.encode c).data.toList

end Go.Proofs.Ytecefhoinggmgaa
