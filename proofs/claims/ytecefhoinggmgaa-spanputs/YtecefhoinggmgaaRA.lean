import Derived.Test.YtecefhoinggmgaaM
import Derived.Test.YtecefhoinggmgaaY
namespace Go.Proofs.Ytecefhoinggmgaa
open Go.RowKit

/-- The byte at a place of a text. -/
theorem str_index (s : ByteArray) (i : Nat) (j : Int) (hj : j = (i : Int)) (h : i < s.size) (w : World) :
    (Instr.index 9 (.string s) (.int .i64 j)).run Try.prog w = .ok (.int .u8 (byteAt s.data.toList i)) w := by
  subst hj
  have hg : (s[i]'h).toNat = byteAt s.data.toList i := by
    unfold byteAt
    have hl : i < s.data.toList.length := h
    simp [List.getD, List.getElem?_eq_getElem hl]
    rfl
  have h1 : (0 : Int) ≤ (i : Int) ∧ (i : Int) < (s.size : Int) := by omega
  simp [go_sem, h1, hg]

theorem byteAt_drop (l : List UInt8) (a k : Nat) : byteAt (l.drop a) k = byteAt l (a + k) := by
  unfold byteAt
  simp [List.getD, List.getElem?_drop]

/-- How many bytes the code point at a text's head has; 0: none. -/
def widthL (l : List UInt8) : Nat := match dec4 l with
  | none => 0
  | some (_, d) => d

/-- The code point, byte by byte. -/
def accL (l : List UInt8) (c0 : Nat) : Nat → Nat
  | 0 => c0
  | k + 1 => 64 * accL l c0 k + byteAt l (k + 1) % 64
def contL (l : List UInt8) (k : Nat) : Prop := k < l.length ∧ byteAt l k / 64 = 2

theorem cont1 (b0 b1 : UInt8) (t : List UInt8) : contL (b0 :: b1 :: t) 1 ↔ b1.toNat / 64 = 2 := ⟨fun h => h.2, fun h => ⟨by simp, h⟩⟩
theorem cont2 (b0 b1 b2 : UInt8) (t : List UInt8) : contL (b0 :: b1 :: b2 :: t) 2 ↔ b2.toNat / 64 = 2 := ⟨fun h => h.2, fun h => ⟨by simp, h⟩⟩
theorem cont3 (b0 b1 b2 b3 : UInt8) (t : List UInt8) : contL (b0 :: b1 :: b2 :: b3 :: t) 3 ↔ b3.toNat / 64 = 2 := ⟨fun h => h.2, fun h => ⟨by simp, h⟩⟩
theorem acc1 (b0 b1 : UInt8) (t : List UInt8) (c : Nat) : accL (b0 :: b1 :: t) c 1 = 64 * c + b1.toNat % 64 := rfl
theorem acc2 (b0 b1 b2 : UInt8) (t : List UInt8) (c : Nat) : accL (b0 :: b1 :: b2 :: t) c 2 = 64 * (64 * c + b1.toNat % 64) + b2.toNat % 64 := rfl
theorem acc3 (b0 b1 b2 b3 : UInt8) (t : List UInt8) (c : Nat) : accL (b0 :: b1 :: b2 :: b3 :: t) c 3 = 64 * (64 * (64 * c + b1.toNat % 64) + b2.toNat % 64) + b3.toNat % 64 := rfl
theorem width_1 {l : List UInt8} (hl : l ≠ []) (h : byteAt l 0 < 128) : widthL l = 1 := by
  match l, hl, h with
  | b0 :: t, _, h => unfold widthL dec4; simp only; rw [if_pos (by exact h)]
theorem width_0 {l : List UInt8} (h : (128 ≤ byteAt l 0 ∧ byteAt l 0 < 192) ∨ 248 ≤ byteAt l 0) : widthL l = 0 := by
  match l, h with
  | [], _ => rfl
  | b0 :: t, h =>
    rw [byteAt0] at h
    have hb := b0.toNat_lt
    unfold widthL dec4; simp only
    rw [if_neg (by omega), if_neg (by omega), if_neg (by omega), if_neg (by omega)]

theorem width_2 {l : List UInt8} (h : 192 ≤ byteAt l 0 ∧ byteAt l 0 < 224) :
    (contL l 1 → widthL l = if accL l (byteAt l 0 - 192) 1 < 128 then 0 else 2) ∧ (¬ contL l 1 → widthL l = 0) := by
  match l, h with
  | [], h => exact ⟨fun q => by simp [contL] at q, fun _ => rfl⟩
  | [b0], h => exact ⟨fun q => by simp [contL] at q, fun _ => by rw [byteAt0] at h; unfold widthL dec4; simp only; rw [if_neg (by omega), if_pos (by omega)]⟩
  | b0 :: b1 :: t, h =>
    rw [byteAt0] at h
    rw [acc1, byteAt0, cont1]
    unfold widthL dec4; simp only
    rw [if_neg (by omega), if_pos (by omega)]
    constructor
    · intro q
      by_cases hc : 64 * (b0.toNat - 192) + b1.toNat % 64 < 128
      · rw [if_pos hc, if_neg (by omega)]
      · rw [if_neg hc, if_pos (by omega)]
    · intro q
      rw [if_neg (by intro z; exact q z.1)]

theorem width_3 {l : List UInt8} (h : 224 ≤ byteAt l 0 ∧ byteAt l 0 < 240) :
    (contL l 1 ∧ contL l 2 → widthL l = if accL l (byteAt l 0 - 224) 2 < 2048 ∨ (55296 ≤ accL l (byteAt l 0 - 224) 2 ∧ accL l (byteAt l 0 - 224) 2 < 57344) then 0 else 3) ∧ (¬ (contL l 1 ∧ contL l 2) → widthL l = 0) := by
  match l, h with
  | [], h => exact ⟨fun q => by simp [contL] at q, fun _ => rfl⟩
  | [b0], h => exact ⟨fun q => by simp [contL] at q, fun _ => by rw [byteAt0] at h; unfold widthL dec4; simp only; rw [if_neg (by omega), if_neg (by omega), if_pos (by omega)]⟩
  | [b0, b1], h => exact ⟨fun q => by simp [contL] at q, fun _ => by rw [byteAt0] at h; unfold widthL dec4; simp only; rw [if_neg (by omega), if_neg (by omega), if_pos (by omega)]⟩
  | b0 :: b1 :: b2 :: t, h =>
    rw [byteAt0] at h
    rw [acc2, byteAt0, cont1, cont2]
    unfold widthL dec4; simp only
    rw [if_neg (by omega), if_neg (by omega), if_pos (by omega)]
    have e : 64 * (64 * (b0.toNat - 224) + b1.toNat % 64) + b2.toNat % 64 = b0.toNat % 16 * 4096 + b1.toNat % 64 * 64 + b2.toNat % 64 := by omega
    rw [e]
    generalize b0.toNat % 16 * 4096 + b1.toNat % 64 * 64 + b2.toNat % 64 = c
    constructor
    · intro q
      by_cases hc : c < 2048 ∨ (55296 ≤ c ∧ c < 57344)
      · rw [if_pos hc, if_neg (by omega)]
      · rw [if_neg hc, if_pos ⟨q.1, q.2, by omega, by omega⟩]
    · intro q
      rw [if_neg (by intro z; exact q ⟨z.1, z.2.1⟩)]

theorem width_4 {l : List UInt8} (h : 240 ≤ byteAt l 0 ∧ byteAt l 0 < 248) :
    (contL l 1 ∧ contL l 2 ∧ contL l 3 → widthL l = if accL l (byteAt l 0 - 240) 3 < 65536 ∨ 1114111 < accL l (byteAt l 0 - 240) 3 then 0 else 4) ∧ (¬ (contL l 1 ∧ contL l 2 ∧ contL l 3) → widthL l = 0) := by
  match l, h with
  | [], h => exact ⟨fun q => by simp [contL] at q, fun _ => rfl⟩
  | [b0], h => exact ⟨fun q => by simp [contL] at q, fun _ => by rw [byteAt0] at h; unfold widthL dec4; simp only; rw [if_neg (by omega), if_neg (by omega), if_neg (by omega), if_pos (by omega)]⟩
  | [b0, b1], h => exact ⟨fun q => by simp [contL] at q, fun _ => by rw [byteAt0] at h; unfold widthL dec4; simp only; rw [if_neg (by omega), if_neg (by omega), if_neg (by omega), if_pos (by omega)]⟩
  | [b0, b1, b2], h => exact ⟨fun q => by simp [contL] at q, fun _ => by rw [byteAt0] at h; unfold widthL dec4; simp only; rw [if_neg (by omega), if_neg (by omega), if_neg (by omega), if_pos (by omega)]⟩
  | b0 :: b1 :: b2 :: b3 :: t, h =>
    rw [byteAt0] at h
    rw [acc3, byteAt0, cont1, cont2, cont3]
    unfold widthL dec4; simp only
    rw [if_neg (by omega), if_neg (by omega), if_neg (by omega), if_pos (by omega)]
    have e : 64 * (64 * (64 * (b0.toNat - 240) + b1.toNat % 64) + b2.toNat % 64) + b3.toNat % 64 = b0.toNat % 8 * 262144 + b1.toNat % 64 * 4096 + b2.toNat % 64 * 64 + b3.toNat % 64 := by omega
    rw [e]
    generalize b0.toNat % 8 * 262144 + b1.toNat % 64 * 4096 + b2.toNat % 64 * 64 + b3.toNat % 64 = c
    constructor
    · intro q
      by_cases hc : c < 65536 ∨ 1114111 < c
      · rw [if_pos hc, if_neg (by omega)]
      · rw [if_neg hc, if_pos ⟨q.1, q.2.1, q.2.2, by omega, by omega⟩]
    · intro q
      rw [if_neg (by intro z; exact q ⟨z.1, z.2.1, z.2.2.1⟩)]
end Go.Proofs.Ytecefhoinggmgaa
