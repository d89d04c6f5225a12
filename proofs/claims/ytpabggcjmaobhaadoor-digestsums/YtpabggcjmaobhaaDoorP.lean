/-
  The plain model of chapter 3: SHA-256's words and rounds over integers, as the program reckons them. Nothing here speaks of the program.
-/
import Derived.WalkKit
namespace Go.Proofs.YtpabggcjmaobhaaDoor
open Go

def bytesV (l : List UInt8) : List Value := l.map fun b => .int .u8 (b.toNat : Int)
def wordsV (l : List Int) : List Value := l.map fun z => .int .u32 z

def rotM (x n : Int) : Int := bits .or .u32 (x / 2 ^ n.toNat) (x * 2 ^ (32 - n).toNat % 4294967296)
def num4 (a b c d : UInt8) : Int :=
  bits .or .u32 (bits .or .u32 (bits .or .u32 ((a.toNat : Int) % 4294967296 * 16777216 % 4294967296) ((b.toNat : Int) % 4294967296 * 65536 % 4294967296)) ((c.toNat : Int) % 4294967296 * 256 % 4294967296)) ((d.toNat : Int) % 4294967296)
def xo (a b : Int) : Int := bits .xor .u32 a b
def wNext (x15 x2 x7 x16 : Int) : Int :=
  (xo (xo (rotM x2 17) (rotM x2 19)) (x2 / 1024) + x7 + xo (xo (rotM x15 7) (rotM x15 18)) (x15 / 8) + x16) % 4294967296
def word (B : List UInt8) (W : List Int) (i : Nat) : Int :=
  if i < 16 then num4 (B.getD (4 * i) 0) (B.getD (4 * i + 1) 0) (B.getD (4 * i + 2) 0) (B.getD (4 * i + 3) 0)
  else wNext (W.getD (i - 15) 0) (W.getD (i - 2) 0) (W.getD (i - 7) 0) (W.getD (i - 16) 0)
def wordsTo (B : List UInt8) : Nat → List Int
  | 0 => []
  | i + 1 => wordsTo B i ++ [word B (wordsTo B i) i]
theorem wordsTo_length (B : List UInt8) : ∀ i, (wordsTo B i).length = i
  | 0 => rfl
  | i + 1 => by simp [wordsTo, wordsTo_length B i]

/-- A row of 64 words in the making: the first are reckoned, the rest is zero. -/
def rowTo (l : List Int) : List Value := wordsV (l ++ List.replicate (64 - l.length) 0)
theorem rowTo_length (l : List Int) (h : l.length ≤ 64) : (rowTo l).length = 64 := by simp [rowTo, wordsV]; omega
theorem rowTo_get (l : List Int) (i : Nat) (h : i < l.length) : (rowTo l)[i]? = some (.int .u32 (l.getD i 0)) := by
  unfold rowTo wordsV
  rw [List.map_append, List.getElem?_append_left (by simpa using h)]
  simp [h]
theorem rowTo_get0 (l : List Int) (i : Nat) (h : l.length ≤ i) (h2 : i < 64) : (rowTo l)[i]? = some (.int .u32 0) := by
  unfold rowTo wordsV
  rw [List.map_append, List.getElem?_append_right (by simpa using h), List.map_replicate, List.length_map, List.getElem?_replicate, if_pos (by omega)]
theorem rowTo_full (l : List Int) (h : l.length = 64) : rowTo l = wordsV l := by simp [rowTo, h]
theorem words_oneCell (l : List Int) : (wordsV l).toArray.all (·.oneCell') = true := by
  rw [Array.all_eq_true_iff_forall_mem]
  intro v hv
  simp [wordsV] at hv
  obtain ⟨z, -, rfl⟩ := hv
  rfl
theorem rowTo_set (l : List Int) (z : Int) (h : l.length < 64) : (rowTo l).set l.length (.int .u32 z) = rowTo (l ++ [z]) := by
  unfold rowTo wordsV
  obtain ⟨m, hm⟩ : ∃ m, 64 - l.length = m + 1 := ⟨63 - l.length, by omega⟩
  have h2 : 64 - (l ++ [z]).length = m := by simp; omega
  rw [hm, h2, List.replicate_succ, List.map_append, List.map_append, List.map_append]
  rw [List.set_append_right _ _ (by simp)]
  simp
/-- The eight integers. -/
structure St where
  (a b c d e f g h : Int)
def sig1 (e : Int) : Int := xo (xo (rotM e 6) (rotM e 11)) (rotM e 25)
def sig0 (a : Int) : Int := xo (xo (rotM a 2) (rotM a 13)) (rotM a 22)
def chM (e f g : Int) : Int := bits .or .u32 (bits .and .u32 e f) (bits .and .u32 (bits .xor .u32 IntKind.u32.max e) g)
def majM (a b c : Int) : Int := bits .or .u32 (bits .or .u32 (bits .and .u32 a b) (bits .and .u32 a c)) (bits .and .u32 b c)
def t1M (s : St) (y x : Int) : Int := (s.h + sig1 s.e + chM s.e s.f s.g + y + x) % 4294967296
def t2M (s : St) : Int := (sig0 s.a + majM s.a s.b s.c) % 4294967296
def stepM (s : St) (y x : Int) : St := ⟨(t1M s y x + t2M s) % 4294967296, s.a, s.b, s.c, (s.d + t1M s y x) % 4294967296, s.e, s.f, s.g⟩
def stepsTo (K W : List Int) (s : St) : Nat → St
  | 0 => s
  | k + 1 => stepM (stepsTo K W s k) (K.getD k 0) (W.getD k 0)
def addSt (s t : St) : St := ⟨(s.a + t.a) % 4294967296, (s.b + t.b) % 4294967296, (s.c + t.c) % 4294967296, (s.d + t.d) % 4294967296, (s.e + t.e) % 4294967296, (s.f + t.f) % 4294967296, (s.g + t.g) % 4294967296, (s.h + t.h) % 4294967296⟩
/-- The state into which a block of 64 bytes changes a state. -/
def afterM (K : List Int) (s : St) (B : List UInt8) : St := addSt s (stepsTo K (wordsTo B 64) s 64)
def St.cells (s : St) : Array Value := #[.int .u32 s.a, .int .u32 s.b, .int .u32 s.c, .int .u32 s.d, .int .u32 s.e, .int .u32 s.f, .int .u32 s.g, .int .u32 s.h]
end Go.Proofs.YtpabggcjmaobhaaDoor
