import Derived.WalkKit
import Derived.Lib.OthersKept
import Derived.Lib.AppendStr
namespace Go.Proofs.Ytecefhoinggmgaa
open Go.RowKit

/-- The reader's fields, as plain data. -/
structure R where
  st : Int
  pos : Bool
  n : Int
  ov : Bool
  txt : List UInt8
  hi : Int

def isCtl (c : Int) : Bool := decide (c < 32) || c == 127
def lim (d : Int) : Int := (-9223372036854775808 + d).tdiv 10
def addDigitR (r : R) (d : Int) : R := if r.ov || decide (r.n < lim d) then { r with ov := true } else { r with n := r.n * 10 - d }
def addPointR (r : R) (c : Int) : R := { r with st := 4, txt := if r.txt.length ≤ 40 then r.txt ++ (Utf8.encode c).data.toList else r.txt }
def readDigitR (r : R) (c : Int) : Option R := if c < 48 ∨ 57 < c then none else some (addDigitR { r with st := 3 } (c - 48))
def readFirstR (r : R) (c : Int) : Option R :=
  if c = 34 then some { r with st := 4 } else if c = 45 then some { r with st := 1 } else if c = 48 then some { r with st := 2 } else readDigitR { r with pos := true } c
def readPointR (r : R) (c : Int) : Option R :=
  if c = 34 then some { r with st := 8 } else if c = 92 then some { r with st := 5 } else if isCtl c then none else some (addPointR r c)
def readEscapeR (r : R) (c : Int) : Option R :=
  if c = 34 ∨ c = 92 then some (addPointR r c) else if c = 110 then some (addPointR r 10) else if c = 120 then some { r with st := 6 } else none
def readHighR (r : R) (c : Int) : Option R := if c = 48 ∨ c = 49 ∨ c = 55 then some { r with st := 7, hi := c - 48 } else none
def lowR (c : Int) : Option Int := if 48 ≤ c ∧ c ≤ 57 then some (c - 48) else if 97 ≤ c ∧ c ≤ 102 then some (c - 97 + 10) else none
def pointOk (p : Int) : Bool := !(p == 10) && isCtl p
def readLowR (r : R) (c : Int) : Option R :=
  match lowR c with
  | none => none
  | some l => if pointOk (r.hi * 16 + l) then some (addPointR r (r.hi * 16 + l)) else none
def readR (r : R) (c : Int) : Option R :=
  if r.st = 0 then readFirstR r c
  else if r.st = 1 then (if c = 48 then none else readDigitR r c)
  else if r.st = 3 then readDigitR r c
  else if r.st = 4 then readPointR r c
  else if r.st = 5 then readEscapeR r c
  else if r.st = 6 then readHighR r c
  else if r.st = 7 then readLowR r c
  else none

def bytesV (l : List UInt8) : List Value := l.map fun c => Value.int .u8 c.toNat

/-- What a step of the reader in block b may turn. -/
def Fr (b : Nat) (w w' : World) : Prop := Below b w w' ∧ Lib.OthersKept 5 (some b) w w'

theorem Fr.refl (b : Nat) (w : World) : Fr b w w := ⟨Below.refl _ _, Lib.OthersKept.refl _ _ _⟩
theorem Fr.trans {b : Nat} {x y z : World} (h : Fr b x y) (k : Fr b y z) : Fr b x z := ⟨h.1.trans k.1, h.2.trans k.2⟩
theorem Fr.set {b : Nat} {x y : World} (h : Fr b x y) (i : Nat) (v : Value) : Fr b x (y.setCell ⟨b, i, none⟩ v) :=
  ⟨h.1.setCell (Nat.le_refl b) v, h.2.setCell _ rfl v⟩

theorem ownsRow_set {b : Nat} {w : World} {tv : Value} {n : Nat} {xs : List Value} (h : w.ownsRow (b + 1) 5 1 tv n xs) (i : Nat) (v : Value) : (w.setCell ⟨b, i, none⟩ v).ownsRow (b + 1) 5 1 tv n xs :=
  ownsRow_setCell_below h (show b < b + 1 by omega) v

/-- What stays true of a reader: its number is counted below 0; its high digit. -/
def Ok (r : R) : Prop := -9223372036854775808 ≤ r.n ∧ r.n ≤ 0 ∧ (r.hi = 0 ∨ r.hi = 1 ∨ r.hi = 7) ∧ r.txt.length ≤ 44

theorem lim_le (d : Int) (h0 : 0 ≤ d) (h9 : d ≤ 9) : -9223372036854775808 + d ≤ 10 * lim d ∧ lim d ≤ 0 := by
  unfold lim
  have h : ((-9223372036854775808 + d).tdiv 10) = -((9223372036854775808 - d) / 10) := by
    rw [show (-9223372036854775808 + d) = -(9223372036854775808 - d) from by omega, Int.neg_tdiv, Int.tdiv_eq_ediv_of_nonneg (by omega)]
  rw [h]; omega

theorem bits_point (h l : Int) (hh : h = 0 ∨ h = 1 ∨ h = 7) (h0 : 0 ≤ l) (h15 : l ≤ 15) : bits BinOp.or IntKind.i32 (h * 16) l = h * 16 + l := by
  have hl : l = 0 ∨ l = 1 ∨ l = 2 ∨ l = 3 ∨ l = 4 ∨ l = 5 ∨ l = 6 ∨ l = 7 ∨ l = 8 ∨ l = 9 ∨ l = 10 ∨ l = 11 ∨ l = 12 ∨ l = 13 ∨ l = 14 ∨ l = 15 := by omega
  rcases hh with rfl | rfl | rfl <;> rcases hl with rfl | rfl | rfl | rfl | rfl | rfl | rfl | rfl | rfl | rfl | rfl | rfl | rfl | rfl | rfl | rfl <;> decide +kernel

theorem encode_len (c : Int) : (Utf8.encode c).data.toList.length ≤ 4 := by
  unfold Utf8.encode
  simp only
  repeat' split
  all_goals simp
end Go.Proofs.Ytecefhoinggmgaa
