/-
  (pieces)
-/
import Derived.Test.YtjanddnlhaionaaGreatDoorRows
import Derived.WalkKit
import Derived.WalkSpells
import Derived.WalkLawsBesides
import Derived.Lib.Hide
import Derived.Deep.QuietTactic
import Derived.BigQuiet
import Derived.Lib.OthersKept
import Derived.Lib.AppendStr
import Derived.Recover
import Derived.Deep.DeepMust
import Derived.Laws.BytesString
import Derived.Laws.BytesArg
import Derived.WalkSmall
import Derived.Deep.AppendLies
import Derived.Deep.RegionLaw
import Derived.BigRegion
import Derived.Deep.RegionHeld3
set_option maxRecDepth 100000
namespace Go.Proofs.YtjanddnlhaionaaGreatDoor.L2
open Go.RowKit

def cmpI (a b : Int) : Int := if a < b then -1 else if b < a then 1 else 0
def cmpS (a b : ByteArray) : Int := if Op.bytesLess a.toList b.toList then -1 else if a.toList == b.toList then 0 else 1
def cmpV (ka na : Int) (sa : ByteArray) (kb nb : Int) (sb : ByteArray) : Int :=
  if cmpI ka kb = 0 then (if cmpI na nb = 0 then cmpS sa sb else cmpI na nb) else cmpI ka kb

end Go.Proofs.YtjanddnlhaionaaGreatDoor.L2
namespace Go.Proofs.YtjanddnlhaionaaGreatDoor.L2
open Go.RowKit

/-- The reader's fields, as plain data. -/
structure R where
  st : Int
  pos : Bool
  n : Int
  ov : Bool
  txt : List UInt8
  hi : Int

def isCtl (c : Int) : Bool := decide (c < 32) || c == 127
def lim (d : Int) : Int := (-9223372036854775808 + d).tdiv 10
def addDigitR (r : R) (d : Int) : R := if r.ov || decide (r.n < lim d) then { r with ov := true } else { r with n := r.n * 10 - d }
def addPointR (r : R) (c : Int) : R := { r with st := 4, txt := if r.txt.length ≤ 40 then r.txt ++ (Utf8.encode c).data.toList else r.txt }
def readDigitR (r : R) (c : Int) : Option R := if c < 48 ∨ 57 < c then none else some (addDigitR { r with st := 3 } (c - 48))
def readFirstR (r : R) (c : Int) : Option R :=
  if c = 34 then some { r with st := 4 } else if c = 45 then some { r with st := 1 } else if c = 48 then some { r with st := 2 } else readDigitR { r with pos := true } c
def readPointR (r : R) (c : Int) : Option R :=
  if c = 34 then some { r with st := 8 } else if c = 92 then some { r with st := 5 } else if isCtl c then none else some (addPointR r c)
def readEscapeR (r : R) (c : Int) : Option R :=
  if c = 34 ∨ c = 92 then some (addPointR r c) else if c = 110 then some (addPointR r 10) else if c = 120 then some { r with st := 6 } else none
def readHighR (r : R) (c : Int) : Option R := if c = 48 ∨ c = 49 ∨ c = 55 then some { r with st := 7, hi := c - 48 } else none
def lowR (c : Int) : Option Int := if 48 ≤ c ∧ c ≤ 57 then some (c - 48) else if 97 ≤ c ∧ c ≤ 102 then some (c - 97 + 10) else none
def pointOk (p : Int) : Bool := !(p == 10) && isCtl p
def readLowR (r : R) (c : Int) : Option R :=
  match lowR c with
  | none => none
  | some l => if pointOk (r.hi * 16 + l) then some (addPointR r (r.hi * 16 + l)) else none
def readR (r : R) (c : Int) : Option R :=
  if r.st = 0 then readFirstR r c
  else if r.st = 1 then (if c = 48 then none else readDigitR r c)
  else if r.st = 3 then readDigitR r c
  else if r.st = 4 then readPointR r c
  else if r.st = 5 then readEscapeR r c
  else if r.st = 6 then readHighR r c
  else if r.st = 7 then readLowR r c
  else none

def bytesV (l : List UInt8) : List Value := l.map fun c => Value.int .u8 c.toNat

/-- What a step of the reader in block b may turn. -/
def Fr (b : Nat) (w w' : World) : Prop := Below b w w' ∧ Lib.OthersKept 5 (some b) w w'

/-- What stays true of a reader: its number is counted below 0; its high digit. -/
def Ok (r : R) : Prop := -9223372036854775808 ≤ r.n ∧ r.n ≤ 0 ∧ (r.hi = 0 ∨ r.hi = 1 ∨ r.hi = 7) ∧ r.txt.length ≤ 44

end Go.Proofs.YtjanddnlhaionaaGreatDoor.L2
namespace Go.Proofs.YtjanddnlhaionaaGreatDoor.L2
open Go.RowKit

theorem strOf_bytes (l : List UInt8) : strOfNums (l.map fun c => (c.toNat : Int)) = ⟨l.toArray⟩ := by
  unfold strOfNums
  congr 1
  rw [List.map_map]
  have : ((fun n : Int => UInt8.ofNat n.toNat) ∘ fun c : UInt8 => (c.toNat : Int)) = id := by
    funext c; simp
  rw [this, List.map_id]

def completeR (r : R) : Bool := r.st == 2 || (r.st == 3 || r.st == 8)
def minI : Int := -9223372036854775808
def bigR (r : R) : Bool := r.ov || (r.pos && r.n == minI) || decide ((40 : Int) < (r.txt.length : Int))

def vKind (r : R) : Int := if r.st = 8 then 2 else 1
def vNum (r : R) : Int := if r.st = 8 then 0 else if r.pos then -r.n else r.n
def vText (r : R) : ByteArray := if r.st = 8 then ⟨r.txt.toArray⟩ else ⟨#[]⟩

end Go.Proofs.YtjanddnlhaionaaGreatDoor.L2
namespace Go.Proofs.YtjanddnlhaionaaGreatDoor.L2
open Go.RowKit

def decL (l : List UInt8) : Nat × Nat := Utf8.decode ⟨l.toArray⟩ 0
def badL (l : List UInt8) : Bool := (decL l).1 == 65533 && !(l.take 3 == [239, 191, 189])

/-- The walk over a text, code point by code point: the offset of what does not fit, or the state behind the last. -/
def runL {σ : Type} (step : σ → Int → Option σ) : Nat → Nat → List UInt8 → σ → Nat ⊕ σ
  | 0, _, _, r => .inr r
  | f + 1, pos, l, r =>
    if l = [] then .inr r
    else if badL l then .inl pos
    else match step r (decL l).1 with
      | none => .inl pos
      | some r' => runL step f (pos + (decL l).2) (l.drop (decL l).2) r'

theorem get!_list (l : List UInt8) (k : Nat) : (⟨l.toArray⟩ : ByteArray).get! k = l.getD k default := by
  show (l.toArray)[k]! = _
  rw [List.getElem!_toArray]
  simp [List.getD, List.getElem!_eq_getElem?_getD]

theorem get!_any (s : ByteArray) (k : Nat) : s.get! k = s.data.toList.getD k default := get!_list s.data.toList k

theorem get!_drop (s : ByteArray) (pos k : Nat) : (⟨(s.data.toList.drop pos).toArray⟩ : ByteArray).get! (0 + k) = s.get! (pos + k) := by
  rw [get!_list, get!_any]
  simp only [List.getD, List.getElem?_drop, Nat.zero_add]

theorem size_list (l : List UInt8) : (⟨l.toArray⟩ : ByteArray).size = l.length := rfl
theorem size_drop (s : ByteArray) (pos : Nat) : (⟨(s.data.toList.drop pos).toArray⟩ : ByteArray).size = s.size - pos := by
  rw [size_list, List.length_drop]; rfl

theorem decode_drop (s : ByteArray) (pos : Nat) : Utf8.decode s pos = decL (s.data.toList.drop pos) := by
  unfold decL Utf8.decode
  simp only [get!_drop, size_drop]
  have h : ∀ k, decide (0 + k < s.size - pos) = decide (pos + k < s.size) := fun k => by
    rw [decide_eq_decide]; omega
  simp only [h]

theorem decL_width (l : List UInt8) : 1 ≤ (decL l).2 := by
  unfold decL Utf8.decode
  simp only
  repeat' split
  all_goals simp

def swB (s : ByteArray) : Bool := decide ((3 : Int) ≤ s.size) && ((s.extract 0 3).toList == [239, 191, 189])

theorem extract_list (s : ByteArray) (a b : Nat) : (s.extract a b).data.toList = (s.data.toList.drop a).take (b - a) := by
  rw [ByteArray.data_extract, Array.toList_extract, List.extract_eq_take_drop]

theorem swB_eq (s : ByteArray) (pos : Nat) : swB (s.extract pos s.size) = ((s.data.toList.drop pos).take 3 == [239, 191, 189]) := by
  unfold swB
  rw [ByteArray.toList_eq, extract_list, extract_list]
  have hl : s.data.toList.length = s.size := rfl
  have e1 : (s.data.toList.drop pos).take (s.size - pos) = s.data.toList.drop pos := List.take_of_length_le (by rw [List.length_drop, hl]; exact Nat.le_refl _)
  rw [e1, List.drop_zero]
  by_cases h : (s.data.toList.drop pos).take 3 = [239, 191, 189]
  · have h3 := congrArg List.length h
    rw [List.length_take, List.length_drop, hl] at h3
    have hz : (s.extract pos s.size).size = s.size - pos := by
      have := congrArg List.length (extract_list s pos s.size)
      rw [e1, List.length_drop, hl] at this
      exact this
    have h3' : min 3 (s.size - pos) = 3 := h3
    have : (3 : Int) ≤ ((s.extract pos s.size).size : Int) := by rw [hz]; omega
    rw [decide_eq_true this, Bool.true_and]
  · simp [h]

set_option maxHeartbeats 400000 in
theorem sw46 (s : ByteArray) (w : World) :
    Calls Tryz.prog 203 #[.string s, .string ⟨#[239, 191, 189]⟩] w fun e w' => e = .returned (.bool (swB s)) ∧ w = w' := by
  by_cases h : (3 : Int) ≤ s.size
  · have hA : Hid (swB s = ((s.extract 0 3).toList == [239, 191, 189])) := by simp [Hid, swB, h]
    go_enter Tryz.func203, Tryz.ntmps203
    go_wp2
    go_ret
    exact ⟨by rw [hA.out]; rfl, rfl⟩
  · have hA : Hid (swB s = false) := by simp [Hid, swB, h]
    go_enter Tryz.func203, Tryz.ntmps203
    go_wp2
    go_ret
    exact ⟨by rw [hA.out]; rfl, rfl⟩

theorem drop_ne {s : ByteArray} {pos : Nat} (h : pos < s.size) : s.data.toList.drop pos ≠ [] := by
  intro e
  have := congrArg List.length e
  rw [List.length_drop] at this
  have hl : s.data.toList.length = s.size := rfl
  simp only [List.length_nil] at this
  omega
theorem drop_nil {s : ByteArray} {pos : Nat} (h : ¬ pos < s.size) : s.data.toList.drop pos = [] :=
  List.drop_eq_nil_of_le (by have hl : s.data.toList.length = s.size := rfl; omega)

theorem runL_end {σ : Type} {step : σ → Int → Option σ} {f pos : Nat} {r : σ} : runL step f pos [] r = .inr r := by
  cases f <;> simp [runL]

end Go.Proofs.YtjanddnlhaionaaGreatDoor.L2
namespace Go.Proofs.YtjanddnlhaionaaGreatDoor.L2
open Go.RowKit

theorem hmf : ∀ (fn : Fn) (first cap : Array Value) (w : World), (Instr.makeFunc fn first cap).run Tryz.prog w = .ok (.func fn first cap) w := fun _ _ _ _ => rfl

def R0 : R := ⟨0, false, 0, false, [], 0⟩
/-- What Parse answers. -/
structure PRes where
  k : Int
  n : Int
  s : ByteArray
  at' : Int
  e : Int
def parseEnd (len : Nat) : Nat ⊕ R → PRes
  | .inl p => ⟨0, 0, ⟨#[]⟩, p, 4⟩
  | .inr r => if completeR r = false then ⟨0, 0, ⟨#[]⟩, len, 3⟩ else if bigR r = true then ⟨0, 0, ⟨#[]⟩, 0, 5⟩ else ⟨vKind r, vNum r, vText r, len, 0⟩
def parseR (l : List UInt8) : PRes := parseEnd l.length (runL readR l.length 0 l R0)
def pVal (p : PRes) : Value := .tuple #[.agg #[.int .i64 p.k, .int .i64 p.n, .string p.s], .int .i64 p.at', .int .i64 p.e]

/-- The cells of the named results, behind whatever left them alone. -/
structure Res3 (w w1 : World) : Prop where
  p0 : w1.cell? ⟨w.heap.size, 0, none⟩ = some (.int .i64 0)
  p1 : w1.cell? ⟨w.heap.size, 1, none⟩ = some (.int .i64 0)
  p2 : w1.cell? ⟨w.heap.size, 2, none⟩ = some (.string ⟨#[]⟩)
  q : w1.cell? ⟨w.heap.size + 1, 0, none⟩ = some (.int .i64 0)
  u : w1.cell? ⟨w.heap.size + 1 + 1, 0, none⟩ = some (.int .i64 0)
  fp0 : w1.frozen? ⟨w.heap.size, 0, none⟩ = false
  fp1 : w1.frozen? ⟨w.heap.size, 1, none⟩ = false
  fp2 : w1.frozen? ⟨w.heap.size, 2, none⟩ = false
  fq : w1.frozen? ⟨w.heap.size + 1, 0, none⟩ = false
  fu : w1.frozen? ⟨w.heap.size + 1 + 1, 0, none⟩ = false

end Go.Proofs.YtjanddnlhaionaaGreatDoor.L2
namespace Go.Proofs.YtjanddnlhaionaaGreatDoor.L2
open Go.RowKit

/-- v is a slice of bytes of the call's own, from block B on, that reads l. -/
def Own (B : Nat) (v : Value) (l : List UInt8) (w : World) : Prop := w.ownsRow B 5 1 v l.length (bytesV l)
/-- Nothing below B has turned, and no block that is not a row of bytes. -/
def Gr (B : Nat) (w w' : World) : Prop := Below B w w' ∧ Lib.OthersKept 5 none w w'
theorem Gr.refl (B : Nat) (w : World) : Gr B w w := ⟨Below.refl _ _, Lib.OthersKept.refl _ _ _⟩
theorem Gr.trans {B : Nat} {x y z : World} (h : Gr B x y) (k : Gr B y z) : Gr B x z := ⟨h.1.trans k.1, h.2.trans k.2⟩
theorem Gr.alloc {B : Nat} {x y : World} (h : Gr B x y) (hB : B ≤ y.heap.size) (o : Obj) : Gr B x (y.alloc o) := ⟨h.1.alloc hB o, h.2.alloc o⟩
theorem Gr.grown {B : Nat} {x y z : World} {v : Value} {l : List UInt8} (h : Gr B x y) (ho : Own B v l y) (hg : y.grownBy z v.ownBlock) (hB : B ≤ y.heap.size) : Gr B x z :=
  ⟨h.1.grown hg hB (fun k hk => (ho.lt k hk).1), h.2.grown hg (fun g hk => by
    rcases ho.2 with ⟨e1, _⟩ | ⟨g', cap, cur, e, _, hgg, _⟩
    · rw [e1] at hk; simp [Value.ownBlock] at hk
    · rw [e] at hk; simp [Value.ownBlock] at hk; subst hk; exact ⟨_, _, hgg⟩)⟩
theorem Own.alloc {B : Nat} {v : Value} {l : List UInt8} {w : World} (h : Own B v l w) (o : Obj) : Own B v l (w.alloc o) := World.ownsRow.alloc h o
theorem bytesV_append (a b : List UInt8) : bytesV (a ++ b) = bytesV a ++ bytesV b := by simp [bytesV]
theorem Own.mk {B : Nat} {v : Value} {l k : List UInt8} {w : World} {n : Nat} (h : w.ownsRow B 5 1 v n (bytesV l ++ bytesV k)) (hn : n = l.length + k.length) : Own B v (l ++ k) w := by
  unfold Own
  rw [List.length_append, bytesV_append, ← hn]
  exact h
theorem bytes_oneCell (l : List UInt8) : ∀ u ∈ bytesV l, u.oneCell' = true := by
  intro u hu
  simp only [bytesV, List.mem_map] at hu
  obtain ⟨c, _, rfl⟩ := hu
  rfl

/-- What a call that appends comes to. -/
def AppTo (B : Nat) (w : World) (l : List UInt8) (e : Ending) (w' : World) : Prop := ∃ v', e = .returned v' ∧ Own B v' l w' ∧ Gr B w w'

/-- The cells of a new array of bytes. -/
theorem new_cells (w : World) (l : List UInt8) (cs : Array Value) (h : cs = (bytesV l).toArray) : ∀ j u, (bytesV l)[j]? = some u → (w.alloc (.cells cs 5)).cell? ((⟨w.heap.size, 0, none⟩ : Addr).add j) = some u := by
  intro j u hu
  have hadd : (⟨w.heap.size, 0, none⟩ : Addr).add j = ⟨w.heap.size, j, none⟩ := by unfold Addr.add; split <;> simp_all
  rw [hadd, World.cell?_alloc_at cs 5 _ _ rfl, h]
  simpa using hu

def digs (m : Nat) : List UInt8 := if m < 10 then [UInt8.ofNat (48 + m)] else digs (m / 10) ++ [UInt8.ofNat (48 + m % 10)]
termination_by m

theorem one_cells (n : Int) (dg : UInt8) (h : (dg.toNat : Int) = n) : #[Value.int .u8 n] = (bytesV [dg]).toArray := by subst h; rfl

def intText (n : Int) : List UInt8 := if n < 0 then 45 :: digs n.natAbs else digs n.natAbs

end Go.Proofs.YtjanddnlhaionaaGreatDoor.L2
namespace Go.Proofs.YtjanddnlhaionaaGreatDoor.L2
open Go.RowKit

def hexNib (n : Int) : UInt8 := if n < 10 then UInt8.ofNat (48 + n.toNat) else UInt8.ofNat (87 + n.toNat)
theorem and15 (c : Int) (h : 0 ≤ c) (h1 : c < 128) : bits BinOp.and IntKind.i32 c 15 = c % 16 := by
  obtain ⟨n, rfl⟩ := Int.eq_ofNat_of_zero_le h
  have hn : n < 128 := by omega
  have : ∀ k : Fin 128, bits BinOp.and IntKind.i32 (k.val : Int) 15 = (k.val : Int) % 16 := by decide +kernel
  exact this ⟨n, hn⟩

/-- A code point as the textual form of a string has it. -/
def pointText (c : Int) : List UInt8 :=
  if c = 34 ∨ c = 92 then [92, UInt8.ofNat c.toNat] else if c = 10 then [92, 110] else if isCtl c then [92, 120, hexNib (c / 16), hexNib (c % 16)] else (Utf8.encode c).data.toList

end Go.Proofs.YtjanddnlhaionaaGreatDoor.L2
namespace Go.Proofs.YtjanddnlhaionaaGreatDoor.L2
open Go.RowKit

/-- Block p holds the number n. -/
def Nd (_B p : Nat) (n : Int) (w : World) : Prop := w.heap[p]? = some (.cells #[.int .i64 n] 3 (0, 0))
def Fp (B p : Nat) (w w' : World) : Prop := Below B w w' ∧ Lib.OthersKept 5 (some p) w w'

theorem Nd.iter {B p : Nat} {n : Int} {w : World} (h : Nd B p n w) {k : Nat} {s : ByteArray} {pos : Nat} (hk : w.heap[k]? = some (.stringIter s pos)) (q : Nat) : Nd B p n (w.iterAt k s q) := by
  unfold Nd at h ⊢
  have hbk : p ≠ k := fun e => by subst e; rw [hk] at h; cases h
  rw [Lib.iterAt_other _ _ _ _ _ hbk]; exact h
theorem Nd.alloc {B p : Nat} {n : Int} {w : World} (h : Nd B p n w) (o : Obj) : Nd B p n (w.alloc o) := by
  unfold Nd at h ⊢
  rw [Below.heap_alloc _ _ _ (Array.getElem?_eq_some_iff.1 h).1]; exact h
theorem Nd.lt {B p : Nat} {n : Int} {w : World} (h : Nd B p n w) : p < w.heap.size := (Array.getElem?_eq_some_iff.1 h).1

def quoteStep (l : List UInt8) (c : Int) : Option (List UInt8) := some (l ++ pointText c)
def countStep (n : Int) (_ : Int) : Option Int := some (n + 1)
def QOk (pos : Nat) (l : List UInt8) : Prop := l.length ≤ 1 + 4 * pos
def NOk (pos : Nat) (n : Int) : Prop := 0 ≤ n ∧ n ≤ pos

/-- What a closure that is called once a code point comes to. -/
def Did {σ : Type} (Inv : σ → World → Prop) (Fr' : World → World → Prop) (w : World) (st : σ) (e : Ending) (w' : World) : Prop := e = .returned (.tuple #[]) ∧ Inv st w' ∧ Fr' w w'

set_option maxHeartbeats 400000 in
theorem count34 (B p : Nat) (n : Int) (at' c : Int) (w : World) (h : Nd B p n w) (hB : B ≤ p) (h0 : 0 ≤ n) (h1 : n < 9223372036854775807) :
    Calls Tryz.prog 180 #[.int .i64 at', .int .i32 c, .pointer (some ⟨p, 0, none⟩)] w (Did (Nd B p) (Fp B p) w (n + 1)) := by
  have hc0 : w.cell? ⟨p, 0, none⟩ = some (.int .i64 n) := by rw [cell_of_row w p _ _ 3 (0, 0) h]; rfl
  have hf0 : w.frozen? ⟨p, 0, none⟩ = false := by unfold Nd at h; simp [World.frozen?, h]
  have HB := Lib.hid h; clear h
  go_enter Tryz.func180, Tryz.ntmps180
  go_wp2
  go_end0
  exact ⟨rfl, heap_setCell_same w p 0 _ 3 _ HB.out, (Below.refl B w).setCell hB _, (Lib.OthersKept.refl 5 (some p) w).setCell _ rfl _⟩

def WalkS {σ : Type} (Inv : σ → World → Prop) (Okk : Nat → σ → Prop) (B len : Nat) (w : World) (o : Nat ⊕ σ) (e : Ending) (w' : World) : Prop :=
  match o with
  | .inr st => e = .returned (.tuple #[]) ∧ Inv st w' ∧ (∃ q, q < len + 4 ∧ Okk q st) ∧ Below B w w'
  | .inl p => e = .panicked [{ v := .iface 299 (.int .i64 p), recovered := false }] ∧ (∃ st, Inv st w') ∧ Below B w w'

/-- What holds at the head of walk's loop; k: the iterator's block. -/
def LoopS {σ : Type} (step : σ → Int → Option σ) (Inv : σ → World → Prop) (Okk : Nat → σ → Prop) (B : Nat) (s : ByteArray) (k : Nat) (w : World) (res : Nat ⊕ σ) (w' : World) : Prop :=
  ∃ (pos f : Nat) (st : σ), w'.heap[k]? = some (.stringIter s pos) ∧ Inv st w' ∧ Okk pos st ∧ pos < s.size + 4 ∧ Below B w w' ∧ runL step f pos (s.data.toList.drop pos) st = res ∧ s.size ≤ pos + f

theorem decL_width4 (l : List UInt8) : (decL l).2 ≤ 4 := by
  unfold decL Utf8.decode
  simp only
  repeat' split
  all_goals simp

set_option maxHeartbeats 400000 in
theorem walkN (s : ByteArray) (B p : Nat) (st0 : Int) (w : World) (hs : s.size ≤ 9223372036854775000) (hB : B ≤ p) (hr : Nd B p st0 w) (hk : NOk 0 st0) :
    Calls Tryz.prog 179 #[.string s, .func (.func 180) #[] #[.pointer (some ⟨p, 0, none⟩)]] w (WalkS (Nd B p) NOk B s.size w (runL countStep s.size 0 s.data.toList st0)) := by
  have hbl : p < w.heap.size := hr.lt
  have hr1 : Nd B p st0 (w.iter s 0) := hr.alloc (.stringIter s 0)
  have hst : LoopS countStep (Nd B p) NOk B s w.heap.size w (runL countStep s.size 0 s.data.toList st0) (w.iter s 0) :=
    ⟨0, s.size, st0, World.iter_heap w s 0, hr1, hk, by omega, (Below.refl _ _).alloc (by omega) _, by simp, by omega⟩
  generalize runL countStep s.size 0 s.data.toList st0 = res at hst ⊢
  have HST := Lib.hid hst; clear hst
  clear hr hr1 hk
  go_enter Tryz.func179, Tryz.ntmps179
  go_wp2
  go_loopw [4] (fun _ w' => LoopS countStep (Nd B p) NOk B s w.heap.size w res w') (fun _ w' => s.size - w'.iterPos w.heap.size)
  case atStart => exact HST.out
  case round =>
    obtain ⟨pos, f, st, hit, hrd, hok, hpl, hbe, hrun, hf⟩ := hrel
    have HRUN := Lib.hid hrun; clear hrun
    have HIT := Lib.hid hit; clear hit
    by_cases hp : pos < s.size
    · obtain ⟨c, d, hcd⟩ : ∃ c d, decL (s.data.toList.drop pos) = (c, d) := ⟨_, _, rfl⟩
      have hd1 : 1 ≤ d := by have := decL_width (s.data.toList.drop pos); rw [hcd] at this; exact this
      have hd4 : d ≤ 4 := by have := decL_width4 (s.data.toList.drop pos); rw [hcd] at this; exact this
      obtain ⟨w1, hw1⟩ : ∃ w1, wr.iterAt w.heap.size s (pos + d) = w1 := ⟨_, rfl⟩
      have hnx : ∀ ty, (Instr.next (.pointer (some ⟨w.heap.size, 0, none⟩)) true ty).run Tryz.prog wr = .ok (.tuple #[.bool true, .int .i64 pos, .int .i32 c]) w1 := fun ty => by
        rw [Lib.run_next_any_at wr w.heap.size s pos ty HIT.out hp, decode_drop, hcd, ← hw1]
      have hit1 : w1.heap[w.heap.size]? = some (.stringIter s (pos + d)) := by rw [← hw1]; exact Lib.iterAt_heap wr _ s pos _ HIT.out
      have hrd1 : Nd B p st w1 := by rw [← hw1]; exact hrd.iter HIT.out _
      have hbe1 : Below B w w1 := by rw [← hw1]; exact Lib.below_iterAt hbe (by omega) s _
      have hmeas : s.size - (pos + d) < s.size - wr.iterPos w.heap.size := by
        have : wr.iterPos w.heap.size = pos := by simp [World.iterPos, HIT.out]
        rw [this]; omega
      have HIT1 := Lib.hid hit1; clear hit1 hw1 hrd hbe
      have hsw := sw46 (s.extract pos s.size) w1
      rw [swB_eq] at hsw
      have hbad : badL (s.data.toList.drop pos) = ((c : Int) == 65533 && !((s.data.toList.drop pos).take 3 == [239, 191, 189])) := by
        unfold badL; rw [hcd]; simp only; congr 1; rw [Bool.eq_iff_iff]; simp; omega
      have hrun := HRUN.out
      cases f with
      | zero => omega
      | succ f =>
      unfold runL at hrun
      rw [if_neg (drop_ne hp), hbad, hcd, List.drop_drop] at hrun
      simp only [countStep] at hrun
      have hstep := count34 B p st pos c w1 hrd1 hB (by unfold NOk at hok; omega) (by unfold NOk at hok; omega)
      clear hbad HRUN
      generalize ((s.data.toList.drop pos).take 3 == [239, 191, 189]) = sw at hsw hrun
      have HCD := Lib.hid hcd; clear hcd
      have HSW := Lib.hid hsw; clear hsw
      have HSTEP := Lib.hid hstep; clear hstep
      have fin : ∀ w2, Nd B p (st + 1) w2 → Fp B p w1 w2 → runL countStep f (pos + d) (s.data.toList.drop (pos + d)) (st + 1) = res → LoopS countStep (Nd B p) NOk B s w.heap.size w res w2 ∧ s.size - w2.iterPos w.heap.size < s.size - wr.iterPos w.heap.size := by
        intro w2 h2 h3 h4
        have hi2 : w2.heap[w.heap.size]? = some (.stringIter s (pos + d)) := h3.2 _ _ HIT1.out (by simp; omega) (by simp)
        have hpos : w2.iterPos w.heap.size = pos + d := by simp [World.iterPos, hi2]
        exact ⟨⟨pos + d, f, _, hi2, h2, (by unfold NOk at hok ⊢; omega), by omega, hbe1.trans h3.1, h4, by omega⟩, by rw [hpos]; exact hmeas⟩
      have FIN := Lib.hid fin; clear fin
      cases hb1 : ((c : Int) == 65533) with
      | false =>
        rw [hb1] at hrun
        simp only [Bool.false_and, Bool.false_eq_true, if_false] at hrun
        have HR := Lib.hid hrun; clear hrun
        go_wp2_with (first | (go_at_call 180; go_must (refine HSTEP.out.mono ?_); rintro e w' ⟨rfl, hr', hf'⟩))
        exact FIN.out _ hr' hf' HR.out
      | true =>
        rw [hb1] at hrun
        cases sw with
        | true =>
          simp only [Bool.not_true, Bool.and_false, Bool.false_eq_true, if_false] at hrun
          have HR := Lib.hid hrun; clear hrun
          go_wp2_with (first | (go_at_call 203; go_must (refine HSW.out.mono ?_); rintro e w' ⟨rfl, rfl⟩) | (go_at_call 180; go_must (refine HSTEP.out.mono ?_); rintro e w' ⟨rfl, hr', hf'⟩))
          exact FIN.out _ hr' hf' HR.out
        | false =>
          simp only [Bool.not_false, Bool.and_true, if_true] at hrun
          subst hrun
          go_wp2_with (first | (go_at_call 203; go_must (refine HSW.out.mono ?_); rintro e w' ⟨rfl, rfl⟩))
          exact ⟨rfl, rfl, ⟨_, hrd1⟩, hbe1⟩
    · have hnx : ∀ ty, (Instr.next (.pointer (some ⟨w.heap.size, 0, none⟩)) true ty).run Tryz.prog wr = _ := fun ty => Lib.run_next_end_at wr w.heap.size s pos ty HIT.out hp
      go_wp2
      go_end0
      have hres := HRUN.out
      rw [drop_nil hp, runL_end] at hres
      rw [← hres]
      exact ⟨rfl, hrd, ⟨pos, hpl, hok⟩, hbe⟩
end Go.Proofs.YtjanddnlhaionaaGreatDoor.L2
namespace Go.Proofs.YtjanddnlhaionaaGreatDoor.L2
open Go.RowKit

set_option maxHeartbeats 400000 in
theorem catch33 (p : Nat) (at' : Int) (x : Value) (older : List PanicEntry) (w : World) (hp : w.cell? ⟨p, 0, none⟩ = some x) (fp : w.frozen? ⟨p, 0, none⟩ = false) :
    CallsD Tryz.prog 178 #[.pointer (some ⟨p, 0, none⟩)] (.panicking ({ v := .iface 299 (.int .i64 at'), recovered := false } :: older)) w fun e m' w' =>
      e = .returned (.tuple #[]) ∧ m' = .panicking ({ v := .iface 299 (.int .i64 at'), recovered := true } :: older) ∧ w' = w.setCell ⟨p, 0, none⟩ (.int .i64 (-1)) := by
  refine callsD_of_wpS Tryz.func178 rfl fun c₀ cs hu => ?_
  apply wpS_seq
  apply wpS_region
  simp [wpOpsS, go_sem, recoverD, hu, Tryz.ntmps178, Exit.thenS]
  refine wpS_of_wp ?_
  go_wp2
  simp [bodyPostS, results, Tryz.results178]

theorem idle33 (p : Nat) (w : World) :
    CallsD Tryz.prog 178 #[.pointer (some ⟨p, 0, none⟩)] .returning w fun e m' w' => e = .returned (.tuple #[]) ∧ m' = .returning ∧ w = w' := by
  refine callsD_of_wpS Tryz.func178 rfl fun c₀ cs hu => ?_
  apply wpS_seq
  apply wpS_region
  simp [wpOpsS, go_sem, recoverD, hu, Tryz.ntmps178, Exit.thenS]
  refine wpS_of_wp ?_
  go_wp2
  cases c₀
  simp_all [bodyPostS, results, Tryz.results178]

def runesEnd : Nat ⊕ Int → Int
  | .inl _ => -1
  | .inr n => n
def runesR (l : List UInt8) : Int := runesEnd (runL countStep l.length 0 l 0)

set_option maxHeartbeats 400000 in
theorem runes18 (s : ByteArray) (w : World) (hs : s.size ≤ 5000) :
    Calls Tryz.prog 150 #[.string s] w fun e w' => e = .returned (.int .i64 (runesR s.data.toList)) ∧ Below w.heap.size w w' := by
  have hmf := hmf
  have hrd : Nd w.heap.size w.heap.size 0 (w.alloc (.cells #[.int .i64 0] 3)) := heap_alloc_new w _
  have hwalk := walkN s w.heap.size w.heap.size 0 _ (by omega) (Nat.le_refl _) hrd ⟨by omega, by omega⟩
  have hP : runesR s.data.toList = runesEnd (runL countStep s.size 0 s.data.toList 0) := rfl
  rw [hP]
  clear hP
  generalize runL countStep s.size 0 s.data.toList 0 = res at hwalk ⊢
  have hb0 : Below w.heap.size w (w.alloc (.cells #[.int .i64 0] 3)) := (Below.refl _ w).alloc (Nat.le_refl _) _
  cases res with
  | inl p =>
    rw [show runesEnd (.inl p) = -1 from rfl]
    have HW := Lib.hid hwalk
    clear hwalk hrd
    go_enter_defers Tryz.func150, Tryz.ntmps150
    go_wp2_with (go_at_call 179; go_must (refine HW.out.mono ?_); rintro e w1 ⟨rfl, ⟨n, hnd⟩, hb1⟩)
    have hc1 : w1.cell? ⟨w.heap.size, 0, none⟩ = some (.int .i64 n) := by rw [cell_of_row w1 _ _ _ 3 (0, 0) hnd]; rfl
    have hf1 : w1.frozen? ⟨w.heap.size, 0, none⟩ = false := by unfold Nd at hnd; simp [World.frozen?, hnd]
    have hbw := hb0.trans hb1
    refine leaves_cons (f := 178) (args := #[.pointer (some ⟨w.heap.size, 0, none⟩)]) (by simp) (by simp [go_sem]) ?_
    refine (catch33 w.heap.size p _ [] w1 hc1 hf1).mono ?_
    rintro e u' w'' ⟨rfl, rfl, rfl⟩
    simp [Leaves, settle, results, Tryz.results150, go_sem, hc1]
    exact hbw.setCell (Nat.le_refl _) _
  | inr n =>
    rw [show runesEnd (.inr n) = n from rfl]
    have HW := Lib.hid hwalk
    clear hwalk hrd
    go_enter_defers Tryz.func150, Tryz.ntmps150
    go_wp2_with fail
    refine HW.out.mono ?_
    rintro e w1 ⟨rfl, hnd, hok, hb1⟩
    have hc1 : w1.cell? ⟨w.heap.size, 0, none⟩ = some (.int .i64 n) := by rw [cell_of_row w1 _ _ _ 3 (0, 0) hnd]; rfl
    have hf1 : w1.frozen? ⟨w.heap.size, 0, none⟩ = false := by unfold Nd at hnd; simp [World.frozen?, hnd]
    have hbw := hb0.trans hb1
    clear hnd
    go_wp2
    refine leaves_cons (f := 178) (args := #[.pointer (some ⟨w.heap.size, 0, none⟩)]) (by simp) (by simp [go_sem]) ?_
    refine (idle33 w.heap.size _).mono ?_
    rintro e u' w'' ⟨rfl, rfl, rfl⟩
    simp [Leaves, settle, results, Tryz.results150, go_sem, hc1]
    exact hbw.setCell (Nat.le_refl _) _

def quoteEnd : Nat ⊕ List UInt8 → List UInt8 × Int
  | .inl _ => ([], 2)
  | .inr x => (x ++ [34], 0)
def quoteR (l : List UInt8) : List UInt8 × Int := quoteEnd (runL quoteStep l.length 0 l [34])

structure Res2 (w w1 : World) : Prop where
  p : w1.cell? ⟨w.heap.size, 0, none⟩ = some (.string ⟨#[]⟩)
  q : w1.cell? ⟨w.heap.size + 1, 0, none⟩ = some (.int .i64 0)
  fp : w1.frozen? ⟨w.heap.size, 0, none⟩ = false
  fq : w1.frozen? ⟨w.heap.size + 1, 0, none⟩ = false
end Go.Proofs.YtjanddnlhaionaaGreatDoor.L2
namespace Go.Proofs.YtjanddnlhaionaaGreatDoor.L2
open Go.RowKit

def validV (k n : Int) (s : ByteArray) : Bool := (k == 1 && s.toList.isEmpty) || (k == 2 && (n == 0 && (decide ((s.size : Int) ≤ 40) && decide (0 ≤ runesR s.data.toList))))
def checkR (k n : Int) (s : ByteArray) : Int := if validV k n s then 0 else 2

set_option maxHeartbeats 800000 in
theorem check14 (k n : Int) (s : ByteArray) (w : World) :
    Calls Tryz.prog 107 #[.agg #[.int .i64 k, .int .i64 n, .string s]] w fun e w' => e = .returned (.int .i64 (checkR k n s)) ∧ Below w.heap.size w w' := by
  have hend : Below w.heap.size w (w.alloc (.cells #[.int .i64 k, .int .i64 n, .string s] 91)) := (Below.refl _ _).alloc (Nat.le_refl _) _
  by_cases k1 : k = 1
  · subst k1
    cases e : s.toList.isEmpty with
    | true =>
      have hA : Hid (checkR 1 n s = 0) := by simp [Hid, checkR, validV, e]
      have e' : (!s.toList.isEmpty) = false := by rw [e]; rfl
      rw [hA.out]
      go_enter Tryz.func107, Tryz.ntmps107
      go_wp2
      go_ret
      exact ⟨rfl, hend⟩
    | false =>
      have hA : Hid (checkR 1 n s = 2) := by simp [Hid, checkR, validV, e]
      have e' : (!s.toList.isEmpty) = true := by rw [e]; rfl
      rw [hA.out]
      go_enter Tryz.func107, Tryz.ntmps107
      go_wp2
      go_ret
      exact ⟨rfl, hend⟩
  have b1 : (k == 1) = false := by simpa using k1
  cases b2 : (k == 2) with
  | false =>
    have hA : Hid (checkR k n s = 2) := by simp [Hid, checkR, validV, b1, b2]
    rw [hA.out]
    clear k1
    go_enter Tryz.func107, Tryz.ntmps107
    go_wp2
    go_ret
    exact ⟨rfl, hend⟩
  | true =>
    cases b3 : (n == 0) with
    | false =>
      have hA : Hid (checkR k n s = 2) := by simp [Hid, checkR, validV, b1, b3]
      rw [hA.out]
      clear k1
      go_enter Tryz.func107, Tryz.ntmps107
      go_wp2
      go_ret
      exact ⟨rfl, hend⟩
    | true =>
      by_cases h4 : (s.size : Int) ≤ 40
      · have hru := runes18 s (w.alloc (.cells #[.int .i64 k, .int .i64 n, .string s] 91)) (by omega)
        by_cases h5 : 0 ≤ runesR s.data.toList
        · have hA : Hid (checkR k n s = 0) := by simp [Hid, checkR, validV, b1, b2, b3, h4, h5]
          rw [hA.out]
          generalize runesR s.data.toList = ru at hru h5
          have HR := Lib.hid hru; clear hru
          clear k1
          go_enter Tryz.func107, Tryz.ntmps107
          go_wp2_with (go_at_call 150; go_must (refine HR.out.mono ?_); rintro e w1 ⟨rfl, hb1⟩)
          go_ret
          exact ⟨rfl, hend.trans (hb1.mono (by simp))⟩
        · have hA : Hid (checkR k n s = 2) := by simp [Hid, checkR, validV, b1, b2, b3, h4, h5]
          rw [hA.out]
          generalize runesR s.data.toList = ru at hru h5
          have HR := Lib.hid hru; clear hru
          clear k1
          go_enter Tryz.func107, Tryz.ntmps107
          go_wp2_with (go_at_call 150; go_must (refine HR.out.mono ?_); rintro e w1 ⟨rfl, hb1⟩)
          go_ret
          exact ⟨rfl, hend.trans (hb1.mono (by simp))⟩
      · have hA : Hid (checkR k n s = 2) := by simp [Hid, checkR, validV, b1, b2, b3, h4]
        rw [hA.out]
        clear k1
        go_enter Tryz.func107, Tryz.ntmps107
        go_wp2
        go_ret
        exact ⟨rfl, hend⟩

def textR (k n : Int) (s : ByteArray) : List UInt8 × Int := if validV k n s then (if k = 2 then quoteR s.data.toList else (intText n, 0)) else ([], 2)

theorem toList_empty {s : ByteArray} (h : s.toList.isEmpty = true) : s.size = 0 := by
  rw [ByteArray.toList_eq] at h
  have := List.isEmpty_iff.1 h
  have hl : s.data.toList.length = s.size := rfl
  rw [this] at hl
  exact hl.symm

end Go.Proofs.YtjanddnlhaionaaGreatDoor.L2
namespace Go.Proofs.YtjanddnlhaionaaGreatDoor.L2
open Go.RowKit

/-- A comparison by -1, 0 and 1 that is a total order. -/
structure TO {α : Type} (f : α → α → Int) : Prop where
  rng : ∀ a b, f a b = -1 ∨ f a b = 0 ∨ f a b = 1
  anti : ∀ a b, f b a = -f a b
  zero : ∀ a b, f a b = 0 ↔ a = b
  tr : ∀ a b c, f a b ≤ 0 → f b c ≤ 0 → f a c ≤ 0

theorem bytes_ext {a b : ByteArray} (h : a.toList = b.toList) : a = b := by
  rw [ByteArray.toList_eq, ByteArray.toList_eq] at h
  cases a; cases b
  simp only at h
  congr 1
  exact Array.toList_inj.1 h

def lexC {α β : Type} (f : α → α → Int) (g : β → β → Int) (a b : α × β) : Int := if f a.1 b.1 = 0 then g a.2 b.2 else f a.1 b.1
def cmp3 : Int × Int × ByteArray → Int × Int × ByteArray → Int := lexC cmpI (lexC cmpI cmpS)
end Go.Proofs.YtjanddnlhaionaaGreatDoor.L2
namespace Go.Proofs.YtjanddnlhaionaaGreatDoor.L2
open Go.RowKit

/-- The cells of three boxed values, and what was there before. -/
structure C3 (w0 : World) (ka na : Int) (sa : ByteArray) (kb nb : Int) (sb : ByteArray) (kc nc : Int) (sc : ByteArray) (w : World) : Prop where
  a0 : w.cell? ⟨w0.heap.size, 0, none⟩ = some (.int .i64 ka)
  a1 : w.cell? ⟨w0.heap.size, 1, none⟩ = some (.int .i64 na)
  a2 : w.cell? ⟨w0.heap.size, 2, none⟩ = some (.string sa)
  b0 : w.cell? ⟨w0.heap.size + 1, 0, none⟩ = some (.int .i64 kb)
  b1 : w.cell? ⟨w0.heap.size + 1, 1, none⟩ = some (.int .i64 nb)
  b2 : w.cell? ⟨w0.heap.size + 1, 2, none⟩ = some (.string sb)
  c0 : w.cell? ⟨w0.heap.size + 1 + 1, 0, none⟩ = some (.int .i64 kc)
  c1 : w.cell? ⟨w0.heap.size + 1 + 1, 1, none⟩ = some (.int .i64 nc)
  c2 : w.cell? ⟨w0.heap.size + 1 + 1, 2, none⟩ = some (.string sc)
  below : Below w0.heap.size w0 w

theorem eql24 (ka na : Int) (sa : ByteArray) (kb nb : Int) (sb : ByteArray) (t : Bool) (h : decide (ka = kb ∧ na = nb ∧ sa = sb) = t) (w : World) :
    (binOp .eql 91 (.agg #[.int .i64 ka, .int .i64 na, .string sa]) (.agg #[.int .i64 kb, .int .i64 nb, .string sb])).run Tryz.prog w = .ok (.bool t) w := by
  subst h
  by_cases h1 : ka = kb
  · by_cases h2 : na = nb
    · by_cases h3 : sa.toList = sb.toList
      · have := bytes_ext h3
        simp [go_sem, h1, h2, this]
      · have h4 : ¬ sa = sb := fun e => h3 (by rw [e])
        simp [go_sem, h1, h2, h3, h4]
    · simp [go_sem, h1, h2]
  · simp [go_sem, h1]

end Go.Proofs.YtjanddnlhaionaaGreatDoor.L2
