/-
  Objects as plain data and in memory; their cells, and what a cell is read as. No condition.
-/
import Derived.Test.YtjanddnlhaionaaGreatDoorL2x1
import Derived.Test.YtjanddnlhaionaaGreatDoorL4x5
namespace Go.Proofs.YtjanddnlhaionaaGreatDoor
open Go.RowKit
open L4 (C)
open L2 (Row Vl RowsAt rowsOK valOK)

structure Kd where
  f : Int
  id : ByteArray
deriving DecidableEq
structure Ob where
  k : Int
  label : ByteArray
  rows : List Row
  kids : List Kd
  parents : List ByteArray
  stamp : Int
  note : ByteArray
  root : ByteArray

def nobytes : ByteArray := ⟨#[]⟩
def numC (n : Int) : C := .mk 1 n ⟨#[]⟩ []
def textC (s : ByteArray) : C := .mk 2 0 s []
def listC (l : List C) : C := .mk 3 0 ⟨#[]⟩ l
def vC (v : Vl) : C := if v.1 = 2 then textC v.2.2 else numC v.2.1
def rowCl (r : Row) : C := listC [numC r.1, numC r.2.1, vC r.2.2]
def kidCl (k : Kd) : C := listC [numC k.f, textC k.id]
def rowsCl (l : List Row) : C := listC (l.map rowCl)
def kidsCl (l : List Kd) : C := listC (l.map kidCl)
def textsCl (l : List ByteArray) : C := listC (l.map textC)
def nodeCl (k : Int) (label : ByteArray) (rows : List Row) (kids : List Kd) : C := listC [numC k, textC label, rowsCl rows, kidsCl kids]
def commitCl (k : Int) (parents : List ByteArray) (stamp : Int) (note root : ByteArray) : C := listC [numC k, textsCl parents, numC stamp, textC note, textC root]
def cellOf (o : Ob) : C := if o.k = 1 then nodeCl o.k o.label o.rows o.kids else commitCl o.k o.parents o.stamp o.note o.root

/-! Which objects are right. -/
def isIdB (s : ByteArray) : Bool := (s.size : Int) == 32
def kidsFrom : Option Kd → List Kd → Bool
  | _, [] => true
  | none, k :: l => isIdB k.id && kidsFrom (some k) l
  | some p, k :: l => isIdB k.id && (!decide (k.f ≤ p.f) && kidsFrom (some k) l)
def kidsOK (l : List Kd) : Bool := kidsFrom none l
def memB (s : ByteArray) (l : List ByteArray) : Bool := l.any fun t => s.toList == t.toList
def parentsFrom : List ByteArray → List ByteArray → Bool
  | _, [] => true
  | a, s :: l => isIdB s && (!memB s a && parentsFrom (a ++ [s]) l)
def parentsOK (l : List ByteArray) : Bool := !decide ((2 : Int) < l.length) && parentsFrom [] l
def nodeOK (o : Ob) : Bool := (o.k == 1) && ((((o.parents.length : Int) == 0) && ((o.stamp == 0) && (o.note.toList.isEmpty && o.root.toList.isEmpty))) && (decide ((o.label.size : Int) ≤ 24) && (rowsOK o.rows && kidsOK o.kids)))
def commitOK (o : Ob) : Bool := (o.k == 2) && ((o.label.toList.isEmpty && (((o.rows.length : Int) == 0) && ((o.kids.length : Int) == 0))) && (parentsOK o.parents && (L2.isTimeB o.stamp && (decide ((o.note.size : Int) ≤ 40) && isIdB o.root))))
def objOK (o : Ob) : Bool := nodeOK o || commitOK o

/-! What a cell is read as. -/
inductive Sh where
  | none
  | num (n : Int)
  | text (s : ByteArray)
  | list (l : List C)
def Sh.some : Sh → Bool
  | .none => false
  | _ => true
def shOf : C → Sh
  | .mk k n s l =>
    if k = 1 ∧ s.toList.isEmpty = true ∧ l.length = 0 then .num n
    else if k = 2 ∧ n = 0 ∧ l.length = 0 then .text s
    else if k = 3 ∧ n = 0 ∧ s.toList.isEmpty = true then .list l
    else .none
def fieldsM (c : C) (n : Nat) : Option (List Sh) :=
  match shOf c with
  | .list l => if l.length = n ∧ (l.map shOf).all Sh.some = true then .some (l.map shOf) else .none
  | _ => .none
def Sh.val : Sh → Vl
  | .num n => (1, n, ⟨#[]⟩)
  | .text s => (2, 0, s)
  | _ => (0, 0, ⟨#[]⟩)
def numM : Sh → Option Int
  | .num n => .some n
  | _ => .none
def txtM : Sh → Option ByteArray
  | .text s => .some s
  | _ => .none
def rowM (c : C) : Option Row :=
  match fieldsM c 3 with
  | .some [a, b, v] => (numM a).bind fun x => (numM b).bind fun y => .some (x, y, v.val)
  | _ => .none
def kidM (c : C) : Option Kd :=
  match fieldsM c 2 with
  | .some [a, b] => (numM a).bind fun x => (txtM b).bind fun y => if 0 ≤ x ∧ x ≤ 255 then .some ⟨x, y⟩ else .none
  | _ => .none
def textM (c : C) : Option ByteArray := txtM (shOf c)
def allM {α : Type} (f : C → Option α) : List C → Option (List α)
  | [] => .some []
  | c :: l => (f c).bind fun x => (allM f l).bind fun y => .some (x :: y)
def listM {α : Type} (f : C → Option α) : Sh → Option (List α)
  | .list l => allM f l
  | _ => .none
def nodeM (c : C) : Option Ob :=
  match fieldsM c 4 with
  | .some [a, b, r, k] => if numM a = .some 1 then (txtM b).bind fun x => (listM rowM r).bind fun y => (listM kidM k).bind fun z => .some ⟨1, x, y, z, [], 0, ⟨#[]⟩, ⟨#[]⟩⟩ else .none
  | _ => .none
def commitM (c : C) : Option Ob :=
  match fieldsM c 5 with
  | .some [a, p, t, n, r] => if numM a = .some 2 then (listM textM p).bind fun x => (numM t).bind fun y => (txtM n).bind fun z => (txtM r).bind fun u => .some ⟨2, ⟨#[]⟩, [], [], x, y, z, u⟩ else .none
  | _ => .none
def objM (c : C) : Option Ob :=
  match nodeM c with
  | .some o => .some o
  | .none => commitM c

/-! In memory. -/
structure KidAt (w : World) (b o : Nat) (k : Kd) : Prop where
  c0 : w.cell? ⟨b, o, none⟩ = some (.int .u8 k.f)
  c1 : w.cell? ⟨b, o + 1, none⟩ = some (.string k.id)
  f0 : 0 ≤ k.f
  f1 : k.f ≤ 255
set_option maxRecDepth 100000 in
theorem KidAt.keep {w w' : World} {b o : Nat} {k : Kd} (h : KidAt w b o k) (hk : ∀ o, w'.cell? ⟨b, o, none⟩ = w.cell? ⟨b, o, none⟩) : KidAt w' b o k :=
  ⟨(hk _).trans h.c0, (hk _).trans h.c1, h.f0, h.f1⟩
def KidsAt (w : World) (B : Nat) (v : Value) (l : List Kd) : Prop :=
  ∃ A cap, v = .slice A l.length cap ∧ l.length ≤ cap ∧ cap ≤ maxLen ∧ (0 < l.length → ∃ b o, A = some ⟨b, o, none⟩ ∧ b < B ∧ ∀ i (h : i < l.length), KidAt w b (o + i * 2) l[i])
set_option maxRecDepth 100000 in
theorem KidsAt.below {w w' : World} {B : Nat} {v : Value} {l : List Kd} (h : KidsAt w B v l) (hb : Below B w w') : KidsAt w' B v l := by
  obtain ⟨A, cap, rfl, h1, h2, h3⟩ := h
  refine ⟨A, cap, rfl, h1, h2, fun hl => ?_⟩
  obtain ⟨b, o, rfl, hb', hr⟩ := h3 hl
  exact ⟨b, o, rfl, hb', fun i hi => (hr i hi).keep fun o => hb.cell (p := ⟨b, o, none⟩) hb'⟩
set_option maxRecDepth 100000 in
theorem KidsAt.more {w : World} {B B' : Nat} {v : Value} {l : List Kd} (h : KidsAt w B v l) (hB : B ≤ B') : KidsAt w B' v l := by
  obtain ⟨A, cap, rfl, h1, h2, h3⟩ := h
  refine ⟨A, cap, rfl, h1, h2, fun hl => ?_⟩
  obtain ⟨b, o, rfl, hb', hr⟩ := h3 hl
  exact ⟨b, o, rfl, by omega, hr⟩
set_option maxRecDepth 100000 in
theorem KidsAt.step {w w' : World} {v : Value} {l : List Kd} (h : KidsAt w w.heap.size v l) (hb : Below w.heap.size w w') : KidsAt w' w'.heap.size v l := (h.below hb).more hb.size
set_option maxRecDepth 100000 in
theorem KidsAt.nil (w : World) (B : Nat) : KidsAt w B (.slice none 0 0) [] := ⟨none, 0, rfl, Nat.le_refl _, Nat.zero_le _, fun h => by simp at h⟩

def TxtsAt (w : World) (B : Nat) (v : Value) (l : List ByteArray) : Prop :=
  ∃ A cap, v = .slice A l.length cap ∧ l.length ≤ cap ∧ cap ≤ maxLen ∧ (0 < l.length → ∃ b o, A = some ⟨b, o, none⟩ ∧ b < B ∧ ∀ i (h : i < l.length), w.cell? ⟨b, o + i, none⟩ = some (.string l[i]))
set_option maxRecDepth 100000 in
theorem TxtsAt.below {w w' : World} {B : Nat} {v : Value} {l : List ByteArray} (h : TxtsAt w B v l) (hb : Below B w w') : TxtsAt w' B v l := by
  obtain ⟨A, cap, rfl, h1, h2, h3⟩ := h
  refine ⟨A, cap, rfl, h1, h2, fun hl => ?_⟩
  obtain ⟨b, o, rfl, hb', hr⟩ := h3 hl
  exact ⟨b, o, rfl, hb', fun i hi => (hb.cell (p := ⟨b, o + i, none⟩) hb').trans (hr i hi)⟩
set_option maxRecDepth 100000 in
theorem TxtsAt.more {w : World} {B B' : Nat} {v : Value} {l : List ByteArray} (h : TxtsAt w B v l) (hB : B ≤ B') : TxtsAt w B' v l := by
  obtain ⟨A, cap, rfl, h1, h2, h3⟩ := h
  refine ⟨A, cap, rfl, h1, h2, fun hl => ?_⟩
  obtain ⟨b, o, rfl, hb', hr⟩ := h3 hl
  exact ⟨b, o, rfl, by omega, hr⟩
set_option maxRecDepth 100000 in
theorem TxtsAt.step {w w' : World} {v : Value} {l : List ByteArray} (h : TxtsAt w w.heap.size v l) (hb : Below w.heap.size w w') : TxtsAt w' w'.heap.size v l := (h.below hb).more hb.size
set_option maxRecDepth 100000 in
theorem TxtsAt.nil (w : World) (B : Nat) : TxtsAt w B (.slice none 0 0) [] := ⟨none, 0, rfl, Nat.le_refl _, Nat.zero_le _, fun h => by simp at h⟩
set_option maxRecDepth 100000 in
theorem rowsNil (w : World) (B : Nat) : RowsAt w B (.slice none 0 0) [] := ⟨none, 0, rfl, Nat.le_refl _, Nat.zero_le _, fun h => by simp at h⟩

def obVs (o : Ob) (r k p : Value) : Array Value := #[.int .i64 o.k, .string o.label, r, k, p, .int .i64 o.stamp, .string o.note, .string o.root]
structure ObAt (w : World) (r k p : Value) (o : Ob) : Prop where
  rows : RowsAt w w.heap.size r o.rows
  kids : KidsAt w w.heap.size k o.kids
  parents : TxtsAt w w.heap.size p o.parents
  s0 : -9223372036854775808 ≤ o.stamp
  s1 : o.stamp ≤ 9223372036854775807
  num : ∀ r ∈ o.rows, -9223372036854775808 ≤ r.2.2.2.1 ∧ r.2.2.2.1 ≤ 9223372036854775807
set_option maxRecDepth 100000 in
theorem ObAt.step {w w' : World} {r k p : Value} {o : Ob} (h : ObAt w r k p o) (hb : Below w.heap.size w w') : ObAt w' r k p o := ⟨h.rows.step hb, h.kids.step hb, h.parents.step hb, h.s0, h.s1, h.num⟩
set_option maxRecDepth 100000 in
theorem KidsAt.bounds {w : World} {B : Nat} {v : Value} {l : List Kd} (h : KidsAt w B v l) : ∀ k ∈ l, 0 ≤ k.f ∧ k.f ≤ 255 := by
  intro k hk
  obtain ⟨i, hi, rfl⟩ := List.getElem_of_mem hk
  obtain ⟨A, cap, -, -, -, h3⟩ := h
  obtain ⟨b, o, -, -, hr⟩ := h3 (by omega)
  exact ⟨(hr i hi).f0, (hr i hi).f1⟩

/-- The value v is of the shape sh, in memory below B. -/
def ShAt (w : World) (B : Nat) (d : Nat) (v : Value) : Sh → Prop
  | .none => v = .nilIface
  | .num n => v = .iface 183 (.int .i64 n)
  | .text s => v = .iface 184 (.string s)
  | .list l => ∃ u, v = .iface 180 u ∧ L4.LAt w B d u l
set_option maxRecDepth 100000 in
theorem ShAt.keep {w w' : World} {B B' d : Nat} {v : Value} {sh : Sh} (h : ShAt w B d v sh) (hb : Below B w w') (hB : B ≤ B') : ShAt w' B' d v sh := by
  cases sh with
  | list l => obtain ⟨u, rfl, h⟩ := h; exact ⟨u, rfl, (h.below hb).more hB⟩
  | _ => exact h
def ShsAt (w : World) (B d : Nat) (v : Value) (l : List Sh) : Prop :=
  ∃ A cap, v = .slice A l.length cap ∧ l.length ≤ cap ∧ cap ≤ maxLen ∧ (0 < l.length → ∃ b o, A = some ⟨b, o, none⟩ ∧ b < B ∧ ∀ i (h : i < l.length), ∃ u, w.cell? ⟨b, o + i, none⟩ = some u ∧ ShAt w B d u l[i])
set_option maxRecDepth 100000 in
theorem ShsAt.keep {w w' : World} {B B' d : Nat} {v : Value} {l : List Sh} (h : ShsAt w B d v l) (hb : Below B w w') (hB : B ≤ B') : ShsAt w' B' d v l := by
  obtain ⟨A, cap, rfl, h1, h2, h3⟩ := h
  refine ⟨A, cap, rfl, h1, h2, fun hl => ?_⟩
  obtain ⟨b, o, rfl, hb', hr⟩ := h3 hl
  refine ⟨b, o, rfl, by omega, fun i hi => ?_⟩
  obtain ⟨u, h4, h5⟩ := hr i hi
  exact ⟨u, (hb.cell (p := ⟨b, o + i, none⟩) hb').trans h4, h5.keep hb hB⟩
end Go.Proofs.YtjanddnlhaionaaGreatDoor
