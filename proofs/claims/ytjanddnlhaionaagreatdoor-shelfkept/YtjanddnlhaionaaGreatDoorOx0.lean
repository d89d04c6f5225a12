/-
  Objects as plain data and in memory; their cells, and what a cell is read as. No condition. Contracts of isId, isTime, Index, Contains, areKids, areParents. No condition. Contracts of areKids and areParents. No condition. Contracts of areParents, isNode, isCommit, Check. No condition. Contracts of isNode, isCommit, Check. No condition. The contracts of shapeOf and isKind. No condition. Rows of the call's own, of whatever elements; the contract of readFields. No condition. The contracts of readText, readKid, and of a shape's value. No condition.
-/
import Derived.Test.YtjanddnlhaionaaGreatDoorL2x1
import Derived.Test.YtjanddnlhaionaaGreatDoorL4x5
set_option maxRecDepth 100000
namespace Go.Proofs.YtjanddnlhaionaaGreatDoor
open Go.RowKit
open L4 (C)
open L2 (Row Vl RowsAt rowsOK valOK)

structure Kd where
  f : Int
  id : ByteArray
deriving DecidableEq
structure Ob where
  k : Int
  label : ByteArray
  rows : List Row
  kids : List Kd
  parents : List ByteArray
  stamp : Int
  note : ByteArray
  root : ByteArray

def nobytes : ByteArray := ⟨#[]⟩
def numC (n : Int) : C := .mk 1 n ⟨#[]⟩ []
def textC (s : ByteArray) : C := .mk 2 0 s []
def listC (l : List C) : C := .mk 3 0 ⟨#[]⟩ l
def vC (v : Vl) : C := if v.1 = 2 then textC v.2.2 else numC v.2.1
def rowCl (r : Row) : C := listC [numC r.1, numC r.2.1, vC r.2.2]
def kidCl (k : Kd) : C := listC [numC k.f, textC k.id]
def rowsCl (l : List Row) : C := listC (l.map rowCl)
def kidsCl (l : List Kd) : C := listC (l.map kidCl)
def textsCl (l : List ByteArray) : C := listC (l.map textC)
def nodeCl (k : Int) (label : ByteArray) (rows : List Row) (kids : List Kd) : C := listC [numC k, textC label, rowsCl rows, kidsCl kids]
def commitCl (k : Int) (parents : List ByteArray) (stamp : Int) (note root : ByteArray) : C := listC [numC k, textsCl parents, numC stamp, textC note, textC root]
def cellOf (o : Ob) : C := if o.k = 1 then nodeCl o.k o.label o.rows o.kids else commitCl o.k o.parents o.stamp o.note o.root

/-! Which objects are right. -/
def isIdB (s : ByteArray) : Bool := (s.size : Int) == 32
def kidsFrom : Option Kd → List Kd → Bool
  | _, [] => true
  | none, k :: l => isIdB k.id && kidsFrom (some k) l
  | some p, k :: l => isIdB k.id && (!decide (k.f ≤ p.f) && kidsFrom (some k) l)
def kidsOK (l : List Kd) : Bool := kidsFrom none l
def memB (s : ByteArray) (l : List ByteArray) : Bool := l.any fun t => s.toList == t.toList
def parentsFrom : List ByteArray → List ByteArray → Bool
  | _, [] => true
  | a, s :: l => isIdB s && (!memB s a && parentsFrom (a ++ [s]) l)
def parentsOK (l : List ByteArray) : Bool := !decide ((2 : Int) < l.length) && parentsFrom [] l
def nodeOK (o : Ob) : Bool := (o.k == 1) && ((((o.parents.length : Int) == 0) && ((o.stamp == 0) && (o.note.toList.isEmpty && o.root.toList.isEmpty))) && (decide ((o.label.size : Int) ≤ 24) && (rowsOK o.rows && kidsOK o.kids)))
def commitOK (o : Ob) : Bool := (o.k == 2) && ((o.label.toList.isEmpty && (((o.rows.length : Int) == 0) && ((o.kids.length : Int) == 0))) && (parentsOK o.parents && (L2.isTimeB o.stamp && (decide ((o.note.size : Int) ≤ 40) && isIdB o.root))))
def objOK (o : Ob) : Bool := nodeOK o || commitOK o

/-! What a cell is read as. -/
inductive Sh where
  | none
  | num (n : Int)
  | text (s : ByteArray)
  | list (l : List C)
def Sh.some : Sh → Bool
  | .none => false
  | _ => true
def shOf : C → Sh
  | .mk k n s l =>
    if k = 1 ∧ s.toList.isEmpty = true ∧ l.length = 0 then .num n
    else if k = 2 ∧ n = 0 ∧ l.length = 0 then .text s
    else if k = 3 ∧ n = 0 ∧ s.toList.isEmpty = true then .list l
    else .none
def fieldsM (c : C) (n : Nat) : Option (List Sh) :=
  match shOf c with
  | .list l => if l.length = n ∧ (l.map shOf).all Sh.some = true then .some (l.map shOf) else .none
  | _ => .none
def Sh.val : Sh → Vl
  | .num n => (1, n, ⟨#[]⟩)
  | .text s => (2, 0, s)
  | _ => (0, 0, ⟨#[]⟩)
def numM : Sh → Option Int
  | .num n => .some n
  | _ => .none
def txtM : Sh → Option ByteArray
  | .text s => .some s
  | _ => .none
def rowM (c : C) : Option Row :=
  match fieldsM c 3 with
  | .some [a, b, v] => (numM a).bind fun x => (numM b).bind fun y => .some (x, y, v.val)
  | _ => .none
def kidM (c : C) : Option Kd :=
  match fieldsM c 2 with
  | .some [a, b] => (numM a).bind fun x => (txtM b).bind fun y => if 0 ≤ x ∧ x ≤ 255 then .some ⟨x, y⟩ else .none
  | _ => .none
def textM (c : C) : Option ByteArray := txtM (shOf c)
def allM {α : Type} (f : C → Option α) : List C → Option (List α)
  | [] => .some []
  | c :: l => (f c).bind fun x => (allM f l).bind fun y => .some (x :: y)
def listM {α : Type} (f : C → Option α) : Sh → Option (List α)
  | .list l => allM f l
  | _ => .none
def nodeM (c : C) : Option Ob :=
  match fieldsM c 4 with
  | .some [a, b, r, k] => if numM a = .some 1 then (txtM b).bind fun x => (listM rowM r).bind fun y => (listM kidM k).bind fun z => .some ⟨1, x, y, z, [], 0, ⟨#[]⟩, ⟨#[]⟩⟩ else .none
  | _ => .none
def commitM (c : C) : Option Ob :=
  match fieldsM c 5 with
  | .some [a, p, t, n, r] => if numM a = .some 2 then (listM textM p).bind fun x => (numM t).bind fun y => (txtM n).bind fun z => (txtM r).bind fun u => .some ⟨2, ⟨#[]⟩, [], [], x, y, z, u⟩ else .none
  | _ => .none
def objM (c : C) : Option Ob :=
  match nodeM c with
  | .some o => .some o
  | .none => commitM c

/-! In memory. -/
structure KidAt (w : World) (b o : Nat) (k : Kd) : Prop where
  c0 : w.cell? ⟨b, o, none⟩ = some (.int .u8 k.f)
  c1 : w.cell? ⟨b, o + 1, none⟩ = some (.string k.id)
  f0 : 0 ≤ k.f
  f1 : k.f ≤ 255
theorem KidAt.keep {w w' : World} {b o : Nat} {k : Kd} (h : KidAt w b o k) (hk : ∀ o, w'.cell? ⟨b, o, none⟩ = w.cell? ⟨b, o, none⟩) : KidAt w' b o k :=
  ⟨(hk _).trans h.c0, (hk _).trans h.c1, h.f0, h.f1⟩
def KidsAt (w : World) (B : Nat) (v : Value) (l : List Kd) : Prop :=
  ∃ A cap, v = .slice A l.length cap ∧ l.length ≤ cap ∧ cap ≤ maxLen ∧ (0 < l.length → ∃ b o, A = some ⟨b, o, none⟩ ∧ b < B ∧ ∀ i (h : i < l.length), KidAt w b (o + i * 2) l[i])
theorem KidsAt.below {w w' : World} {B : Nat} {v : Value} {l : List Kd} (h : KidsAt w B v l) (hb : Below B w w') : KidsAt w' B v l := by
  obtain ⟨A, cap, rfl, h1, h2, h3⟩ := h
  refine ⟨A, cap, rfl, h1, h2, fun hl => ?_⟩
  obtain ⟨b, o, rfl, hb', hr⟩ := h3 hl
  exact ⟨b, o, rfl, hb', fun i hi => (hr i hi).keep fun o => hb.cell (p := ⟨b, o, none⟩) hb'⟩
theorem KidsAt.more {w : World} {B B' : Nat} {v : Value} {l : List Kd} (h : KidsAt w B v l) (hB : B ≤ B') : KidsAt w B' v l := by
  obtain ⟨A, cap, rfl, h1, h2, h3⟩ := h
  refine ⟨A, cap, rfl, h1, h2, fun hl => ?_⟩
  obtain ⟨b, o, rfl, hb', hr⟩ := h3 hl
  exact ⟨b, o, rfl, by omega, hr⟩
theorem KidsAt.step {w w' : World} {v : Value} {l : List Kd} (h : KidsAt w w.heap.size v l) (hb : Below w.heap.size w w') : KidsAt w' w'.heap.size v l := (h.below hb).more hb.size
theorem KidsAt.nil (w : World) (B : Nat) : KidsAt w B (.slice none 0 0) [] := ⟨none, 0, rfl, Nat.le_refl _, Nat.zero_le _, fun h => by simp at h⟩

def TxtsAt (w : World) (B : Nat) (v : Value) (l : List ByteArray) : Prop :=
  ∃ A cap, v = .slice A l.length cap ∧ l.length ≤ cap ∧ cap ≤ maxLen ∧ (0 < l.length → ∃ b o, A = some ⟨b, o, none⟩ ∧ b < B ∧ ∀ i (h : i < l.length), w.cell? ⟨b, o + i, none⟩ = some (.string l[i]))
theorem TxtsAt.below {w w' : World} {B : Nat} {v : Value} {l : List ByteArray} (h : TxtsAt w B v l) (hb : Below B w w') : TxtsAt w' B v l := by
  obtain ⟨A, cap, rfl, h1, h2, h3⟩ := h
  refine ⟨A, cap, rfl, h1, h2, fun hl => ?_⟩
  obtain ⟨b, o, rfl, hb', hr⟩ := h3 hl
  exact ⟨b, o, rfl, hb', fun i hi => (hb.cell (p := ⟨b, o + i, none⟩) hb').trans (hr i hi)⟩
theorem TxtsAt.more {w : World} {B B' : Nat} {v : Value} {l : List ByteArray} (h : TxtsAt w B v l) (hB : B ≤ B') : TxtsAt w B' v l := by
  obtain ⟨A, cap, rfl, h1, h2, h3⟩ := h
  refine ⟨A, cap, rfl, h1, h2, fun hl => ?_⟩
  obtain ⟨b, o, rfl, hb', hr⟩ := h3 hl
  exact ⟨b, o, rfl, by omega, hr⟩
theorem TxtsAt.step {w w' : World} {v : Value} {l : List ByteArray} (h : TxtsAt w w.heap.size v l) (hb : Below w.heap.size w w') : TxtsAt w' w'.heap.size v l := (h.below hb).more hb.size
theorem TxtsAt.nil (w : World) (B : Nat) : TxtsAt w B (.slice none 0 0) [] := ⟨none, 0, rfl, Nat.le_refl _, Nat.zero_le _, fun h => by simp at h⟩
theorem rowsNil (w : World) (B : Nat) : RowsAt w B (.slice none 0 0) [] := ⟨none, 0, rfl, Nat.le_refl _, Nat.zero_le _, fun h => by simp at h⟩

def obVs (o : Ob) (r k p : Value) : Array Value := #[.int .i64 o.k, .string o.label, r, k, p, .int .i64 o.stamp, .string o.note, .string o.root]
structure ObAt (w : World) (r k p : Value) (o : Ob) : Prop where
  rows : RowsAt w w.heap.size r o.rows
  kids : KidsAt w w.heap.size k o.kids
  parents : TxtsAt w w.heap.size p o.parents
  s0 : -9223372036854775808 ≤ o.stamp
  s1 : o.stamp ≤ 9223372036854775807
  num : ∀ r ∈ o.rows, -9223372036854775808 ≤ r.2.2.2.1 ∧ r.2.2.2.1 ≤ 9223372036854775807
theorem ObAt.step {w w' : World} {r k p : Value} {o : Ob} (h : ObAt w r k p o) (hb : Below w.heap.size w w') : ObAt w' r k p o := ⟨h.rows.step hb, h.kids.step hb, h.parents.step hb, h.s0, h.s1, h.num⟩
theorem KidsAt.bounds {w : World} {B : Nat} {v : Value} {l : List Kd} (h : KidsAt w B v l) : ∀ k ∈ l, 0 ≤ k.f ∧ k.f ≤ 255 := by
  intro k hk
  obtain ⟨i, hi, rfl⟩ := List.getElem_of_mem hk
  obtain ⟨A, cap, -, -, -, h3⟩ := h
  obtain ⟨b, o, -, -, hr⟩ := h3 (by omega)
  exact ⟨(hr i hi).f0, (hr i hi).f1⟩

/-- The value v is of the shape sh, in memory below B. -/
def ShAt (w : World) (B : Nat) (d : Nat) (v : Value) : Sh → Prop
  | .none => v = .nilIface
  | .num n => v = .iface 183 (.int .i64 n)
  | .text s => v = .iface 184 (.string s)
  | .list l => ∃ u, v = .iface 180 u ∧ L4.LAt w B d u l
theorem ShAt.keep {w w' : World} {B B' d : Nat} {v : Value} {sh : Sh} (h : ShAt w B d v sh) (hb : Below B w w') (hB : B ≤ B') : ShAt w' B' d v sh := by
  cases sh with
  | list l => obtain ⟨u, rfl, h⟩ := h; exact ⟨u, rfl, (h.below hb).more hB⟩
  | _ => exact h
def ShsAt (w : World) (B d : Nat) (v : Value) (l : List Sh) : Prop :=
  ∃ A cap, v = .slice A l.length cap ∧ l.length ≤ cap ∧ cap ≤ maxLen ∧ (0 < l.length → ∃ b o, A = some ⟨b, o, none⟩ ∧ b < B ∧ ∀ i (h : i < l.length), ∃ u, w.cell? ⟨b, o + i, none⟩ = some u ∧ ShAt w B d u l[i])
end Go.Proofs.YtjanddnlhaionaaGreatDoor
namespace Go.Proofs.YtjanddnlhaionaaGreatDoor
open Go.RowKit
open L4 (C)
open L2 (Row Vl RowsAt rowsOK valOK)

theorem isId49 (s : ByteArray) (w : World) : Calls Tryz.prog 114 #[.string s] w fun e w' => e = .returned (.bool (isIdB s)) ∧ w = w' := by
  obtain ⟨q, hq⟩ : ∃ q, isIdB s = q := ⟨_, rfl⟩
  rw [hq]
  have h : ((s.size : Int) == 32) = q := hq
  clear hq
  go_enter Tryz.func114, Tryz.ntmps114
  go_wp2
  go_ret
  exact ⟨rfl, rfl⟩

theorem isTime48 (t : Int) (w : World) : Calls Tryz.prog 113 #[.int .i64 t] w fun e w' => e = .returned (.bool (L2.isTimeB t)) ∧ w = w' := by
  cases h0 : decide (0 ≤ t) with
  | false =>
    have hA : Hid (L2.isTimeB t = false) := by simp [Hid, L2.isTimeB, h0]
    rw [hA.out]
    go_enter Tryz.func113, Tryz.ntmps113
    go_wp2
    go_ret
    exact ⟨rfl, rfl⟩
  | true =>
    have hA : Hid (L2.isTimeB t = decide (t ≤ 1099511627776)) := by simp [Hid, L2.isTimeB, h0]
    rw [hA.out]
    go_enter Tryz.func113, Tryz.ntmps113
    go_wp2
    go_ret
    exact ⟨rfl, rfl⟩

set_option maxHeartbeats 400000 in
theorem index77 (l : List ByteArray) (v : Value) (s : ByteArray) (w : World) (h : TxtsAt w w.heap.size v l) :
    Calls Tryz.prog 182 #[v, .string s] w fun e w' => ∃ i : Int, e = .returned (.int .i64 i) ∧ decide (0 ≤ i) = memB s l ∧ w = w' := by
  obtain ⟨A, cap, rfl, h1, h2, h3⟩ := h
  unfold maxLen at h2
  obtain ⟨q, hq⟩ : ∃ q, memB s l = q := ⟨_, rfl⟩
  rw [hq]
  have HQ : Hid (memB s (l.drop 0) = q) := hq
  clear hq
  go_enter Tryz.func182, Tryz.ntmps182
  go_wp2
  go_loop [5, 8] (fun _ i => ∃ k : Nat, k ≤ l.length ∧ i = .int .i64 k ∧ Hid (memB s (l.drop k) = q)) (fun _ i => l.length - (intOf i).toNat)
  case atStart => exact ⟨0, Nat.zero_le _, rfl, HQ⟩
  case round =>
    obtain ⟨k, hk, rfl, HK⟩ := hrel
    by_cases hlt : k < l.length
    · obtain ⟨b, o, rfl, hb, hr⟩ := h3 (by omega)
      have hd := L2.drop_get l k hlt
      have c0 := hr k hlt
      generalize l[k] = t at hd c0
      clear h3 hr
      obtain ⟨e, he⟩ : ∃ e, (s.toList == t.toList) = e := ⟨_, rfl⟩
      have HD : Hid (memB s (l.drop k) = (e || memB s (l.drop (k + 1)))) := by unfold Hid memB; rw [hd, List.any_cons, he]
      clear hd
      cases e with
      | true =>
        have hq : q = true := by rw [← HK.out, HD.out, Bool.true_or]
        subst hq
        clear HQ HK HD
        go_wp2
        go_ret
        exact ⟨_, rfl, by simp, rfl⟩
      | false =>
        have HN : Hid (memB s (l.drop (k + 1)) = q) := by unfold Hid; rw [← HK.out, HD.out, Bool.false_or]
        clear HK HD HQ
        go_wp2
        go_round
        case rel => exact ⟨k + 1, by omega, by go_num, HN⟩
        case measure => simp [intOf]; omega
    · have hq : q = false := by rw [← HK.out, List.drop_of_length_le (by omega)]; rfl
      subst hq
      clear HQ HK h3
      go_wp2
      go_ret
      exact ⟨_, rfl, by decide, rfl⟩

theorem contains68 (l : List ByteArray) (v : Value) (s : ByteArray) (w : World) (h : TxtsAt w w.heap.size v l) :
    Calls Tryz.prog 152 #[v, .string s] w fun e w' => e = .returned (.bool (memB s l)) ∧ w = w' := by
  have HI := Lib.hid (index77 l v s w h)
  obtain ⟨q, hq⟩ : ∃ q, memB s l = q := ⟨_, rfl⟩
  rw [hq] at HI ⊢
  clear hq h
  go_enter Tryz.func152, Tryz.ntmps152
  go_wp2_with fail
  refine HI.out.mono ?_
  rintro e w' ⟨i, rfl, hi, rfl⟩
  go_wp2
  go_ret
  exact ⟨rfl, rfl⟩

theorem TxtsAt.take {w : World} {B : Nat} {A : Option Addr} {n cap : Nat} {l : List ByteArray} (h : TxtsAt w B (.slice A n cap) l) (k : Nat) (hk : k ≤ n) : TxtsAt w B (.slice A k cap) (l.take k) := by
  obtain ⟨A', cap', e, h1, h2, h3⟩ := h
  injection e with e1 e2 e3
  subst e1 e2 e3
  have hl : (l.take k).length = k := by rw [List.length_take]; omega
  refine ⟨A, cap, by rw [hl], by omega, h2, fun hz => ?_⟩
  obtain ⟨b, o, rfl, hb, hr⟩ := h3 (by omega)
  refine ⟨b, o, rfl, hb, fun i hi => ?_⟩
  rw [List.getElem_take]
  exact hr i (by omega)

def prevK (l : List Kd) (k : Nat) : Option Kd := if k = 0 then none else l[k - 1]?
end Go.Proofs.YtjanddnlhaionaaGreatDoor
namespace Go.Proofs.YtjanddnlhaionaaGreatDoor
open Go.RowKit
open L4 (C)
open L2 (Row Vl RowsAt rowsOK valOK)

/-- A block of two cells, and what lay. -/
structure Pair (w : World) (x y : Value) (w' : World) : Prop where
  c0 : w'.cell? ⟨w.heap.size, 0, none⟩ = some x
  c1 : w'.cell? ⟨w.heap.size, 1, none⟩ = some y
  lt : w.heap.size < w'.heap.size
  below : Below w.heap.size w w'
def gapK : Option Kd → Int → Bool
  | none, _ => true
  | some p, f => !decide (f ≤ p.f)
theorem quietS {f : Nat} {args : Array Value} {w : World} {n : Nat} {v : Value} (h : Calls Tryz.prog f args (w.drewN n) fun e w' => e = .returned v ∧ w.drewN n = w') : Calls Tryz.prog f args (w.drewN n) fun e w'' => e = .returned v ∧ ∃ m, w'' = w.drewN m :=
  Calls.quiet_of_same (h.mono fun _ _ ⟨a, b⟩ => ⟨a, b.symm⟩)

set_option maxHeartbeats 1000000 in
theorem areKids46 (l : List Kd) (v : Value) (w : World) (h : KidsAt w w.heap.size v l) :
    Calls Tryz.prog 111 #[v] w fun e w' => e = .returned (.bool (kidsOK l)) ∧ Below w.heap.size w w' := by
  obtain ⟨A, cap, rfl, h1, h2, h3⟩ := h
  unfold maxLen at h2
  obtain ⟨q, hq⟩ : ∃ q, kidsOK l = q := ⟨_, rfl⟩
  rw [hq]
  have HQ : Hid (kidsFrom (prevK l 0) (l.drop 0) = q) := hq
  clear hq
  go_enter Tryz.func111, Tryz.ntmps111
  go_wp2_with fail
  go_loopw [3, 7] (fun _ i wr => ∃ k : Nat, k ≤ l.length ∧ i = .int .i64 k ∧ Below w.heap.size w wr ∧ Hid (kidsFrom (prevK l k) (l.drop k) = q)) (fun _ i _ => l.length - (intOf i).toNat)
  case atStart => exact ⟨0, Nat.zero_le _, rfl, Below.refl _ _, HQ⟩
  case round =>
    obtain ⟨k, hk, rfl, hbw, HK⟩ := hrel
    have HBW := Lib.hid hbw
    by_cases hlt : k < l.length
    · obtain ⟨b, o, rfl, hb, hr⟩ := h3 (by omega)
      have hd := L2.drop_get l k hlt
      have hrk := hr k hlt
      have c0 := (hbw.cell (p := ⟨b, o + k * 2, none⟩) hb).trans hrk.c0
      have c1 := (hbw.cell (p := ⟨b, o + k * 2 + 1, none⟩) hb).trans hrk.c1
      have hf0 := hrk.f0
      have hf1 := hrk.f1
      have hbl : b < wr.heap.size := Nat.lt_of_lt_of_le hb hbw.size
      clear hbw hrk
      obtain ⟨f, hf⟩ : ∃ f, l[k].f = f := ⟨_, rfl⟩
      obtain ⟨id, hid⟩ : ∃ id, l[k].id = id := ⟨_, rfl⟩
      rw [hf] at c0 hf0 hf1
      rw [hid] at c1
      have HID := Lib.hid (isId49 id)
      have HE : Hid (Below w.heap.size w (wr.alloc (.cells #[.int .u8 f, .string id] 95))) := HBW.out.alloc HBW.out.size _
      have HD : Hid (kidsFrom (prevK l k) (l.drop k) = (isIdB id && (gapK (prevK l k) f && kidsFrom (prevK l (k + 1)) (l.drop (k + 1))))) := by
        unfold Hid
        have e : prevK l (k + 1) = some l[k] := by unfold prevK; rw [if_neg (by omega)]; simp [hlt]
        rw [hd, e, ← hf, ← hid]
        cases prevK l k <;> simp [kidsFrom, gapK]
      have HR := Lib.hid hr
      clear hr hd hf hid h3
      generalize isIdB id = q1 at HD HID
      go_wp2_with fail
      cases q1 with
      | false =>
        have hq : q = false := by rw [← HK.out, HD.out]; simp
        subst hq
        clear HQ HK HD HR
        go_quiet ((go_at_call 114; exact quietS (HID.out _)))
        go_wp2
        go_ret
        exact ⟨rfl, L4.below_drewN HE.out _⟩
      | true =>
        by_cases hk0 : k = 0
        · subst hk0
          have HN : Hid (kidsFrom (prevK l 1) (l.drop 1) = q) := by unfold Hid; rw [← HK.out, HD.out]; simp [prevK, gapK]
          clear HQ HK HD HR
          go_quiet ((go_at_call 114; exact quietS (HID.out _)))
          go_wp2
          go_roundw
          case rel => exact ⟨1, by omega, by go_num, L4.below_drewN HE.out _, HN⟩
          case measure => simp [intOf]; omega
        · obtain ⟨j, rfl⟩ : ∃ j, k = j + 1 := ⟨k - 1, by omega⟩
          have hrj := HR.out j (by omega)
          have p0 := (HBW.out.cell (p := ⟨b, o + j * 2, none⟩) hb).trans hrj.c0
          have hpv : prevK l (j + 1) = some l[j] := by
            unfold prevK
            rw [if_neg (by omega)]
            exact List.getElem?_eq_getElem (by omega)
          obtain ⟨pf, hpf⟩ : ∃ pf, l[j].f = pf := ⟨_, rfl⟩
          rw [hpf] at p0
          have HG : Hid (gapK (prevK l (j + 1)) f = !decide (f ≤ pf)) := by unfold Hid; rw [hpv, ← hpf]; rfl
          clear hpv hpf hrj
          cases hle : decide (f ≤ pf) with
          | true =>
            have hq : q = false := by rw [← HK.out, HD.out, HG.out, hle]; simp
            subst hq
            clear HQ HK HD HR HG
            go_quiet ((go_at_call 114; exact quietS (HID.out _)))
            go_wp2
            go_ret
            exact ⟨rfl, L4.below_drewN HE.out _⟩
          | false =>
            have HN : Hid (kidsFrom (prevK l (j + 1 + 1)) (l.drop (j + 1 + 1)) = q) := by unfold Hid; rw [← HK.out, HD.out, HG.out, hle]; simp
            clear HQ HK HD HR HG
            go_quiet ((go_at_call 114; exact quietS (HID.out _)))
            go_wp2
            go_roundw
            case rel => exact ⟨j + 1 + 1, by omega, by go_num, L4.below_drewN HE.out _, HN⟩
            case measure => simp [intOf]; omega
    · have hq : q = true := by rw [← HK.out, List.drop_of_length_le (by omega)]; cases prevK l k <;> rfl
      subst hq
      clear HQ HK h3
      go_wp2
      go_ret
      exact ⟨rfl, HBW.out⟩
end Go.Proofs.YtjanddnlhaionaaGreatDoor
namespace Go.Proofs.YtjanddnlhaionaaGreatDoor
open Go.RowKit
open L4 (C)
open L2 (Row Vl RowsAt rowsOK valOK)

set_option maxHeartbeats 1000000 in
theorem areParents47 (l : List ByteArray) (v : Value) (w : World) (h : TxtsAt w w.heap.size v l) :
    Calls Tryz.prog 112 #[v] w fun e w' => e = .returned (.bool (parentsOK l)) ∧ w = w' := by
  have HTA := Lib.hid h
  obtain ⟨A, cap, rfl, h1, h2, h3⟩ := h
  unfold maxLen at h2
  by_cases h64 : (2 : Int) < l.length
  · have hA : Hid (parentsOK l = false) := by unfold Hid parentsOK; rw [decide_eq_true h64]; rfl
    rw [hA.out]
    go_enter Tryz.func112, Tryz.ntmps112
    go_wp2
    go_ret
    exact ⟨rfl, rfl⟩
  · obtain ⟨q, hq⟩ : ∃ q, parentsOK l = q := ⟨_, rfl⟩
    rw [hq]
    have HQ : Hid (parentsFrom (l.take 0) (l.drop 0) = q) := by unfold Hid; rw [← hq]; unfold parentsOK; rw [decide_eq_false h64]; rfl
    clear hq
    go_enter Tryz.func112, Tryz.ntmps112
    go_wp2_with fail
    go_loopw [3, 4, 10] (fun _ _ i wr => ∃ k : Nat, k ≤ l.length ∧ i = .int .i64 k ∧ wr = w ∧ Hid (parentsFrom (l.take k) (l.drop k) = q)) (fun _ _ i _ => l.length - (intOf i).toNat)
    case atStart => exact ⟨0, Nat.zero_le _, rfl, rfl, HQ⟩
    case round =>
      obtain ⟨k, hk, rfl, rfl, HK⟩ := hrel
      by_cases hlt : k < l.length
      · have hta := HTA.out.take k hk
        obtain ⟨b, o, rfl, hb, hr⟩ := h3 (by omega)
        have hd := L2.drop_get l k hlt
        have ht : l.take (k + 1) = l.take k ++ [l[k]] := List.take_succ_eq_append_getElem hlt
        have c0 := hr k hlt
        have HID := Lib.hid (isId49 l[k])
        have HC := Lib.hid (contains68 (l.take k) _ l[k] wr hta)
        have HD : Hid (parentsFrom (l.take k) (l.drop k) = (isIdB l[k] && (!memB l[k] (l.take k) && parentsFrom (l.take (k + 1)) (l.drop (k + 1))))) := by unfold Hid; rw [hd, ht]; rfl
        clear hd ht hta h3 hr HTA
        generalize l[k] = s at c0 HID HC HD
        generalize isIdB s = q1 at HID HD
        generalize memB s (l.take k) = q2 at HC HD
        cases q1 with
        | false =>
          have hq : q = false := by rw [← HK.out, HD.out]; simp
          subst hq
          clear HQ HK HD HC
          go_wp2_with (go_at_call 114; refine (HID.out _).mono ?_; rintro e w' ⟨rfl, rfl⟩)
          go_wp2
          go_ret
          exact ⟨rfl, rfl⟩
        | true =>
          cases q2 with
          | true =>
            have hq : q = false := by rw [← HK.out, HD.out]; simp
            subst hq
            clear HQ HK HD
            go_wp2_with (first | (go_at_call 114; refine (HID.out _).mono ?_; rintro e w' ⟨rfl, rfl⟩) | (go_at_call 152; refine HC.out.mono ?_; rintro e w' ⟨rfl, rfl⟩))
            go_ret
            exact ⟨rfl, rfl⟩
          | false =>
            have HN : Hid (parentsFrom (l.take (k + 1)) (l.drop (k + 1)) = q) := by unfold Hid; rw [← HK.out, HD.out]; simp
            clear HQ HK HD
            go_wp2_with (first | (go_at_call 114; refine (HID.out _).mono ?_; rintro e w' ⟨rfl, rfl⟩) | (go_at_call 152; refine HC.out.mono ?_; rintro e w' ⟨rfl, rfl⟩))
            go_roundw
            case rel => exact ⟨k + 1, by omega, by go_num, by trivial, HN⟩
            case measure => simp [intOf]; omega
      · have hq : q = true := by rw [← HK.out, List.drop_of_length_le (by omega)]; unfold parentsFrom; rfl
        subst hq
        clear HQ HK h3 HTA
        go_wp2
        go_ret
        exact ⟨rfl, rfl⟩
end Go.Proofs.YtjanddnlhaionaaGreatDoor
namespace Go.Proofs.YtjanddnlhaionaaGreatDoor
open Go.RowKit
open L4 (C)
open L2 (Row Vl RowsAt rowsOK valOK)

/-- An object in a block of its own, and what lay. -/
structure Obj1 (w : World) (o : Ob) (r k p : Value) (w' : World) : Prop where
  c0 : w'.cell? ⟨w.heap.size, 0, none⟩ = some (.int .i64 o.k)
  c1 : w'.cell? ⟨w.heap.size, 1, none⟩ = some (.string o.label)
  c2 : w'.cell? ⟨w.heap.size, 2, none⟩ = some r
  c3 : w'.cell? ⟨w.heap.size, 3, none⟩ = some k
  c4 : w'.cell? ⟨w.heap.size, 4, none⟩ = some p
  c5 : w'.cell? ⟨w.heap.size, 5, none⟩ = some (.int .i64 o.stamp)
  c6 : w'.cell? ⟨w.heap.size, 6, none⟩ = some (.string o.note)
  c7 : w'.cell? ⟨w.heap.size, 7, none⟩ = some (.string o.root)
  lt : w.heap.size < w'.heap.size
  below : Below w.heap.size w w'
theorem Obj1.start (w : World) (o : Ob) (r k p : Value) : Obj1 w o r k p (w.alloc (.cells (obVs o r k p) 27)) :=
  ⟨by simp [go_sem, obVs], by simp [go_sem, obVs], by simp [go_sem, obVs], by simp [go_sem, obVs], by simp [go_sem, obVs], by simp [go_sem, obVs], by simp [go_sem, obVs], by simp [go_sem, obVs], by simp, (Below.refl _ _).alloc (Nat.le_refl _) _⟩
theorem Obj1.step {w : World} {o : Ob} {r k p : Value} {w1 w2 : World} (h : Obj1 w o r k p w1) (hb : Below w1.heap.size w1 w2) : Obj1 w o r k p w2 :=
  ⟨(hb.cell (p := ⟨w.heap.size, 0, none⟩) h.lt).trans h.c0, (hb.cell (p := ⟨w.heap.size, 1, none⟩) h.lt).trans h.c1, (hb.cell (p := ⟨w.heap.size, 2, none⟩) h.lt).trans h.c2, (hb.cell (p := ⟨w.heap.size, 3, none⟩) h.lt).trans h.c3, (hb.cell (p := ⟨w.heap.size, 4, none⟩) h.lt).trans h.c4, (hb.cell (p := ⟨w.heap.size, 5, none⟩) h.lt).trans h.c5, (hb.cell (p := ⟨w.heap.size, 6, none⟩) h.lt).trans h.c6, (hb.cell (p := ⟨w.heap.size, 7, none⟩) h.lt).trans h.c7, Nat.lt_of_lt_of_le h.lt hb.size, h.below.trans (hb.mono (Nat.le_of_lt h.lt))⟩

set_option maxHeartbeats 4000000 in
theorem isNode23 (ok : Int) (label : ByteArray) (rows : List Row) (kids : List Kd) (parents : List ByteArray) (stamp : Int) (note root : ByteArray) (r k p : Value) (w : World) (h : ObAt w r k p ⟨ok, label, rows, kids, parents, stamp, note, root⟩) :
    Calls Tryz.prog 57 #[.agg #[.int .i64 ok, .string label, r, k, p, .int .i64 stamp, .string note, .string root]] w fun e w' => e = .returned (.bool (nodeOK ⟨ok, label, rows, kids, parents, stamp, note, root⟩)) ∧ Below w.heap.size w w' := by
  obtain ⟨q, hq⟩ : ∃ q, nodeOK ⟨ok, label, rows, kids, parents, stamp, note, root⟩ = q := ⟨_, rfl⟩
  rw [hq]
  have HQ : Hid (((ok == 1) && ((((parents.length : Int) == 0) && ((stamp == 0) && (note.toList.isEmpty && root.toList.isEmpty))) && (decide ((label.size : Int) ≤ 24) && (rowsOK rows && kidsOK kids)))) = q) := hq
  clear hq
  have HO := Lib.hid (Obj1.start w ⟨ok, label, rows, kids, parents, stamp, note, root⟩ r k p)
  have h' := h.step HO.out.below
  have HR := Lib.hid (L2.check18 rows r _ h'.rows)
  have HK := Lib.hid fun w2 hb => areKids46 kids k w2 (h'.kids.step hb)
  obtain ⟨A, cap, hp, -, -, -⟩ := h.parents
  simp only at hp
  subst hp
  clear h h'
  generalize rowsOK rows = q1 at HR HQ
  generalize kidsOK kids = q2 at HK HQ
  cases a0 : ((parents.length : Int) == 0) with
  | false =>
    have hq : q = false := by rw [← HQ.out, a0]; simp
    subst hq
    clear HQ HK HR
    cases a1 : (ok == 1) <;> (go_enter Tryz.func57, Tryz.ntmps57; go_wp2; go_ret; exact ⟨rfl, HO.out.below⟩)
  | true =>
  cases a2 : (stamp == 0) with
  | false =>
    have hq : q = false := by rw [← HQ.out, a0, a2]; simp
    subst hq
    clear HQ HK HR
    cases a1 : (ok == 1) <;> (go_enter Tryz.func57, Tryz.ntmps57; go_wp2; go_ret; exact ⟨rfl, HO.out.below⟩)
  | true =>
  cases a3 : note.toList.isEmpty with
  | false =>
    have hq : q = false := by rw [← HQ.out, a0, a2, a3]; simp
    subst hq
    clear HQ HK HR
    cases a1 : (ok == 1) <;> (go_enter Tryz.func57, Tryz.ntmps57; go_wp2; go_ret; exact ⟨rfl, HO.out.below⟩)
  | true =>
  cases a4 : root.toList.isEmpty with
  | false =>
    have hq : q = false := by rw [← HQ.out, a0, a2, a3, a4]; simp
    subst hq
    clear HQ HK HR
    cases a1 : (ok == 1) <;> (go_enter Tryz.func57, Tryz.ntmps57; go_wp2; go_ret; exact ⟨rfl, HO.out.below⟩)
  | true =>
  cases a1 : (ok == 1) with
  | false =>
    have hq : q = false := by rw [← HQ.out, a1]; simp
    subst hq
    clear HQ HK HR
    go_enter Tryz.func57, Tryz.ntmps57
    go_wp2
    go_ret
    exact ⟨rfl, HO.out.below⟩
  | true =>
  cases a5 : decide ((label.size : Int) ≤ 24) with
  | false =>
    have hq : q = false := by rw [← HQ.out, a0, a1, a2, a3, a4, a5]; simp
    subst hq
    clear HQ HK HR
    go_enter Tryz.func57, Tryz.ntmps57
    go_wp2
    go_ret
    exact ⟨rfl, HO.out.below⟩
  | true =>
  cases q1 with
  | false =>
    have hq : q = false := by rw [← HQ.out]; simp
    subst hq
    clear HQ HK
    go_enter Tryz.func57, Tryz.ntmps57
    go_wp2_with (go_at_call 52; refine HR.out.mono ?_; rintro e w2 ⟨rfl, hb⟩)
    go_ret
    exact ⟨rfl, (HO.out.step hb).below⟩
  | true =>
    have hq : q = q2 := by rw [← HQ.out, a0, a1, a2, a3, a4, a5]; simp
    subst hq
    clear HQ
    go_enter Tryz.func57, Tryz.ntmps57
    go_wp2_with fail
    refine HR.out.mono ?_
    rintro e w2 ⟨rfl, hb⟩
    have HK2 := Lib.hid (HK.out w2 hb)
    have HO2 := Lib.hid (HO.out.step hb)
    have c3 := HO2.out.c3
    clear hb HK HR HO
    go_wp2_with (go_at_call 111; refine HK2.out.mono ?_; rintro e w3 ⟨rfl, hb3⟩)
    go_ret
    exact ⟨rfl, (HO2.out.step hb3).below⟩

set_option maxHeartbeats 4000000 in
theorem isCommit24 (ok : Int) (label : ByteArray) (rows : List Row) (kids : List Kd) (parents : List ByteArray) (stamp : Int) (note root : ByteArray) (r k p : Value) (w : World) (h : ObAt w r k p ⟨ok, label, rows, kids, parents, stamp, note, root⟩) :
    Calls Tryz.prog 58 #[.agg #[.int .i64 ok, .string label, r, k, p, .int .i64 stamp, .string note, .string root]] w fun e w' => e = .returned (.bool (commitOK ⟨ok, label, rows, kids, parents, stamp, note, root⟩)) ∧ Below w.heap.size w w' := by
  obtain ⟨q, hq⟩ : ∃ q, commitOK ⟨ok, label, rows, kids, parents, stamp, note, root⟩ = q := ⟨_, rfl⟩
  rw [hq]
  have HQ : Hid (((ok == 2) && ((label.toList.isEmpty && (((rows.length : Int) == 0) && ((kids.length : Int) == 0))) && (parentsOK parents && (L2.isTimeB stamp && (decide ((note.size : Int) ≤ 40) && isIdB root))))) = q) := hq
  clear hq
  have HO := Lib.hid (Obj1.start w ⟨ok, label, rows, kids, parents, stamp, note, root⟩ r k p)
  have h' := h.step HO.out.below
  have HP := Lib.hid (areParents47 parents p (w.alloc (.cells #[.int .i64 ok, .string label, r, k, p, .int .i64 stamp, .string note, .string root] 27)) h'.parents)
  have HT := Lib.hid (isTime48 stamp)
  have HI := Lib.hid (isId49 root)
  obtain ⟨A, cap, hp, -, -, -⟩ := h.rows
  obtain ⟨A2, cap2, hp2, -, -, -⟩ := h.kids
  simp only at hp hp2
  subst hp hp2
  clear h h'
  generalize parentsOK parents = q1 at HP HQ
  generalize L2.isTimeB stamp = q2 at HT HQ
  generalize isIdB root = q3 at HI HQ
  cases a0 : label.toList.isEmpty with
  | false =>
    have hq : q = false := by rw [← HQ.out, a0]; simp
    subst hq
    clear HQ HP HT HI
    cases a1 : (ok == 2) <;> (go_enter Tryz.func58, Tryz.ntmps58; go_wp2; go_ret; exact ⟨rfl, HO.out.below⟩)
  | true =>
  cases a2 : ((rows.length : Int) == 0) with
  | false =>
    have hq : q = false := by rw [← HQ.out, a0, a2]; simp
    subst hq
    clear HQ HP HT HI
    cases a1 : (ok == 2) <;> (go_enter Tryz.func58, Tryz.ntmps58; go_wp2; go_ret; exact ⟨rfl, HO.out.below⟩)
  | true =>
  cases a3 : ((kids.length : Int) == 0) with
  | false =>
    have hq : q = false := by rw [← HQ.out, a0, a2, a3]; simp
    subst hq
    clear HQ HP HT HI
    cases a1 : (ok == 2) <;> (go_enter Tryz.func58, Tryz.ntmps58; go_wp2; go_ret; exact ⟨rfl, HO.out.below⟩)
  | true =>
  cases a1 : (ok == 2) with
  | false =>
    have hq : q = false := by rw [← HQ.out, a1]; simp
    subst hq
    clear HQ HP HT HI
    go_enter Tryz.func58, Tryz.ntmps58
    go_wp2
    go_ret
    exact ⟨rfl, HO.out.below⟩
  | true =>
  cases q1 with
  | false =>
    have hq : q = false := by rw [← HQ.out]; simp
    subst hq
    clear HQ HT HI
    go_enter Tryz.func58, Tryz.ntmps58
    go_wp2_with (go_at_call 112; refine HP.out.mono ?_; rintro e w2 ⟨rfl, rfl⟩)
    go_ret
    exact ⟨rfl, HO.out.below⟩
  | true =>
  cases q2 with
  | false =>
    have hq : q = false := by rw [← HQ.out]; simp
    subst hq
    clear HQ HI
    go_enter Tryz.func58, Tryz.ntmps58
    go_wp2_with (first | (go_at_call 112; refine HP.out.mono ?_; rintro e w2 ⟨rfl, rfl⟩) | (go_at_call 113; refine (HT.out _).mono ?_; rintro e w2 ⟨rfl, rfl⟩))
    go_ret
    exact ⟨rfl, HO.out.below⟩
  | true =>
  cases a5 : decide ((note.size : Int) ≤ 40) with
  | false =>
    have hq : q = false := by rw [← HQ.out, a5]; simp
    subst hq
    clear HQ HI
    go_enter Tryz.func58, Tryz.ntmps58
    go_wp2_with (first | (go_at_call 112; refine HP.out.mono ?_; rintro e w2 ⟨rfl, rfl⟩) | (go_at_call 113; refine (HT.out _).mono ?_; rintro e w2 ⟨rfl, rfl⟩))
    go_ret
    exact ⟨rfl, HO.out.below⟩
  | true =>
    have hq : q = q3 := by rw [← HQ.out, a0, a1, a2, a3, a5]; simp
    subst hq
    clear HQ
    go_enter Tryz.func58, Tryz.ntmps58
    go_wp2_with (first | (go_at_call 112; refine HP.out.mono ?_; rintro e w2 ⟨rfl, rfl⟩) | (go_at_call 113; refine (HT.out _).mono ?_; rintro e w2 ⟨rfl, rfl⟩) | (go_at_call 114; refine (HI.out _).mono ?_; rintro e w2 ⟨rfl, rfl⟩))
    go_ret
    exact ⟨rfl, HO.out.below⟩

set_option maxHeartbeats 1000000 in
theorem check12 (ok : Int) (label : ByteArray) (rows : List Row) (kids : List Kd) (parents : List ByteArray) (stamp : Int) (note root : ByteArray) (r k p : Value) (w : World) (h : ObAt w r k p ⟨ok, label, rows, kids, parents, stamp, note, root⟩) :
    Calls Tryz.prog 18 #[.agg #[.int .i64 ok, .string label, r, k, p, .int .i64 stamp, .string note, .string root]] w fun e w' => e = .returned (.int .i64 (if objOK ⟨ok, label, rows, kids, parents, stamp, note, root⟩ then 0 else 2)) ∧ Below w.heap.size w w' := by
  have HO := Lib.hid (Obj1.start w ⟨ok, label, rows, kids, parents, stamp, note, root⟩ r k p)
  have h' := h.step HO.out.below
  have HN := Lib.hid (isNode23 ok label rows kids parents stamp note root r k p _ h')
  have HC := Lib.hid fun w2 hb => isCommit24 ok label rows kids parents stamp note root r k p w2 (h'.step hb)
  unfold objOK
  generalize nodeOK ⟨ok, label, rows, kids, parents, stamp, note, root⟩ = q1 at HN ⊢
  generalize commitOK ⟨ok, label, rows, kids, parents, stamp, note, root⟩ = q2 at HC ⊢
  clear h h'
  cases q1 with
  | true =>
    clear HC
    show Calls _ _ _ _ fun e w' => e = .returned (.int .i64 0) ∧ _
    go_enter Tryz.func18, Tryz.ntmps18
    go_wp2_with (go_at_call 57; refine HN.out.mono ?_; rintro e w2 ⟨rfl, hb⟩)
    go_ret
    exact ⟨rfl, (HO.out.step hb).below⟩
  | false =>
    rw [Bool.false_or]
    obtain ⟨a, ha⟩ : ∃ a : Int, (if q2 then (0 : Int) else 2) = a := ⟨_, rfl⟩
    rw [ha]
    have HA := Lib.hid ha
    clear ha
    go_enter Tryz.func18, Tryz.ntmps18
    go_wp2_with fail
    refine HN.out.mono ?_
    rintro e w2 ⟨rfl, hb⟩
    have HC2 := Lib.hid (HC.out w2 hb)
    have HO2 := Lib.hid (HO.out.step hb)
    obtain ⟨c0, c1, c2, c3, c4, c5, c6, c7, -, -⟩ := HO2.out
    clear hb HC HN HO
    simp only at c0 c1 c5 c6 c7
    go_wp2_with fail
    refine HC2.out.mono ?_
    rintro e w3 ⟨rfl, hb3⟩
    have HO3 := Lib.hid (HO2.out.step hb3)
    clear hb3 c0 c1 c2 c3 c4 c5 c6 c7 HO2 HC2
    cases q2 with
    | true =>
      have ha : a = 0 := HA.out.symm
      subst ha
      go_wp2
      go_ret
      exact ⟨rfl, HO3.out.below⟩
    | false =>
      have ha : a = 2 := HA.out.symm
      subst ha
      go_wp2
      go_ret
      exact ⟨rfl, HO3.out.below⟩
end Go.Proofs.YtjanddnlhaionaaGreatDoor
namespace Go.Proofs.YtjanddnlhaionaaGreatDoor
open Go.RowKit
open L4 (C LAt)
open L2 (Row Vl RowsAt rowsOK valOK)

theorem shOf_eq (k n : Int) (s : ByteArray) (l : List C) : shOf (.mk k n s l) = if k = 1 ∧ s.toList.isEmpty = true ∧ l.length = 0 then .num n else if k = 2 ∧ n = 0 ∧ l.length = 0 then .text s else if k = 3 ∧ n = 0 ∧ s.toList.isEmpty = true then .list l else .none := rfl

def ShTo (w : World) (B d : Nat) (sh : Sh) (e : Ending) (w' : World) : Prop := ∃ v, e = .returned v ∧ ShAt w' B d v sh ∧ Below w.heap.size w w'

set_option maxHeartbeats 8000000 in
theorem shapeOf29 (d : Nat) (k n : Int) (s : ByteArray) (l : List C) (u : Value) (B : Nat) (w : World) (hBw : B ≤ w.heap.size) (h : LAt w B d u l) :
    Calls Tryz.prog 64 #[.agg #[.int .i64 k, .int .i64 n, .string s, u]] w (ShTo w B d (shOf (.mk k n s l))) := by
  obtain ⟨A, cap, rfl⟩ := h.slice
  have hB : Below w.heap.size w (w.alloc (.cells #[.int .i64 k, .int .i64 n, .string s, .slice A l.length cap] 38)) := (Below.refl _ _).alloc (Nat.le_refl _) _
  have HB := Lib.hid hB
  have HL : Hid (∀ q, LAt ((w.alloc (.cells #[.int .i64 k, .int .i64 n, .string s, .slice A l.length cap] 38)).drewN q) B d (.slice A l.length cap) l) := fun q => h.below ((L4.below_drewN hB q).mono hBw)
  clear h hB
  rw [shOf_eq]
  obtain ⟨q1, hq1⟩ : ∃ q, s.toList.isEmpty = q := ⟨_, rfl⟩
  obtain ⟨q2, hq2⟩ : ∃ q, decide (0 < l.length) = q := ⟨_, rfl⟩
  have H2 : Hid (l.length = 0 ↔ q2 = false) := by unfold Hid; rw [← hq2, decide_eq_false_iff_not]; omega
  rw [hq1]
  by_cases k1 : k = 1
  · subst k1
    cases q1 with
    | false =>
      rw [if_neg (by intro h; exact absurd h.2.1 (by decide)), if_neg (by intro h; exact absurd h.1 (by decide)), if_neg (by intro h; exact absurd h.1 (by decide))]
      cases q2 <;> (go_enter Tryz.func64, Tryz.ntmps64; go_wp2_with fail; go_quiet (fail); go_wp2; go_ret; exact ⟨_, rfl, rfl, L4.below_drewN HB.out _⟩)
    | true =>
      cases q2 with
      | true =>
        rw [if_neg (by intro h; exact absurd (H2.out.1 h.2.2) (by decide)), if_neg (by intro h; exact absurd h.1 (by decide)), if_neg (by intro h; exact absurd h.1 (by decide))]
        go_enter Tryz.func64, Tryz.ntmps64
        go_wp2_with fail
        go_quiet (fail)
        go_wp2
        go_ret
        exact ⟨_, rfl, rfl, L4.below_drewN HB.out _⟩
      | false =>
        rw [if_pos ⟨rfl, rfl, H2.out.2 rfl⟩]
        go_enter Tryz.func64, Tryz.ntmps64
        go_wp2_with fail
        go_quiet (fail)
        go_wp2
        go_ret
        exact ⟨_, rfl, rfl, L4.below_drewN HB.out _⟩
  rw [if_neg (fun h => k1 h.1)]
  by_cases k2 : k = 2
  · subst k2
    cases n0 : (n == 0) with
    | false =>
      rw [if_neg (by intro h; rw [h.2.1] at n0; exact absurd n0 (by decide)), if_neg (by intro h; exact absurd h.1 (by decide))]
      clear k1
      go_enter Tryz.func64, Tryz.ntmps64
      go_wp2_with fail
      go_quiet (fail)
      go_wp2
      go_ret
      exact ⟨_, rfl, rfl, L4.below_drewN HB.out _⟩
    | true =>
      have hn : n = 0 := by simpa using n0
      subst hn
      clear k1
      cases q2 with
      | true =>
        rw [if_neg (by intro h; exact absurd (H2.out.1 h.2.2) (by decide)), if_neg (by intro h; exact absurd h.1 (by decide))]
        go_enter Tryz.func64, Tryz.ntmps64
        go_wp2_with fail
        go_quiet (fail)
        go_wp2
        go_ret
        exact ⟨_, rfl, rfl, L4.below_drewN HB.out _⟩
      | false =>
        rw [if_pos ⟨rfl, rfl, H2.out.2 rfl⟩]
        go_enter Tryz.func64, Tryz.ntmps64
        go_wp2_with fail
        go_quiet (fail)
        go_wp2
        go_ret
        exact ⟨_, rfl, rfl, L4.below_drewN HB.out _⟩
  rw [if_neg (fun h => k2 h.1)]
  by_cases k3 : k = 3
  · subst k3
    clear k1 k2
    cases n0 : (n == 0) with
    | false =>
      rw [if_neg (by intro h; rw [h.2.1] at n0; exact absurd n0 (by decide))]
      go_enter Tryz.func64, Tryz.ntmps64
      go_wp2_with fail
      go_quiet (fail)
      go_wp2
      go_ret
      exact ⟨_, rfl, rfl, L4.below_drewN HB.out _⟩
    | true =>
      have hn : n = 0 := by simpa using n0
      subst hn
      cases q1 with
      | false =>
        rw [if_neg (by intro h; exact absurd h.2.2 (by decide))]
        go_enter Tryz.func64, Tryz.ntmps64
        go_wp2_with fail
        go_quiet (fail)
        go_wp2
        go_ret
        exact ⟨_, rfl, rfl, L4.below_drewN HB.out _⟩
      | true =>
        rw [if_pos ⟨rfl, rfl, rfl⟩]
        go_enter Tryz.func64, Tryz.ntmps64
        go_wp2_with fail
        go_quiet (fail)
        go_wp2
        go_ret
        exact ⟨_, rfl, ⟨_, rfl, HL.out _⟩, L4.below_drewN HB.out _⟩
  · rw [if_neg (fun h => k3 h.1)]
    have e1 : (k == 1) = false := by simpa using k1
    have e2 : (k == 2) = false := by simpa using k2
    have e3 : (k == 3) = false := by simpa using k3
    clear k1 k2 k3
    go_enter Tryz.func64, Tryz.ntmps64
    go_wp2_with fail
    go_quiet (fail)
    go_wp2
    go_ret
    exact ⟨_, rfl, rfl, L4.below_drewN HB.out _⟩

/-! What the type assertions say. -/
section
variable (w : World)
theorem as_nn (n : Int) : (Instr.typeAssert (.iface 183 (.int .i64 n)) 113 183 true).run Tryz.prog w = .ok (.tuple #[.int .i64 n, .bool true]) w := by kernel_rfl
theorem as_tn (s : ByteArray) : (Instr.typeAssert (.iface 184 (.string s)) 113 183 true).run Tryz.prog w = .ok (.tuple #[.int .i64 0, .bool false]) w := by kernel_rfl
theorem as_ln (A : Option Addr) (n c : Nat) : (Instr.typeAssert (.iface 180 (.slice A n c)) 113 183 true).run Tryz.prog w = .ok (.tuple #[.int .i64 0, .bool false]) w := by kernel_rfl
theorem as_nt (n : Int) : (Instr.typeAssert (.iface 183 (.int .i64 n)) 113 184 true).run Tryz.prog w = .ok (.tuple #[.string ⟨#[]⟩, .bool false]) w := by kernel_rfl
theorem as_tt (s : ByteArray) : (Instr.typeAssert (.iface 184 (.string s)) 113 184 true).run Tryz.prog w = .ok (.tuple #[.string s, .bool true]) w := by kernel_rfl
theorem as_lt (A : Option Addr) (n c : Nat) : (Instr.typeAssert (.iface 180 (.slice A n c)) 113 184 true).run Tryz.prog w = .ok (.tuple #[.string ⟨#[]⟩, .bool false]) w := by kernel_rfl
theorem as_nl (n : Int) : (Instr.typeAssert (.iface 183 (.int .i64 n)) 113 180 true).run Tryz.prog w = .ok (.tuple #[.slice none 0 0, .bool false]) w := by kernel_rfl
theorem as_tl (s : ByteArray) : (Instr.typeAssert (.iface 184 (.string s)) 113 180 true).run Tryz.prog w = .ok (.tuple #[.slice none 0 0, .bool false]) w := by kernel_rfl
theorem as_ll (A : Option Addr) (n c : Nat) : (Instr.typeAssert (.iface 180 (.slice A n c)) 113 180 true).run Tryz.prog w = .ok (.tuple #[.slice A n c, .bool true]) w := by kernel_rfl
theorem as_0n : (Instr.typeAssert .nilIface 113 183 true).run Tryz.prog w = .ok (.tuple #[.int .i64 0, .bool false]) w := by kernel_rfl
theorem as_0t : (Instr.typeAssert .nilIface 113 184 true).run Tryz.prog w = .ok (.tuple #[.string ⟨#[]⟩, .bool false]) w := by kernel_rfl
theorem as_0l : (Instr.typeAssert .nilIface 113 180 true).run Tryz.prog w = .ok (.tuple #[.slice none 0 0, .bool false]) w := by kernel_rfl
end

/-- What a comma-ok assertion to a number, a text, a list gives. -/
def numV : Sh → Int
  | .num n => n
  | _ => 0
def isNum : Sh → Bool
  | .num _ => true
  | _ => false
def txtV : Sh → ByteArray
  | .text s => s
  | _ => ⟨#[]⟩
def isTxt : Sh → Bool
  | .text _ => true
  | _ => false
theorem sh_slice {w : World} {B d : Nat} {v : Value} {l : List C} (h : ShAt w B d v (.list l)) : ∃ A cap, v = .iface 180 (.slice A l.length cap) ∧ LAt w B d (.slice A l.length cap) l := by
  obtain ⟨u, rfl, h⟩ := h
  obtain ⟨A, cap, rfl⟩ := h.slice
  exact ⟨A, cap, rfl, h⟩
theorem as_num {W : World} {B d : Nat} {v : Value} {sh : Sh} (h : ShAt W B d v sh) (w : World) : (Instr.typeAssert v 113 183 true).run Tryz.prog w = .ok (.tuple #[.int .i64 (numV sh), .bool (isNum sh)]) w := by
  cases sh with
  | none => rw [show v = .nilIface from h]; exact as_0n w
  | num n => rw [show v = .iface 183 (.int .i64 n) from h]; exact as_nn w n
  | text s => rw [show v = .iface 184 (.string s) from h]; exact as_tn w s
  | list l => obtain ⟨A, cap, rfl, _⟩ := sh_slice h; exact as_ln w _ _ _
theorem as_txt {W : World} {B d : Nat} {v : Value} {sh : Sh} (h : ShAt W B d v sh) (w : World) : (Instr.typeAssert v 113 184 true).run Tryz.prog w = .ok (.tuple #[.string (txtV sh), .bool (isTxt sh)]) w := by
  cases sh with
  | none => rw [show v = .nilIface from h]; exact as_0t w
  | num n => rw [show v = .iface 183 (.int .i64 n) from h]; exact as_nt w n
  | text s => rw [show v = .iface 184 (.string s) from h]; exact as_tt w s
  | list l => obtain ⟨A, cap, rfl, _⟩ := sh_slice h; exact as_lt w _ _ _
theorem as_lst {W : World} {B d : Nat} {v : Value} {sh : Sh} (h : ShAt W B d v sh) : (∃ l A cap, sh = .list l ∧ LAt W B d (.slice A l.length cap) l ∧ ∀ w, (Instr.typeAssert v 113 180 true).run Tryz.prog w = .ok (.tuple #[.slice A l.length cap, .bool true]) w) ∨
    ((∀ l, sh ≠ .list l) ∧ ∀ w, (Instr.typeAssert v 113 180 true).run Tryz.prog w = .ok (.tuple #[.slice none 0 0, .bool false]) w) := by
  cases sh with
  | none => right; exact ⟨by simp, fun w => by rw [show v = .nilIface from h]; exact as_0l w⟩
  | num n => right; exact ⟨by simp, fun w => by rw [show v = .iface 183 (.int .i64 n) from h]; exact as_nl w n⟩
  | text s => right; exact ⟨by simp, fun w => by rw [show v = .iface 184 (.string s) from h]; exact as_tl w s⟩
  | list l => left; obtain ⟨A, cap, rfl, h2⟩ := sh_slice h; exact ⟨l, A, cap, rfl, h2, fun w => as_ll w _ _ _⟩

theorem isKind61 {W : World} {B d : Nat} {v : Value} {sh : Sh} (h : ShAt W B d v sh) (kd : Int) (w : World) :
    Calls Tryz.prog 155 #[v, .int .i64 kd] w fun e w' => e = .returned (.bool (isNum sh && (numV sh == kd))) ∧ w = w' := by
  have ha := as_num h
  generalize isNum sh = q at ha ⊢
  generalize numV sh = n at ha ⊢
  cases q with
  | false =>
    show Calls _ _ _ _ fun e w' => e = .returned (.bool false) ∧ _
    go_enter Tryz.func155, Tryz.ntmps155
    go_wp2
    go_ret
    exact ⟨rfl, rfl⟩
  | true =>
    show Calls _ _ _ _ fun e w' => e = .returned (.bool (n == kd)) ∧ _
    go_enter Tryz.func155, Tryz.ntmps155
    go_wp2
    go_ret
    exact ⟨rfl, rfl⟩
end Go.Proofs.YtjanddnlhaionaaGreatDoor
namespace Go.Proofs.YtjanddnlhaionaaGreatDoor
open Go.RowKit
open L4 (C LAt)
open L2 (Row Vl RowsAt rowsOK valOK)

/-- A row of the call's own, of n elements of k cells, and what lay. -/
structure RG (T : TypeId) (k : Nat) (w : World) (v : Value) (n : Nat) (cells : List Value) (W : World) : Prop where
  below : Below w.heap.size w W
  own : W.ownsRow w.heap.size T k v n cells
theorem RG.start (T : TypeId) (k : Nat) (w : World) : RG T k w (.slice none 0 0) 0 [] w := ⟨Below.refl _ _, World.ownsRow_nil w w.heap.size T k⟩
theorem RG.slice {T : TypeId} {k : Nat} {w : World} {v : Value} {n : Nat} {cells : List Value} {W : World} (h : RG T k w v n cells W) : ∃ A cap, v = .slice A n cap := by
  rcases h.own.2 with ⟨rfl, h0⟩ | ⟨g, cap, _, rfl, _⟩
  · exact ⟨none, 0, by rw [h0]⟩
  · exact ⟨_, cap, rfl⟩
theorem RG.step {T : TypeId} {k : Nat} {w : World} {v : Value} {n : Nat} {cells : List Value} {W W' : World} (h : RG T k w v n cells W) (hb : Below W.heap.size W W') : RG T k w v n cells W' := by
  refine ⟨h.below.trans (hb.mono h.below.size), World.ownsRow.kept h.own (row := none) ⟨hb.os, hb.tape, hb.output, hb.size, fun i hi _ => hb.block i hi⟩ ?_⟩
  cases hv : v.ownBlock with
  | none => exact .inl rfl
  | some k => exact .inr (by simp)
theorem RG.app {T : TypeId} {k : Nat} {w : World} {A : Option Addr} {c0 n g cap : Nat} {cells xs : List Value} {w2 w' : World} {o : Obj} (h2 : RG T k w (.slice A n c0) n cells w2) (ho : w'.ownsRow w.heap.size T k (.slice (some ⟨g, 0, none⟩) (n + 1) cap) (n + 1) (cells ++ xs))
    (hg : (w2.alloc o).grownBy w' (Value.slice A n c0).ownBlock) : RG T k w (.slice (some ⟨g, 0, none⟩) (n + 1) cap) (n + 1) (cells ++ xs) w' := by
  have hs := h2.below.size
  have hsz : (w2.alloc o).heap.size = w2.heap.size + 1 := by simp
  refine ⟨h2.below.trans ⟨hg.os, hg.tape, hg.output, by have := hg.size; omega, fun i hi => ?_⟩, ho⟩
  refine (hg.block i (by omega) fun e => ?_).trans (Below.heap_alloc w2 o i (by omega))
  have := (h2.own.lt i e.symm).1
  omega
theorem own_cells {T : TypeId} {k base : Nat} {v : Value} {n : Nat} {xs : List Value} {W : World} (h : W.ownsRow base T k v n xs) :
    (v = .slice none 0 0 ∧ n = 0) ∨ ∃ g cap, v = .slice (some ⟨g, 0, none⟩) n cap ∧ base ≤ g ∧ g < W.heap.size ∧ n ≤ cap ∧ cap ≤ maxLen ∧ ∀ m, m < n * k → W.cell? ⟨g, m, none⟩ = xs[m]? := by
  rcases h.2 with h0 | ⟨g, cap, cur, rfl, hb, hg, hnc, hcm, _, htake⟩
  · exact .inl h0
  · refine .inr ⟨g, cap, rfl, hb, (Array.getElem?_eq_some_iff.1 hg).1, hnc, hcm, fun m hm => ?_⟩
    rw [cell_of_row W g m cur T (0, 0) hg, ← htake, List.getElem?_take, if_pos hm, Array.getElem?_toList]

theorem info71 : ∃ i, Tryz.prog.info? 113 = some i ∧ i.zero = some .nilIface ∧ i.size = 1 ∧ i.bytes = 16 := by
  have h : (Tryz.prog.info? 113).map (fun i => (i.zero, i.size, i.bytes)) = some (some .nilIface, 1, 16) := by kernel_rfl
  cases hq : Tryz.prog.info? 113 with
  | none => rw [hq] at h; cases h
  | some i =>
    rw [hq] at h
    simp only [Option.map_some, Option.some.injEq, Prod.mk.injEq] at h
    exact ⟨i, rfl, h.1, h.2.1, h.2.2⟩

/-- Values of shapes, one behind the other. -/
def ShList (W : World) (B d : Nat) (vals : List Value) (l : List C) : Prop :=
  vals.length ≤ l.length ∧ ∀ i (h : i < vals.length), ∃ (h' : i < l.length), ShAt W B d vals[i] (shOf l[i]) ∧ (shOf l[i]).some = true
theorem ShList.keep {W W' : World} {B d : Nat} {vals : List Value} {l : List C} (h : ShList W B d vals l) (hb : Below B W W') : ShList W' B d vals l :=
  ⟨h.1, fun i hi => by obtain ⟨h', h1, h2⟩ := h.2 i hi; exact ⟨h', h1.keep hb (Nat.le_refl _), h2⟩⟩
theorem ShList.snoc {W : World} {B d : Nat} {vals : List Value} {l : List C} {v : Value} (h : ShList W B d vals l) (hl : vals.length < l.length) (hv : ShAt W B d v (shOf l[vals.length])) (hs : (shOf l[vals.length]).some = true) : ShList W B d (vals ++ [v]) l := by
  refine ⟨by rw [List.length_append]; simp; omega, fun i hi => ?_⟩
  by_cases hi' : i < vals.length
  · rw [List.getElem_append_left hi']; exact h.2 i hi'
  · have : i = vals.length := by simp at hi; omega
    subst this
    exact ⟨hl, by simpa using hv, hs⟩
theorem ShList.done {w W : World} {d : Nat} {v : Value} {vals : List Value} {l : List C} (h : ShList W w.heap.size d vals l) (hn : vals.length = l.length) (hr : RG 113 1 w v vals.length vals W) : ShsAt W W.heap.size d v (l.map shOf) ∧ (l.map shOf).all Sh.some = true := by
  have hall : (l.map shOf).all Sh.some = true := by
    rw [List.all_eq_true]
    intro x hx
    obtain ⟨c, hc, rfl⟩ := List.mem_map.1 hx
    obtain ⟨i, hi, rfl⟩ := List.getElem_of_mem hc
    exact (h.2 i (by omega)).2.2
  refine ⟨?_, hall⟩
  rcases own_cells hr.own with ⟨rfl, h0⟩ | ⟨g, cap, rfl, hb, hg, hnc, hcm, hc⟩
  · exact ⟨none, 0, by rw [List.length_map, ← hn, h0], by rw [List.length_map, ← hn, h0]; exact Nat.le_refl _, Nat.zero_le _, fun hl => by rw [List.length_map, ← hn, h0] at hl; omega⟩
  · refine ⟨_, cap, by rw [List.length_map, ← hn], by rw [List.length_map, ← hn]; exact hnc, hcm, fun hl => ⟨g, 0, rfl, hg, fun i hi => ?_⟩⟩
    rw [List.length_map] at hi
    obtain ⟨h', h1, h2⟩ := h.2 i (by omega)
    refine ⟨vals[i]'(by omega), ?_, ?_⟩
    · rw [Nat.zero_add, hc i (by omega)]
      exact List.getElem?_eq_getElem (by omega)
    · rw [List.getElem_map]
      exact h1.keep (Below.refl _ _) hr.below.size

def FieldsTo (w : World) (r : Option (List Sh)) (e : Ending) (w' : World) : Prop :=
  Below w.heap.size w w' ∧ match r with
    | some L => ∃ v d, e = .returned (.tuple #[v, .bool true]) ∧ ShsAt w' w'.heap.size d v L
    | none => e = .returned (.tuple #[.slice none 0 0, .bool false])

theorem fields_not {c : C} {n : Nat} (h : ∀ l, shOf c ≠ .list l) : fieldsM c n = none := by
  unfold fieldsM
  cases hs : shOf c with
  | list l => exact absurd hs (h l)
  | _ => rfl
theorem fields_list {c : C} {n : Nat} {l : List C} (h : shOf c = .list l) : fieldsM c n = if l.length = n ∧ (l.map shOf).all Sh.some = true then some (l.map shOf) else none := by
  unfold fieldsM; rw [h]
set_option maxHeartbeats 4000000 in
theorem readFields53 (d : Nat) (ck cn : Int) (cs : ByteArray) (cl : List C) (u : Value) (cnt : Nat) (hcnt : cnt ≤ 100) (w : World) (h : LAt w w.heap.size d u cl) :
    Calls Tryz.prog 119 #[.agg #[.int .i64 ck, .int .i64 cn, .string cs, u], .int .i64 cnt] w (FieldsTo w (fieldsM (.mk ck cn cs cl) cnt)) := by
  obtain ⟨i0, hi, hz0, hz1, hz2⟩ := info71
  have hB : Below w.heap.size w (w.alloc (.cells #[.int .i64 ck, .int .i64 cn, .string cs, u] 38)) := (Below.refl _ _).alloc (Nat.le_refl _) _
  have HB := Lib.hid hB
  have HS := Lib.hid (shapeOf29 d ck cn cs cl u w.heap.size (w.alloc (.cells #[.int .i64 ck, .int .i64 cn, .string cs, u] 38)) hB.size (h.below hB))
  obtain ⟨c, hc⟩ : ∃ c, C.mk ck cn cs cl = c := ⟨_, rfl⟩
  rw [hc] at HS ⊢
  obtain ⟨r, hr⟩ : ∃ r, fieldsM c cnt = r := ⟨_, rfl⟩
  rw [hr]
  have HR := Lib.hid hr
  obtain ⟨A0, c0, rfl⟩ := h.slice
  clear hr hc h hB
  go_enter Tryz.func119, Tryz.ntmps119
  go_wp2_with fail
  refine HS.out.mono ?_
  rintro _ w2 ⟨v, rfl, hv, hb2⟩
  have HB2 := Lib.hid (HB.out.trans (hb2.mono HB.out.size))
  clear HS hb2 HB
  rcases as_lst hv with ⟨l, A, cap, hsh, hla, hta⟩ | ⟨hno, hta⟩
  · have HSH := Lib.hid hsh
    cases hlen : ((l.length : Int) != (cnt : Int)) with
    | true =>
      have hr : r = none := by rw [← HR.out, fields_list hsh, if_neg (by intro h; rw [h.1] at hlen; simp at hlen)]
      subst hr
      clear HR hv hla hsh HSH
      go_wp2
      go_ret2
      exact ⟨HB2.out, rfl⟩
    | false =>
      have hln : l.length = cnt := by have := hlen; simp at this; omega
      have HLN := Lib.hid hln
      have HLA := Lib.hid hla
      have hbl : LAt w2 w2.heap.size d (.slice A l.length cap) l := hla.more HB2.out.size
      obtain ⟨d', rfl⟩ : ∃ d', d = d' + 1 := by
        cases d with
        | zero => exact hla.elim
        | succ d' => exact ⟨d', rfl⟩
      obtain ⟨A', cap', e', h1, h2, h3⟩ := hla
      injection e' with e1 e2 e3
      subst e1 e3
      have H3 := Lib.hid h3
      unfold maxLen at h2
      have HRG : Hid (RG 113 1 w (.slice none 0 0) ([] : List Value).length [] w2) := ⟨HB2.out, World.ownsRow_nil w2 w.heap.size 113 1⟩
      have HSL : Hid (ShList w2 w.heap.size d' [] l) := ⟨by simp, fun i h => by simp at h⟩
      have HRR : Hid ((if l.length = cnt ∧ (l.map shOf).all Sh.some = true then some (l.map shOf) else none) = r) := by unfold Hid; rw [← HR.out, fields_list HSH.out]
      clear hv hsh h3 hbl e2 hln HR HSH
      go_wp2_with fail
      go_loopw [8, 28] (fun s8 s28 wr => ∃ (k : Nat) (vals : List Value), k ≤ l.length ∧ s28 = .int .i64 k ∧ vals.length = k ∧ Hid (RG 113 1 w s8 vals.length vals wr) ∧ Hid (ShList wr w.heap.size d' vals l) ∧ Hid (Below w.heap.size w2 wr)) (fun _ s28 _ => l.length - (intOf s28).toNat)
      case atStart => exact ⟨0, [], Nat.zero_le _, rfl, rfl, HRG.out, HSL.out, Below.mono (Below.refl _ _) HB2.out.size⟩
      case round =>
        obtain ⟨k, vals, hk, rfl, rfl, HG, HSV, HBR⟩ := hrel
        clear HRG HSL
        obtain ⟨A1, c1, hA1⟩ := HG.out.slice
        subst hA1
        by_cases hlt : vals.length < l.length
        · obtain ⟨b, o, rfl, hb, hrw⟩ := H3.out (by omega)
          obtain ⟨ui, hrow, hwf, hsub⟩ := hrw vals.length hlt
          obtain ⟨x0, x1, x2, x3⟩ := hrow.keep fun o => HBR.out.cell (p := ⟨b, o, none⟩) hb
          have HSUB := Lib.hid (hsub.below HBR.out)
          have HSN : Hid (∀ {W : World} {v : Value}, ShList W w.heap.size d' vals l → ShAt W w.heap.size d' v (shOf l[vals.length]) → (shOf l[vals.length]).some = true → ShList W w.heap.size d' (vals ++ [v]) l) := fun h1 h2 h3 => h1.snoc hlt h2 h3
          have HIN : Hid ((shOf l[vals.length]).some = false → r = none) := fun hs => by
            rw [← HRR.out, if_neg]
            rintro ⟨-, hall⟩
            rw [List.all_eq_true] at hall
            have := hall _ (List.mem_map.2 ⟨l[vals.length], List.getElem_mem hlt, rfl⟩)
            rw [hs] at this; cases this
          have hbl : b < wr.heap.size := Nat.lt_of_lt_of_le hb HG.out.below.size
          clear hrw hrow hwf hsub
          generalize l[vals.length] = x at x0 x1 x2 x3 HSUB HSN HIN
          obtain ⟨xk, xn, xs, xl⟩ := x
          simp only [L4.k_mk, L4.n_mk, L4.s_mk, L4.l_mk] at x0 x1 x2 x3 HSUB
          obtain ⟨Ai, ci, rfl⟩ := HSUB.out.slice
          have hW1 : Below wr.heap.size wr (wr.alloc (.cells #[.int .i64 xk, .int .i64 xn, .string xs, .slice Ai xl.length ci] 38)) := (Below.refl _ _).alloc (Nat.le_refl _) _
          have HW1 := Lib.hid hW1
          have HS2 := Lib.hid (shapeOf29 d' xk xn xs xl (.slice Ai xl.length ci) w.heap.size (wr.alloc (.cells #[.int .i64 xk, .int .i64 xn, .string xs, .slice Ai xl.length ci] 38)) (Nat.le_trans HG.out.below.size hW1.size) (HSUB.out.below (hW1.mono HG.out.below.size)))
          clear hW1 HSUB
          go_wp2_with fail
          refine HS2.out.mono ?_
          rintro _ w3 ⟨v', rfl, hv', hb3⟩
          have hbb := Lib.hid (HW1.out.trans (hb3.mono HW1.out.size))
          have HG3 := Lib.hid (HG.out.step hbb.out)
          have HSV3 := Lib.hid (HSV.out.keep (hbb.out.mono HG.out.below.size))
          have HBR3 := Lib.hid (HBR.out.trans (hbb.out.mono HG.out.below.size))
          clear HG HSV HBR hb3 HW1 HS2 hbb x0 x1 x2 x3
          generalize shOf (.mk xk xn xs xl) = sh at hv' HSN HIN
          cases hsm : sh.some with
          | false =>
            have hr : r = none := HIN.out hsm
            subst hr
            have hv2 : v' = .nilIface := by
              cases sh with
              | none => exact hv'
              | _ => cases hsm
            subst hv2
            clear HSN HIN HRR
            go_wp2
            go_ret2
            exact ⟨HG3.out.below, rfl⟩
          | true =>
            obtain ⟨t, y, hv2, hone⟩ : ∃ t y, v' = .iface t y ∧ v'.oneCell' = true := by
              cases sh with
              | none => cases hsm
              | num n => exact ⟨183, _, hv', by rw [show v' = .iface 183 (.int .i64 n) from hv']; rfl⟩
              | text s => exact ⟨184, _, hv', by rw [show v' = .iface 184 (.string s) from hv']; rfl⟩
              | list ll => obtain ⟨u, hu, _⟩ := hv'; exact ⟨180, _, hu, by rw [hu]; rfl⟩
            have HSN2 : Hid (∀ {W : World}, Below w.heap.size w3 W → ShList W w.heap.size d' (vals ++ [v']) l) := fun hb => HSN.out (HSV3.out.keep hb) (hv'.keep hb (Nat.le_refl _)) hsm
            have HONE := Lib.hid hone
            clear HSN HIN hv' hone
            subst hv2
            go_wp2_with (at_builtin; go_must (refine wpList_append_lies _ rfl _ _ 185 rfl w.heap.size 113 i0 _ 1 16 Tryz.underlying185 hi hz0 hz1 hz2 rfl (by omega) _ vals.length vals rfl ?own ⟨w3.heap.size, 0, none⟩ 1 1 [.iface t y] rfl rfl ?news ?one (by omega) ?c3 ?c4 ?c5 _ rfl ?_))
            case own => exact World.ownsRow.alloc HG3.out.own _
            case news =>
              refine World.news_of_block (cs := #[.iface t y]) (t := 113) (fr := (0, 0)) ?_
              exact heap_alloc_new w3 (.cells #[.iface t y] 113)
            case one => simpa using HONE.out
            case c3 => unfold maxLen; omega
            case c4 => have hll := HLN.out; omega
            case c5 =>
              have hsz3 := HG3.out.below.size
              simp; omega
            rintro g c9 w' ho hg hgl hlt2
            have HG4 := Lib.hid (RG.app HG3.out ho hg)
            have HW4 : Hid (Below w.heap.size w3 w') := by
              have hsz : (w3.alloc (.cells #[.iface t y] 113)).heap.size = w3.heap.size + 1 := by simp
              have h5 := HG3.out.below.size
              refine ⟨hg.os, hg.tape, hg.output, by have := hg.size; omega, fun i hi => (hg.block i (by omega) fun e => ?_).trans (Below.heap_alloc w3 _ i (by omega))⟩
              have := (HG3.out.own.lt i e.symm).1
              omega
            have HSL4 := Lib.hid (HSN2.out HW4.out)
            have HBR4 := Lib.hid (HBR3.out.trans HW4.out)
            have hvl : (vals ++ [Value.iface t y]).length = vals.length + 1 := by simp
            have HVL := Lib.hid hvl
            have HG5 : Hid (RG 113 1 w (.slice (some ⟨g, 0, none⟩) (vals.length + 1) c9) (vals ++ [Value.iface t y]).length (vals ++ [Value.iface t y]) w') := by unfold Hid; rw [hvl]; exact HG4.out
            clear ho hg hgl HG4 HW4 HSN2 HSV3 HG3 HBR3 hvl
            go_wp2_with fail
            go_roundw
            case rel => exact ⟨vals.length + 1, vals ++ [.iface t y], by omega, by go_num, HVL.out, HG5, HSL4, HBR4⟩
            case measure => simp [intOf]; omega
        · have hvn : vals.length = l.length := by omega
          obtain ⟨hd1, hd2⟩ := HSV.out.done hvn HG.out
          have hr : r = some (l.map shOf) := by rw [← HRR.out, if_pos ⟨HLN.out, hd2⟩]
          subst hr
          have HD := Lib.hid hd1
          have HBZ := Lib.hid HG.out.below
          clear HRR hd1 hd2 HG HSV HBR H3 hvn
          go_wp2
          go_ret2
          exact ⟨HBZ.out, _, _, rfl, HD.out⟩
  · have hr : r = none := by rw [← HR.out, fields_not hno]
    subst hr
    clear HR hv hno
    go_wp2
    go_ret2
    exact ⟨HB2.out, rfl⟩
end Go.Proofs.YtjanddnlhaionaaGreatDoor
namespace Go.Proofs.YtjanddnlhaionaaGreatDoor
open Go.RowKit
open L4 (C LAt)
open L2 (Row Vl RowsAt rowsOK valOK)

set_option maxHeartbeats 1000000 in
theorem readText65 (d : Nat) (ck cn : Int) (cs : ByteArray) (cl : List C) (u : Value) (w : World) (h : LAt w w.heap.size d u cl) :
    Calls Tryz.prog 159 #[.agg #[.int .i64 ck, .int .i64 cn, .string cs, u]] w fun e w' => e = .returned (.tuple #[.string (txtV (shOf (.mk ck cn cs cl))), .bool (isTxt (shOf (.mk ck cn cs cl)))]) ∧ Below w.heap.size w w' := by
  have hB : Below w.heap.size w (w.alloc (.cells #[.int .i64 ck, .int .i64 cn, .string cs, u] 38)) := (Below.refl _ _).alloc (Nat.le_refl _) _
  have HB := Lib.hid hB
  have HS := Lib.hid (shapeOf29 d ck cn cs cl u w.heap.size (w.alloc (.cells #[.int .i64 ck, .int .i64 cn, .string cs, u] 38)) hB.size (h.below hB))
  generalize shOf (.mk ck cn cs cl) = sh at HS ⊢
  obtain ⟨A0, c0, rfl⟩ := h.slice
  obtain ⟨t, ht⟩ : ∃ t, txtV sh = t := ⟨_, rfl⟩
  obtain ⟨q, hq⟩ : ∃ q, isTxt sh = q := ⟨_, rfl⟩
  rw [ht, hq]
  have HT := Lib.hid ht
  have HQ := Lib.hid hq
  clear h hB ht hq
  go_enter Tryz.func159, Tryz.ntmps159
  go_wp2_with fail
  refine HS.out.mono ?_
  rintro _ w2 ⟨v, rfl, hv, hb2⟩
  have HB2 := Lib.hid (HB.out.trans (hb2.mono HB.out.size))
  have ha := as_txt hv
  rw [HT.out, HQ.out] at ha
  clear hb2 hv HS HB HT HQ
  go_wp2
  go_ret2
  exact ⟨rfl, HB2.out⟩

theorem size41 : (Tryz.prog.info? 91).map (·.size) = some 3 := by kernel_rfl
theorem size43 : (Tryz.prog.info? 93).map (·.size) = some 5 := by kernel_rfl
theorem size55 : (Tryz.prog.info? 95).map (·.size) = some 2 := by kernel_rfl

def valC (v : Vl) : Value := .agg #[.int .i64 v.1, .int .i64 v.2.1, .string v.2.2]
def ValTo (w : World) (v : Vl) (e : Ending) (w' : World) : Prop := e = .returned (.agg #[.int .i64 v.1, .int .i64 v.2.1, .string v.2.2]) ∧ Below w.heap.size w w'
theorem value100 (n : Int) (w : World) : Calls Tryz.prog 256 #[.int .i64 n] w (ValTo w (1, n, ⟨#[]⟩)) := by
  go_enter Tryz.func256, Tryz.ntmps256
  go_wp2_with fail
  refine bodyPost_ret (results_cell_row (p := 2) (ty := 91) rfl _ _ w.heap.size 91 #[.int .i64 1, .int .i64 n, .string ⟨#[]⟩] (0, 0) _ rfl ?hg Tryz.underlying91 rfl size41) rfl ?_
  case hg => exact heap_alloc_new w _
  exact ⟨rfl, (Below.refl _ w).alloc (Nat.le_refl _) _⟩
theorem value101 (s : ByteArray) (w : World) : Calls Tryz.prog 257 #[.string s] w (ValTo w (2, 0, s)) := by
  go_enter Tryz.func257, Tryz.ntmps257
  go_wp2_with fail
  refine bodyPost_ret (results_cell_row (p := 2) (ty := 91) rfl _ _ w.heap.size 91 #[.int .i64 2, .int .i64 0, .string s] (0, 0) _ rfl ?hg Tryz.underlying91 rfl size41) rfl ?_
  case hg => exact heap_alloc_new w _
  exact ⟨rfl, (Below.refl _ w).alloc (Nat.le_refl _) _⟩
theorem value99 (A : Option Addr) (n c : Nat) (w : World) : Calls Tryz.prog 255 #[.slice A n c] w (ValTo w (0, 0, ⟨#[]⟩)) := by
  go_enter Tryz.func255, Tryz.ntmps255
  go_wp2_with fail
  refine bodyPost_ret (results_cell_row (p := 2) (ty := 91) rfl _ _ w.heap.size 91 #[.int .i64 0, .int .i64 0, .string ⟨#[]⟩] (0, 0) _ rfl ?hg Tryz.underlying91 rfl size41) rfl ?_
  case hg => exact heap_alloc_new w _
  exact ⟨rfl, (Below.refl _ w).alloc (Nat.le_refl _) _⟩
theorem meth_n (n : Int) (w : World) : (method 441 183 (.int .i64 n) "fasti/object.value").run Tryz.prog w = .ok (256, .int .i64 n) w := by kernel_rfl
theorem meth_t (s : ByteArray) (w : World) : (method 441 184 (.string s) "fasti/object.value").run Tryz.prog w = .ok (257, .string s) w := by kernel_rfl
theorem meth_l (A : Option Addr) (n c : Nat) (w : World) : (method 441 180 (.slice A n c) "fasti/object.value").run Tryz.prog w = .ok (255, .slice A n c) w := by kernel_rfl

/-- Values of shapes: the three that readRow looks into, the two that readKid does. -/
theorem shs_get {w : World} {B d n : Nat} {v : Value} {L : List Sh} (h : ShsAt w B d v L) (hn : L.length = n) (h0 : 0 < n) : ∃ b o cap, v = .slice (some ⟨b, o, none⟩) n cap ∧ b < B ∧ ∀ i (hi : i < n), ∃ u, w.cell? ⟨b, o + i, none⟩ = some u ∧ ShAt w B d u (L[i]'(by omega)) := by
  obtain ⟨A, cap, rfl, h1, h2, h3⟩ := h
  obtain ⟨b, o, rfl, hb, hr⟩ := h3 (by omega)
  exact ⟨b, o, cap, by rw [hn], hb, fun i hi => hr i (by omega)⟩
theorem wrap_u8 {n : Int} (h0 : 0 ≤ n) (h1 : n ≤ 255) : IntKind.u8.wrap n = n := IntWalk.u8_in n (by omega)
end Go.Proofs.YtjanddnlhaionaaGreatDoor
