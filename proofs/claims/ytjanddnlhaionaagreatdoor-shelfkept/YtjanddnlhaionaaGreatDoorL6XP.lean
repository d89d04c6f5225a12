/-
  A log of records on a drum, as plain functions: a sector's bytes, the reader, append. No condition.
-/
import Derived.Test.YtjanddnlhaionaaGreatDoorL6P
namespace Go.Proofs.YtjanddnlhaionaaGreatDoor.L6

def num (l : List UInt8) : Nat := l.foldl (fun n c => n * 256 + c.toNat) 0
def wt : Nat → List UInt8 → Nat
  | _, [] => 0
  | i, c :: r => c.toNat * (i + 1) + wt (i + 1) r
def be : Nat → Nat → List UInt8
  | 0, _ => []
  | k + 1, n => be k (n / 256) ++ [UInt8.ofNat (n % 256)]
/-- What a valid sector says. -/
structure Sec where
  life : Nat
  record : Nat
  part : Nat
  last : Bool
  data : List UInt8
deriving DecidableEq
def sizeOfS (l : List UInt8) : Nat := (l.getD 10 0).toNat % 128
def isLast (l : List UInt8) : Bool := decide (128 ≤ (l.getD 10 0).toNat)
def restOf (l : List UInt8) : List UInt8 := (l.drop (11 + sizeOfS l)).take (51 - sizeOfS l)
def secOf (l : List UInt8) : Sec := ⟨num (l.take 4), num ((l.drop 4).take 4), num ((l.drop 8).take 2), isLast l, (l.drop 11).take (sizeOfS l)⟩
def badSize (l : List UInt8) : Bool := decide (51 < sizeOfS l) || decide (sizeOfS l < 51) && !isLast l
def isValid (l : List UInt8) : Bool := decide (0 < num (l.take 4)) && decide (num (l.drop 62) = wt 0 (l.take 62) % 65521) && (restOf l).all (· == 0)
def says (l : List UInt8) : Option Sec := if badSize l then none else if isValid l then some (secOf l) else none
def markOf (x : Sec) : Nat := x.data.length + if x.last then 128 else 0
def bodyOf (x : Sec) : List UInt8 := be 4 x.life ++ be 4 x.record ++ be 2 x.part ++ [UInt8.ofNat (markOf x)] ++ x.data ++ List.replicate (51 - x.data.length) 0
def lay (x : Sec) : List UInt8 := bodyOf x ++ be 2 (wt 0 (bodyOf x) % 65521)
def layB (x : Sec) : ByteArray := ⟨(lay x).toArray⟩
structure OkS (x : Sec) : Prop where
  l1 : 0 < x.life
  l2 : x.life < 4294967296
  r2 : x.record < 4294967296
  p2 : x.part < 65536
  d1 : x.data.length ≤ 51
  d2 : x.last = false → x.data.length = 51

/-! ### The reader -/
structure Rd where
  recs : List ByteArray
  occ : Nat
  great : Nat
  vis : Nat
  ended : Bool
  life : Nat
  parts : Nat
  data : List UInt8
def rd0 : Rd := ⟨[], 0, 0, 0, false, 0, 0, []⟩
def expects (r : Rd) (s : Sec) : Bool := decide (s.record = r.recs.length + 1) && decide (s.part = r.parts) && (decide (s.life = r.life) || decide (r.life < s.life) && decide (s.part = 0))
def takeS (r : Rd) (s : Sec) : Rd :=
  if s.last then { r with life := s.life, recs := r.recs ++ [⟨(r.data ++ s.data).toArray⟩], occ := r.vis, parts := 0, data := [] }
  else { r with life := s.life, parts := r.parts + 1, data := r.data ++ s.data }
def visitO (r : Rd) : Option Sec → Rd
  | none => { r with vis := r.vis + 1, ended := true }
  | some s => if r.ended || !expects r s then { r with vis := r.vis + 1, great := max r.great s.life, ended := true } else takeS { r with vis := r.vis + 1, great := max r.great s.life } s
def visit (r : Rd) (t : ByteArray) : Rd := visitO r (says t.data.toList)
def scanL (l : List ByteArray) : Rd := l.foldl visit rd0
/-- What the sectors of a drum show. -/
def shown (d : D) : List ByteArray := (List.range d.S.length).map fun i => sh d i d.W.length
def scanD (d : D) : Rd := scanL (shown d)

/-! ### The tape -/
structure T where
  count : Nat
  life : Nat
  pos : Nat
  err : Int
def needN (n : Nat) : Nat := if n ≤ 51 then 1 else (n - 1) / 51 + 1
def needI (n : Int) : Int := if n ≤ 51 then 1 else (n - 1) / 51 + 1
def partOf (life record : Nat) (s : ByteArray) (i : Nat) : Sec := ⟨life, record, i, decide (i + 1 = needN s.size), (s.data.toList.drop (51 * i)).take 51⟩
def wrK (t : T) (s : ByteArray) (d : D) : Nat → D × Int
  | 0 => (d, 0)
  | k + 1 => if (wrK t s d k).2 = 0 then (writeD (wrK t s d k).1 ((t.pos + k : Nat) : Int) (layB (partOf t.life (t.count + 1) s k)), writeE (wrK t s d k).1 ((t.pos + k : Nat) : Int) (layB (partOf t.life (t.count + 1) s k))) else wrK t s d k
def appFits (t : T) (d : D) (s : ByteArray) : Bool := decide (t.err = 0) && decide (needN s.size + t.pos ≤ d.S.length)
def appD (t : T) (d : D) (s : ByteArray) : D := if appFits t d s then (wrK t s d (needN s.size)).1 else d
def appT (t : T) (d : D) (s : ByteArray) : T := if appFits t d s then (if (wrK t s d (needN s.size)).2 = 0 then { t with count := t.count + 1, pos := t.pos + needN s.size } else { t with err := (wrK t s d (needN s.size)).2 }) else t
def appE (t : T) (d : D) (s : ByteArray) : Int := if t.err = 0 then (if needN s.size + t.pos ≤ d.S.length then (wrK t s d (needN s.size)).2 else 8) else t.err
def flushD (t : T) (d : D) : D := if t.err = 0 then settleD d else d
def flushE (t : T) (d : D) : Int := if t.err = 0 then settleE d else t.err
def flushT (t : T) (d : D) : T := { t with err := flushE t d }
def openE (d : D) : Int := if d.gone then 9 else if (scanD d).great = 4294967295 then 5 else 0
def openT (d : D) : T := ⟨(scanD d).recs.length, (scanD d).great + 1, (scanD d).occ, 0⟩

/-! ### Numbers and bytes -/
set_option maxRecDepth 100000 in
theorem num_append (a b : List UInt8) (n : Nat) : (a ++ b).foldl (fun n c => n * 256 + c.toNat) n = b.foldl (fun n c => n * 256 + c.toNat) (a.foldl (fun n c => n * 256 + c.toNat) n) := List.foldl_append
set_option maxRecDepth 100000 in
theorem be_len : ∀ k n, (be k n).length = k
  | 0, _ => rfl
  | k + 1, n => by simp [be, be_len k]
set_option maxRecDepth 100000 in
theorem num_be : ∀ k n, num (be k n) = n % 256 ^ k
  | 0, n => by simp [be, num, Nat.mod_one]
  | k + 1, n => by
    have h := num_be k (n / 256)
    unfold num at h ⊢
    simp only [be, List.foldl_append, List.foldl_cons, List.foldl_nil]
    rw [h]
    have e : (UInt8.ofNat (n % 256)).toNat = n % 256 := by simp
    rw [e, Nat.pow_succ, Nat.mul_comm (256 ^ k) 256, Nat.mod_mul]
    omega
set_option maxRecDepth 100000 in
theorem num_lt : ∀ (l : List UInt8), num l < 256 ^ l.length := by
  have H : ∀ (l : List UInt8) (n : Nat), l.foldl (fun n c => n * 256 + c.toNat) n < (n + 1) * 256 ^ l.length := by
    intro l
    induction l with
    | nil => intro n; simp
    | cons c l ih =>
      intro n
      have hc := c.toNat_lt
      simp only [List.foldl_cons, List.length_cons, Nat.pow_succ]
      refine Nat.lt_of_lt_of_le (ih _) ?_
      rw [Nat.mul_comm (256 ^ l.length) 256, ← Nat.mul_assoc]
      exact Nat.mul_le_mul_right _ (by omega)
  intro l
  have h := H l 0
  rw [Nat.zero_add, Nat.one_mul] at h
  exact h
set_option maxRecDepth 100000 in
theorem wt_append : ∀ (a b : List UInt8) (i : Nat), wt i (a ++ b) = wt i a + wt (i + a.length) b
  | [], b, i => by simp [wt]
  | c :: a, b, i => by simp only [List.cons_append, wt, wt_append a b (i + 1), List.length_cons]; rw [show i + 1 + a.length = i + (a.length + 1) by omega]; omega
set_option maxRecDepth 100000 in
theorem wt_le : ∀ (l : List UInt8) (i : Nat), wt i l ≤ 255 * (i + l.length) * l.length
  | [], i => by simp [wt]
  | c :: l, i => by
    have h := wt_le l (i + 1)
    have hc := c.toNat_lt
    simp only [wt, List.length_cons]
    have e1 : c.toNat * (i + 1) ≤ 255 * (i + (l.length + 1)) := Nat.le_trans (Nat.mul_le_mul_right _ (show c.toNat ≤ 255 by omega)) (Nat.mul_le_mul_left _ (by omega))
    rw [show i + 1 + l.length = i + (l.length + 1) by omega] at h
    obtain ⟨M, hM⟩ : ∃ M, 255 * (i + (l.length + 1)) = M := ⟨_, rfl⟩
    rw [hM] at h e1 ⊢
    rw [Nat.mul_succ, Nat.add_comm]
    exact Nat.add_le_add h e1
set_option maxRecDepth 100000 in
theorem bodyOf_len (x : Sec) (h : x.data.length ≤ 51) : (bodyOf x).length = 62 := by
  simp only [bodyOf, List.length_append, be_len, List.length_singleton, List.length_replicate]
  omega
set_option maxRecDepth 100000 in
theorem lay_len (x : Sec) (h : x.data.length ≤ 51) : (lay x).length = 64 := by
  simp [lay, bodyOf_len x h, be_len]
set_option maxRecDepth 100000 in
theorem layB_size (x : Sec) (h : x.data.length ≤ 51) : (layB x).size = 64 := by
  show (lay x).toArray.size = 64
  rw [List.size_toArray]
  exact lay_len x h
set_option maxRecDepth 100000 in
theorem layB_list (x : Sec) : (layB x).data.toList = lay x := rfl

set_option maxRecDepth 100000 in
theorem says_lay (x : Sec) (h : OkS x) : says (lay x) = some x := by
  obtain ⟨life, record, part, last, data⟩ := x
  have l1 := h.l1
  have l2 := h.l2
  have r2 := h.r2
  have p2 := h.p2
  have d1 := h.d1
  have d2 := h.d2
  simp only at l1 l2 r2 p2 d1 d2
  obtain ⟨x, hx⟩ : ∃ x : Sec, x = ⟨life, record, part, last, data⟩ := ⟨_, rfl⟩
  have hL : lay x = be 4 life ++ (be 4 record ++ (be 2 part ++ ([UInt8.ofNat (markOf x)] ++ (data ++ (List.replicate (51 - data.length) 0 ++ be 2 (wt 0 (bodyOf x) % 65521)))))) := by
    subst hx
    simp [lay, bodyOf, List.append_assoc]
  have t4 : (lay x).take 4 = be 4 life := by rw [hL, List.take_left' (be_len 4 life)]
  have d4 : (lay x).drop 4 = be 4 record ++ (be 2 part ++ ([UInt8.ofNat (markOf x)] ++ (data ++ (List.replicate (51 - data.length) 0 ++ be 2 (wt 0 (bodyOf x) % 65521))))) := by rw [hL, List.drop_left' (be_len 4 life)]
  have d8 : (lay x).drop 8 = be 2 part ++ ([UInt8.ofNat (markOf x)] ++ (data ++ (List.replicate (51 - data.length) 0 ++ be 2 (wt 0 (bodyOf x) % 65521)))) := by
    rw [show 8 = 4 + 4 from rfl, ← List.drop_drop, d4, List.drop_left' (be_len 4 record)]
  have d10 : (lay x).drop 10 = [UInt8.ofNat (markOf x)] ++ (data ++ (List.replicate (51 - data.length) 0 ++ be 2 (wt 0 (bodyOf x) % 65521))) := by
    rw [show 10 = 8 + 2 from rfl, ← List.drop_drop, d8, List.drop_left' (be_len 2 part)]
  have d11 : (lay x).drop 11 = data ++ (List.replicate (51 - data.length) 0 ++ be 2 (wt 0 (bodyOf x) % 65521)) := by
    rw [show 11 = 10 + 1 from rfl, ← List.drop_drop, d10]; rfl
  have g10 : (lay x).getD 10 0 = UInt8.ofNat (markOf x) := by
    have := congrArg (fun l => l[0]?) d10
    simp only [List.getElem?_drop, Nat.add_zero] at this
    rw [List.getD_eq_getElem?_getD, this]; rfl
  have hb : (bodyOf x).length = 62 := by rw [hx]; exact bodyOf_len _ d1
  have t62 : (lay x).take 62 = bodyOf x := by unfold lay; rw [List.take_left' hb]
  have d62 : (lay x).drop 62 = be 2 (wt 0 (bodyOf x) % 65521) := by unfold lay; rw [List.drop_left' hb]
  have hm : markOf x = data.length + if last then 128 else 0 := by rw [hx]; rfl
  have hmt : (UInt8.ofNat (markOf x)).toNat = markOf x := by
    rw [hm]
    cases last <;> simp <;> omega
  have hs : sizeOfS (lay x) = data.length := by
    unfold sizeOfS
    rw [g10, hmt, hm]
    cases last <;> simp <;> omega
  have hl : isLast (lay x) = last := by
    unfold isLast
    rw [g10, hmt, hm]
    cases last <;> simp <;> omega
  have hbad : badSize (lay x) = false := by
    unfold badSize
    rw [hs, hl]
    cases last with
    | true => simp; omega
    | false => have := d2 rfl; simp; omega
  have hrest : restOf (lay x) = List.replicate (51 - data.length) 0 := by
    unfold restOf
    rw [hs, ← List.drop_drop, d11, List.drop_left' rfl, List.take_left' (by simp)]
  have n4 : num ((lay x).take 4) = life := by rw [t4, num_be]; exact Nat.mod_eq_of_lt (by simpa using l2)
  have n8 : num (((lay x).drop 4).take 4) = record := by rw [d4, List.take_left' (be_len 4 record), num_be]; exact Nat.mod_eq_of_lt (by simpa using r2)
  have n10 : num (((lay x).drop 8).take 2) = part := by rw [d8, List.take_left' (be_len 2 part), num_be]; exact Nat.mod_eq_of_lt (by simpa using p2)
  have hval : isValid (lay x) = true := by
    unfold isValid
    rw [n4, d62, t62, hrest, num_be]
    have : wt 0 (bodyOf x) % 65521 % 256 ^ 2 = wt 0 (bodyOf x) % 65521 := Nat.mod_eq_of_lt (by have := Nat.mod_lt (wt 0 (bodyOf x)) (show 0 < 65521 by omega); simp; omega)
    rw [this]
    simp [l1]
  have hsec : secOf (lay x) = x := by
    unfold secOf
    rw [n4, n8, n10, hl, hs, d11, List.take_left' rfl, hx]
  rw [← hx]
  unfold says
  rw [hbad, hval, hsec]
  rfl
end Go.Proofs.YtjanddnlhaionaaGreatDoor.L6
