/-
  The state of a drum and its calls, as plain functions. No condition. A log of records on a drum, as plain functions: a sector's bytes, the reader, append. No condition. A drum of the program in memory; what a call may turn. No condition. Contracts of exists, has, spend, Loose, Size, Down, Arm. No condition. Contracts of number, checksum, Need, trimLeftByte, trimRightByte, Trim. No condition. Contracts of text, sectorOf, and the statements' own sector. No condition.
-/
import Derived.Test.YtjanddnlhaionaaGreatDoorRows
import Derived.Lib.Hide
import Derived.Laws.BytesString
import Derived.Laws.BytesArg
import Derived.Laws.CopyOwn
import Derived.WalkSmall
import Derived.Deep.MidRow
import Derived.Deep.WholeRow
import Derived.Deep.RegionHeld3
import Derived.Deep.AppendLies
import Derived.StillTailTactics
import Derived.BigQuiet
import Derived.Deep.QuietTactic
set_option maxRecDepth 100000
namespace Go.Proofs.YtjanddnlhaionaaGreatDoor.L6

/-- Durable sectors, pending writes, calls left of the fuse (-1: none), is the power off? -/
structure D where
  S : List ByteArray
  W : List (Nat × ByteArray)
  fuse : Int
  gone : Bool

def z64 : ByteArray := ⟨(List.replicate 64 (0 : UInt8)).toArray⟩
def newD (n : Nat) : D := ⟨List.replicate n z64, [], -1, false⟩
def hasB (d : D) (i : Int) : Bool := decide (0 ≤ i) && decide (i < d.S.length)
def burn (d : D) : D := if d.fuse = 0 then { d with gone := true } else if 0 < d.fuse then { d with fuse := d.fuse - 1 } else d
def pw (W : List (Nat × ByteArray)) (k : Nat) : Nat × ByteArray := W.getD k (0, ByteArray.empty)
/-- The sectors, when of the first k pending writes those that f keeps were stored. -/
def ap (f : Nat → Bool) (S : List ByteArray) (W : List (Nat × ByteArray)) : Nat → List ByteArray
  | 0 => S
  | k + 1 => if f k then (ap f S W k).set (pw W k).1 (pw W k).2 else ap f S W k
def allF (_ : Nat) : Bool := true
def keepF (keep : List Int) (k : Nat) : Bool := decide ((k : Int) ∈ keep)
def settleD (d : D) : D := if (burn d).gone then burn d else { burn d with S := ap allF d.S d.W d.W.length, W := [] }
def settleE (d : D) : Int := if (burn d).gone then 9 else 0
def crashD (d : D) (keep : List Int) : D := ⟨ap (keepF keep) d.S d.W d.W.length, [], -1, false⟩
def armD (d : D) (n : Int) : D := if n < 0 then d else if d.gone then d else { d with fuse := n }
def armE (d : D) (n : Int) : Int := if n < 0 then 2 else if d.gone then 9 else 0
def writeOk (d : D) (i : Int) (s : ByteArray) : Bool := hasB d i && decide (s.size = 64)
def writeD (d : D) (i : Int) (s : ByteArray) : D := if writeOk d i s then (if (burn d).gone then burn d else { burn d with W := d.W ++ [(i.toNat, s)] }) else d
def writeE (d : D) (i : Int) (s : ByteArray) : Int := if writeOk d i s then (if (burn d).gone then 9 else 0) else 2
/-- What sector i shows, of the first k pending writes. -/
def sh (d : D) (i : Nat) : Nat → ByteArray
  | 0 => d.S.getD i ByteArray.empty
  | k + 1 => if (pw d.W k).1 = i then (pw d.W k).2 else sh d i k
def readS (d : D) (i : Int) : ByteArray := if d.gone then ByteArray.empty else if hasB d i then sh d i.toNat d.W.length else ByteArray.empty
def readE (d : D) (i : Int) : Int := if d.gone then 9 else if hasB d i then 0 else 6
def sureS (d : D) (i : Int) : ByteArray := if hasB d i then d.S.getD i.toNat ByteArray.empty else ByteArray.empty

structure Ok (d : D) : Prop where
  n1 : 1 ≤ d.S.length
  n2 : d.S.length ≤ 4096
  s64 : ∀ s ∈ d.S, s.size = 64
  w64 : ∀ p ∈ d.W, p.1 < d.S.length ∧ p.2.size = 64
  f1 : -1 ≤ d.fuse
  f2 : d.fuse ≤ 9223372036854775807
  g : d.gone = true → d.fuse = 0

theorem Ok.new (n : Nat) (h1 : 1 ≤ n) (h2 : n ≤ 4096) : Ok (newD n) := by
  refine ⟨by simpa [newD] using h1, by simpa [newD] using h2, fun s hs => ?_, fun p hp => (by simp [newD] at hp), by simp [newD], by simp [newD], by simp [newD]⟩
  have : s = z64 := List.eq_of_mem_replicate hs
  rw [this]; rfl

theorem ap_length (f : Nat → Bool) (S : List ByteArray) (W : List (Nat × ByteArray)) : ∀ k, (ap f S W k).length = S.length
  | 0 => rfl
  | k + 1 => by
    unfold ap
    split
    · rw [List.length_set]; exact ap_length f S W k
    · exact ap_length f S W k
theorem pw_mem {W : List (Nat × ByteArray)} {k : Nat} (h : k < W.length) : pw W k ∈ W := by
  unfold pw
  rw [List.getD_eq_getElem?_getD, List.getElem?_eq_getElem h]
  exact List.getElem_mem h
theorem pw_eq {W : List (Nat × ByteArray)} {k : Nat} (h : k < W.length) : pw W k = W[k] := by
  unfold pw
  rw [List.getD_eq_getElem?_getD, List.getElem?_eq_getElem h]
  rfl
theorem burn_S (d : D) : (burn d).S = d.S := by unfold burn; split; rfl; split <;> rfl
theorem burn_W (d : D) : (burn d).W = d.W := by unfold burn; split; rfl; split <;> rfl
theorem Ok.burn {d : D} (h : Ok d) : Ok (burn d) := by
  have hg := h.g
  have f1 := h.f1
  have f2 := h.f2
  refine ⟨by rw [burn_S]; exact h.n1, by rw [burn_S]; exact h.n2, by rw [burn_S]; exact h.s64, by rw [burn_S, burn_W]; exact h.w64, ?_, ?_, ?_⟩
  · unfold L6.burn; split; exact f1; split
    · show -1 ≤ d.fuse - 1; omega
    · exact f1
  · unfold L6.burn; split; exact f2; split
    · show d.fuse - 1 ≤ _; omega
    · exact f2
  · unfold L6.burn; split
    · intro _; assumption
    · split
      · intro hh; have := hg hh; omega
      · exact hg
theorem Ok.arm {d : D} (h : Ok d) (n : Int) (hn : n ≤ 9223372036854775807) : Ok (armD d n) := by
  unfold armD
  split
  · exact h
  · split
    · exact h
    · rename_i h1 h2
      exact ⟨h.n1, h.n2, h.s64, h.w64, by show -1 ≤ n; omega, hn, fun hg => absurd hg h2⟩
theorem hasB_iff {d : D} {i : Int} : hasB d i = true ↔ 0 ≤ i ∧ i < d.S.length := by unfold hasB; simp
theorem Ok.write {d : D} (h : Ok d) (i : Int) (s : ByteArray) : Ok (writeD d i s) := by
  have hb := h.burn
  unfold writeD
  split
  · rename_i hw
    split
    · exact hb
    · unfold writeOk at hw
      rw [Bool.and_eq_true, hasB_iff, decide_eq_true_eq] at hw
      refine ⟨by rw [burn_S]; exact h.n1, by rw [burn_S]; exact h.n2, by rw [burn_S]; exact h.s64, ?_, hb.f1, hb.f2, hb.g⟩
      intro p hp
      show p.1 < (L6.burn d).S.length ∧ _
      rw [burn_S]
      rcases List.mem_append.1 hp with hp | hp
      · exact h.w64 p hp
      · have : p = (i.toNat, s) := by simpa using hp
        subst this
        exact ⟨by show i.toNat < _; omega, hw.2⟩
  · exact h
theorem settle_len (d : D) : (settleD d).S.length = d.S.length := by
  unfold settleD; split
  · rw [burn_S]
  · simp [ap_length]
theorem arm_len (d : D) (n : Int) : (armD d n).S.length = d.S.length := by unfold armD; split; rfl; split <;> rfl
theorem write_len (d : D) (i : Int) (s : ByteArray) : (writeD d i s).S.length = d.S.length := by
  unfold writeD; split
  · split <;> simp [burn_S]
  · rfl
theorem write_wlen (d : D) (i : Int) (s : ByteArray) : (writeD d i s).W.length ≤ d.W.length + 1 := by
  unfold writeD; split
  · split
    · rw [burn_W]; omega
    · simp
  · omega
end Go.Proofs.YtjanddnlhaionaaGreatDoor.L6
namespace Go.Proofs.YtjanddnlhaionaaGreatDoor.L6

def num (l : List UInt8) : Nat := l.foldl (fun n c => n * 256 + c.toNat) 0
def wt : Nat → List UInt8 → Nat
  | _, [] => 0
  | i, c :: r => c.toNat * (i + 1) + wt (i + 1) r
def be : Nat → Nat → List UInt8
  | 0, _ => []
  | k + 1, n => be k (n / 256) ++ [UInt8.ofNat (n % 256)]
/-- What a valid sector says. -/
structure Sec where
  life : Nat
  record : Nat
  part : Nat
  last : Bool
  data : List UInt8
deriving DecidableEq
def sizeOfS (l : List UInt8) : Nat := (l.getD 10 0).toNat % 128
def isLast (l : List UInt8) : Bool := decide (128 ≤ (l.getD 10 0).toNat)
def restOf (l : List UInt8) : List UInt8 := (l.drop (11 + sizeOfS l)).take (51 - sizeOfS l)
def secOf (l : List UInt8) : Sec := ⟨num (l.take 4), num ((l.drop 4).take 4), num ((l.drop 8).take 2), isLast l, (l.drop 11).take (sizeOfS l)⟩
def badSize (l : List UInt8) : Bool := decide (51 < sizeOfS l) || decide (sizeOfS l < 51) && !isLast l
def isValid (l : List UInt8) : Bool := decide (0 < num (l.take 4)) && decide (num (l.drop 62) = wt 0 (l.take 62) % 65521) && (restOf l).all (· == 0)
def says (l : List UInt8) : Option Sec := if badSize l then none else if isValid l then some (secOf l) else none
def markOf (x : Sec) : Nat := x.data.length + if x.last then 128 else 0
def bodyOf (x : Sec) : List UInt8 := be 4 x.life ++ be 4 x.record ++ be 2 x.part ++ [UInt8.ofNat (markOf x)] ++ x.data ++ List.replicate (51 - x.data.length) 0
def lay (x : Sec) : List UInt8 := bodyOf x ++ be 2 (wt 0 (bodyOf x) % 65521)
def layB (x : Sec) : ByteArray := ⟨(lay x).toArray⟩
structure OkS (x : Sec) : Prop where
  l1 : 0 < x.life
  l2 : x.life < 4294967296
  r2 : x.record < 4294967296
  p2 : x.part < 65536
  d1 : x.data.length ≤ 51
  d2 : x.last = false → x.data.length = 51

/-! ### The reader -/
structure Rd where
  recs : List ByteArray
  occ : Nat
  great : Nat
  vis : Nat
  ended : Bool
  life : Nat
  parts : Nat
  data : List UInt8
def rd0 : Rd := ⟨[], 0, 0, 0, false, 0, 0, []⟩
def expects (r : Rd) (s : Sec) : Bool := decide (s.record = r.recs.length + 1) && decide (s.part = r.parts) && (decide (s.life = r.life) || decide (r.life < s.life) && decide (s.part = 0))
def takeS (r : Rd) (s : Sec) : Rd :=
  if s.last then { r with life := s.life, recs := r.recs ++ [⟨(r.data ++ s.data).toArray⟩], occ := r.vis, parts := 0, data := [] }
  else { r with life := s.life, parts := r.parts + 1, data := r.data ++ s.data }
def visitO (r : Rd) : Option Sec → Rd
  | none => { r with vis := r.vis + 1, ended := true }
  | some s => if r.ended || !expects r s then { r with vis := r.vis + 1, great := max r.great s.life, ended := true } else takeS { r with vis := r.vis + 1, great := max r.great s.life } s
def visit (r : Rd) (t : ByteArray) : Rd := visitO r (says t.data.toList)
def scanL (l : List ByteArray) : Rd := l.foldl visit rd0
/-- What the sectors of a drum show. -/
def shown (d : D) : List ByteArray := (List.range d.S.length).map fun i => sh d i d.W.length
def scanD (d : D) : Rd := scanL (shown d)

/-! ### The tape -/
structure T where
  count : Nat
  life : Nat
  pos : Nat
  err : Int
def needN (n : Nat) : Nat := if n ≤ 51 then 1 else (n - 1) / 51 + 1
def needI (n : Int) : Int := if n ≤ 51 then 1 else (n - 1) / 51 + 1
def partOf (life record : Nat) (s : ByteArray) (i : Nat) : Sec := ⟨life, record, i, decide (i + 1 = needN s.size), (s.data.toList.drop (51 * i)).take 51⟩
def wrK (t : T) (s : ByteArray) (d : D) : Nat → D × Int
  | 0 => (d, 0)
  | k + 1 => if (wrK t s d k).2 = 0 then (writeD (wrK t s d k).1 ((t.pos + k : Nat) : Int) (layB (partOf t.life (t.count + 1) s k)), writeE (wrK t s d k).1 ((t.pos + k : Nat) : Int) (layB (partOf t.life (t.count + 1) s k))) else wrK t s d k
def appFits (t : T) (d : D) (s : ByteArray) : Bool := decide (t.err = 0) && decide (needN s.size + t.pos ≤ d.S.length)
def appD (t : T) (d : D) (s : ByteArray) : D := if appFits t d s then (wrK t s d (needN s.size)).1 else d
def appT (t : T) (d : D) (s : ByteArray) : T := if appFits t d s then (if (wrK t s d (needN s.size)).2 = 0 then { t with count := t.count + 1, pos := t.pos + needN s.size } else { t with err := (wrK t s d (needN s.size)).2 }) else t
def appE (t : T) (d : D) (s : ByteArray) : Int := if t.err = 0 then (if needN s.size + t.pos ≤ d.S.length then (wrK t s d (needN s.size)).2 else 8) else t.err
def flushD (t : T) (d : D) : D := if t.err = 0 then settleD d else d
def flushE (t : T) (d : D) : Int := if t.err = 0 then settleE d else t.err
def flushT (t : T) (d : D) : T := { t with err := flushE t d }
def openE (d : D) : Int := if d.gone then 9 else if (scanD d).great = 4294967295 then 5 else 0
def openT (d : D) : T := ⟨(scanD d).recs.length, (scanD d).great + 1, (scanD d).occ, 0⟩

/-! ### Numbers and bytes -/
theorem be_len : ∀ k n, (be k n).length = k
  | 0, _ => rfl
  | k + 1, n => by simp [be, be_len k]
theorem num_be : ∀ k n, num (be k n) = n % 256 ^ k
  | 0, n => by simp [be, num, Nat.mod_one]
  | k + 1, n => by
    have h := num_be k (n / 256)
    unfold num at h ⊢
    simp only [be, List.foldl_append, List.foldl_cons, List.foldl_nil]
    rw [h]
    have e : (UInt8.ofNat (n % 256)).toNat = n % 256 := by simp
    rw [e, Nat.pow_succ, Nat.mul_comm (256 ^ k) 256, Nat.mod_mul]
    omega
theorem num_lt : ∀ (l : List UInt8), num l < 256 ^ l.length := by
  have H : ∀ (l : List UInt8) (n : Nat), l.foldl (fun n c => n * 256 + c.toNat) n < (n + 1) * 256 ^ l.length := by
    intro l
    induction l with
    | nil => intro n; simp
    | cons c l ih =>
      intro n
      have hc := c.toNat_lt
      simp only [List.foldl_cons, List.length_cons, Nat.pow_succ]
      refine Nat.lt_of_lt_of_le (ih _) ?_
      rw [Nat.mul_comm (256 ^ l.length) 256, ← Nat.mul_assoc]
      exact Nat.mul_le_mul_right _ (by omega)
  intro l
  have h := H l 0
  rw [Nat.zero_add, Nat.one_mul] at h
  exact h
theorem wt_append : ∀ (a b : List UInt8) (i : Nat), wt i (a ++ b) = wt i a + wt (i + a.length) b
  | [], b, i => by simp [wt]
  | c :: a, b, i => by simp only [List.cons_append, wt, wt_append a b (i + 1), List.length_cons]; rw [show i + 1 + a.length = i + (a.length + 1) by omega]; omega
theorem wt_le : ∀ (l : List UInt8) (i : Nat), wt i l ≤ 255 * (i + l.length) * l.length
  | [], i => by simp [wt]
  | c :: l, i => by
    have h := wt_le l (i + 1)
    have hc := c.toNat_lt
    simp only [wt, List.length_cons]
    have e1 : c.toNat * (i + 1) ≤ 255 * (i + (l.length + 1)) := Nat.le_trans (Nat.mul_le_mul_right _ (show c.toNat ≤ 255 by omega)) (Nat.mul_le_mul_left _ (by omega))
    rw [show i + 1 + l.length = i + (l.length + 1) by omega] at h
    obtain ⟨M, hM⟩ : ∃ M, 255 * (i + (l.length + 1)) = M := ⟨_, rfl⟩
    rw [hM] at h e1 ⊢
    rw [Nat.mul_succ, Nat.add_comm]
    exact Nat.add_le_add h e1
theorem bodyOf_len (x : Sec) (h : x.data.length ≤ 51) : (bodyOf x).length = 62 := by
  simp only [bodyOf, List.length_append, be_len, List.length_singleton, List.length_replicate]
  omega
theorem lay_len (x : Sec) (h : x.data.length ≤ 51) : (lay x).length = 64 := by
  simp [lay, bodyOf_len x h, be_len]
theorem layB_size (x : Sec) (h : x.data.length ≤ 51) : (layB x).size = 64 := by
  show (lay x).toArray.size = 64
  rw [List.size_toArray]
  exact lay_len x h
theorem layB_list (x : Sec) : (layB x).data.toList = lay x := rfl

theorem says_lay (x : Sec) (h : OkS x) : says (lay x) = some x := by
  obtain ⟨life, record, part, last, data⟩ := x
  have l1 := h.l1
  have l2 := h.l2
  have r2 := h.r2
  have p2 := h.p2
  have d1 := h.d1
  have d2 := h.d2
  simp only at l1 l2 r2 p2 d1 d2
  obtain ⟨x, hx⟩ : ∃ x : Sec, x = ⟨life, record, part, last, data⟩ := ⟨_, rfl⟩
  have hL : lay x = be 4 life ++ (be 4 record ++ (be 2 part ++ ([UInt8.ofNat (markOf x)] ++ (data ++ (List.replicate (51 - data.length) 0 ++ be 2 (wt 0 (bodyOf x) % 65521)))))) := by
    subst hx
    simp [lay, bodyOf, List.append_assoc]
  have t4 : (lay x).take 4 = be 4 life := by rw [hL, List.take_left' (be_len 4 life)]
  have d4 : (lay x).drop 4 = be 4 record ++ (be 2 part ++ ([UInt8.ofNat (markOf x)] ++ (data ++ (List.replicate (51 - data.length) 0 ++ be 2 (wt 0 (bodyOf x) % 65521))))) := by rw [hL, List.drop_left' (be_len 4 life)]
  have d8 : (lay x).drop 8 = be 2 part ++ ([UInt8.ofNat (markOf x)] ++ (data ++ (List.replicate (51 - data.length) 0 ++ be 2 (wt 0 (bodyOf x) % 65521)))) := by
    rw [show 8 = 4 + 4 from rfl, ← List.drop_drop, d4, List.drop_left' (be_len 4 record)]
  have d10 : (lay x).drop 10 = [UInt8.ofNat (markOf x)] ++ (data ++ (List.replicate (51 - data.length) 0 ++ be 2 (wt 0 (bodyOf x) % 65521))) := by
    rw [show 10 = 8 + 2 from rfl, ← List.drop_drop, d8, List.drop_left' (be_len 2 part)]
  have d11 : (lay x).drop 11 = data ++ (List.replicate (51 - data.length) 0 ++ be 2 (wt 0 (bodyOf x) % 65521)) := by
    rw [show 11 = 10 + 1 from rfl, ← List.drop_drop, d10]; rfl
  have g10 : (lay x).getD 10 0 = UInt8.ofNat (markOf x) := by
    have := congrArg (fun l => l[0]?) d10
    simp only [List.getElem?_drop, Nat.add_zero] at this
    rw [List.getD_eq_getElem?_getD, this]; rfl
  have hb : (bodyOf x).length = 62 := by rw [hx]; exact bodyOf_len _ d1
  have t62 : (lay x).take 62 = bodyOf x := by unfold lay; rw [List.take_left' hb]
  have d62 : (lay x).drop 62 = be 2 (wt 0 (bodyOf x) % 65521) := by unfold lay; rw [List.drop_left' hb]
  have hm : markOf x = data.length + if last then 128 else 0 := by rw [hx]; rfl
  have hmt : (UInt8.ofNat (markOf x)).toNat = markOf x := by
    rw [hm]
    cases last <;> simp <;> omega
  have hs : sizeOfS (lay x) = data.length := by
    unfold sizeOfS
    rw [g10, hmt, hm]
    cases last <;> simp <;> omega
  have hl : isLast (lay x) = last := by
    unfold isLast
    rw [g10, hmt, hm]
    cases last <;> simp <;> omega
  have hbad : badSize (lay x) = false := by
    unfold badSize
    rw [hs, hl]
    cases last with
    | true => simp; omega
    | false => have := d2 rfl; simp; omega
  have hrest : restOf (lay x) = List.replicate (51 - data.length) 0 := by
    unfold restOf
    rw [hs, ← List.drop_drop, d11, List.drop_left' rfl, List.take_left' (by simp)]
  have n4 : num ((lay x).take 4) = life := by rw [t4, num_be]; exact Nat.mod_eq_of_lt (by simpa using l2)
  have n8 : num (((lay x).drop 4).take 4) = record := by rw [d4, List.take_left' (be_len 4 record), num_be]; exact Nat.mod_eq_of_lt (by simpa using r2)
  have n10 : num (((lay x).drop 8).take 2) = part := by rw [d8, List.take_left' (be_len 2 part), num_be]; exact Nat.mod_eq_of_lt (by simpa using p2)
  have hval : isValid (lay x) = true := by
    unfold isValid
    rw [n4, d62, t62, hrest, num_be]
    have : wt 0 (bodyOf x) % 65521 % 256 ^ 2 = wt 0 (bodyOf x) % 65521 := Nat.mod_eq_of_lt (by have := Nat.mod_lt (wt 0 (bodyOf x)) (show 0 < 65521 by omega); simp; omega)
    rw [this]
    simp [l1]
  have hsec : secOf (lay x) = x := by
    unfold secOf
    rw [n4, n8, n10, hl, hs, d11, List.take_left' rfl, hx]
  rw [← hx]
  unfold says
  rw [hbad, hval, hsec]
  rfl
end Go.Proofs.YtjanddnlhaionaaGreatDoor.L6
namespace Go.Proofs.YtjanddnlhaionaaGreatDoor.L6
open Go.RowKit

def bytesV (l : List UInt8) : List Value := l.map fun c => Value.int .u8 c.toNat
theorem bytesV_len (B : List UInt8) : (bytesV B).length = B.length := by simp [bytesV]
theorem bytes_oneCell (l : List UInt8) : ∀ u ∈ bytesV l, u.oneCell' = true := by
  intro u hu
  simp only [bytesV, List.mem_map] at hu
  obtain ⟨c, _, rfl⟩ := hu
  rfl
def secC (s : ByteArray) : List Value := bytesV s.data.toList
theorem secC_len (s : ByteArray) : (secC s).length = s.size := by simp [secC, bytesV_len]
def secCells (S : List ByteArray) : List Value := S.flatMap secC
def penC (p : Nat × ByteArray) : List Value := .int .i64 (p.1 : Int) :: secC p.2
def penCells (W : List (Nat × ByteArray)) : List Value := W.flatMap penC

/-! ### Rows of a fixed width -/
theorem fm_len {α : Type} (f : α → List Value) (m : Nat) : ∀ (l : List α), (∀ x ∈ l, (f x).length = m) → (l.flatMap f).length = l.length * m
  | [], _ => by simp
  | a :: l, h => by
    rw [List.flatMap_cons, List.length_append, h a List.mem_cons_self, fm_len f m l (fun x hx => h x (List.mem_cons_of_mem _ hx)), List.length_cons, Nat.succ_mul]
    omega
theorem fm_get {α : Type} (f : α → List Value) (m : Nat) : ∀ (l : List α), (∀ x ∈ l, (f x).length = m) → ∀ (k : Nat) (x : α), l[k]? = some x → ∀ j, j < m → (l.flatMap f)[k * m + j]? = (f x)[j]?
  | [], _, k, x, hk, j, _ => by simp at hk
  | a :: l, h, 0, x, hk, j, hj => by
    have : a = x := by simpa using hk
    subst this
    rw [List.flatMap_cons, Nat.zero_mul, Nat.zero_add, List.getElem?_append_left (by rw [h a List.mem_cons_self]; exact hj)]
  | a :: l, h, k + 1, x, hk, j, hj => by
    have hk' : l[k]? = some x := by simpa using hk
    have ih := fm_get f m l (fun x hx => h x (List.mem_cons_of_mem _ hx)) k x hk' j hj
    rw [List.flatMap_cons, List.getElem?_append_right (by rw [h a List.mem_cons_self, Nat.succ_mul]; omega), h a List.mem_cons_self, Nat.succ_mul, show k * m + m + j - m = k * m + j by omega]
    exact ih
theorem fm_set {α : Type} (f : α → List Value) (m : Nat) : ∀ (l : List α), (∀ x ∈ l, (f x).length = m) → ∀ (k : Nat) (y : α), k < l.length → (f y).length = m →
    (l.set k y).flatMap f = (l.flatMap f).take (k * m) ++ f y ++ (l.flatMap f).drop (k * m + m)
  | [], _, k, y, hk, _ => by simp at hk
  | a :: l, h, 0, y, _, hy => by
    have ha := h a List.mem_cons_self
    rw [List.set_cons_zero, List.flatMap_cons, List.flatMap_cons, Nat.zero_mul, Nat.zero_add, List.take_zero, List.nil_append, ← ha, List.drop_left]
  | a :: l, h, k + 1, y, hk, hy => by
    have ha := h a List.mem_cons_self
    have ih := fm_set f m l (fun x hx => h x (List.mem_cons_of_mem _ hx)) k y (by simpa using hk) hy
    rw [List.set_cons_succ, List.flatMap_cons, List.flatMap_cons, ih, Nat.succ_mul]
    have e1 : ((f a ++ l.flatMap f).take (k * m + m)) = f a ++ (l.flatMap f).take (k * m) := by
      rw [List.take_append, ha, List.take_of_length_le (by omega), show k * m + m - m = k * m by omega]
    have e2 : ((f a ++ l.flatMap f).drop (k * m + m + m)) = (l.flatMap f).drop (k * m + m) := by
      rw [List.drop_append, ha, List.drop_of_length_le (by omega), List.nil_append, show k * m + m + m - m = k * m + m by omega]
    rw [e1, e2]
    simp [List.append_assoc]

/-! ### What a call may turn -/
structure Turn (F : Nat → Prop) (w w' : World) : Prop where
  os : w'.os = w.os
  tape : w'.tape = w.tape
  output : w'.output = w.output
  size : w.heap.size ≤ w'.heap.size
  block : ∀ k, k < w.heap.size → ¬ F k → w'.heap[k]? = w.heap[k]?
/-- F, and what is new. -/
def Up (F : Nat → Prop) (w w' : World) : Nat → Prop := fun k => F k ∨ (w.heap.size ≤ k ∧ k < w'.heap.size)

theorem Turn.refl (F : Nat → Prop) (w : World) : Turn F w w := ⟨rfl, rfl, rfl, Nat.le_refl _, fun _ _ _ => rfl⟩
theorem Turn.trans {F G : Nat → Prop} {a b c : World} (h : Turn F a b) (k : Turn G b c) (hG : ∀ i, G i → F i ∨ a.heap.size ≤ i) : Turn F a c :=
  ⟨k.os.trans h.os, k.tape.trans h.tape, k.output.trans h.output, Nat.le_trans h.size k.size, fun i hi hn =>
    (k.block i (Nat.lt_of_lt_of_le hi h.size) (fun hg => by rcases hG i hg with h1 | h1; exact hn h1; omega)).trans (h.block i hi hn)⟩
theorem Turn.mono {F G : Nat → Prop} {a b : World} (h : Turn F a b) (hG : ∀ i, F i → G i) : Turn G a b :=
  ⟨h.os, h.tape, h.output, h.size, fun i hi hn => h.block i hi (fun hf => hn (hG i hf))⟩
theorem Turn.of_below {F : Nat → Prop} {a b : World} (h : Below a.heap.size a b) : Turn F a b := ⟨h.os, h.tape, h.output, h.size, fun i hi _ => h.block i hi⟩
theorem Turn.below {F : Nat → Prop} {a b : World} (h : Turn F a b) (B : Nat) (hB : B ≤ a.heap.size) (hF : ∀ k, F k → B ≤ k) : Below B a b :=
  ⟨h.os, h.tape, h.output, h.size, fun i hi => h.block i (by omega) (fun hf => by have := hF i hf; omega)⟩
theorem Turn.of_grown {F : Nat → Prop} {a b : World} {row : Option Nat} (h : a.grownBy b row) (hF : ∀ k, row = some k → F k) : Turn F a b :=
  ⟨h.os, h.tape, h.output, h.size, fun i hi hn => h.block i hi (fun e => hn (hF i e.symm))⟩
theorem Turn.setCell {F : Nat → Prop} {a b : World} (h : Turn F a b) (p : Addr) (u : Value) (hp : F p.block ∨ a.heap.size ≤ p.block) : Turn F a (b.setCell p u) :=
  ⟨h.os, h.tape, h.output, by simpa [World.setCell] using h.size, fun i hi hn => by
    rw [Below.heap_setCell _ _ _ _ (fun e => by rcases hp with h1 | h1; exact hn (e ▸ h1); omega)]
    exact h.block i hi hn⟩
theorem Turn.alloc {F : Nat → Prop} {a b : World} (h : Turn F a b) (o : Obj) : Turn F a (b.alloc o) :=
  ⟨h.os, h.tape, h.output, by simp; exact Nat.le_succ_of_le h.size, fun i hi hn => by
    rw [Below.heap_alloc _ _ _ (Nat.lt_of_lt_of_le hi h.size)]; exact h.block i hi hn⟩
theorem Turn.drew {F : Nat → Prop} {a b : World} (h : Turn F a b) : Turn F a b.drew := ⟨h.os, h.tape, h.output, h.size, h.block⟩
theorem cell_row {w : World} {g j : Nat} {cs : Array Value} {t : TypeId} {v : Value} (h : w.heap[g]? = some (.cells cs t (0, 0))) (hv : cs[j]? = some v) : w.cell? ⟨g, j, none⟩ = some v := by
  rw [cell_of_row w g j cs t (0, 0) h]; exact hv

/-- A row of one's own stays where nothing of it is turned. -/
theorem row_keep {w w' : World} {B : Nat} {e : TypeId} {m : Nat} {v : Value} {n : Nat} {xs : List Value} (h : w.ownsRow B e m v n xs) (hk : ∀ k, v.ownBlock = some k → w'.heap[k]? = w.heap[k]?) : w'.ownsRow B e m v n xs := by
  refine ⟨h.1, ?_⟩
  rcases h.2 with h0 | ⟨g, cap, cur, hv, hb, hg, r⟩
  · exact .inl h0
  · refine .inr ⟨g, cap, cur, hv, hb, ?_, r⟩
    rw [hk g (by rw [hv]; rfl)]; exact hg
theorem row_slice {w : World} {B : Nat} {e : TypeId} {m : Nat} {v : Value} {n : Nat} {xs : List Value} (h : w.ownsRow B e m v n xs) : ∃ a c, v = .slice a n c := by
  rcases h.2 with ⟨e1, e2⟩ | ⟨g, cap', cur, e, _⟩
  · exact ⟨none, 0, by rw [e1, e2]⟩
  · exact ⟨_, _, e⟩
theorem row_some {w : World} {B : Nat} {e : TypeId} {m : Nat} {v : Value} {n : Nat} {xs : List Value} (h : w.ownsRow B e m v n xs) (hn : 0 < n) : ∃ g c, v = .slice (some ⟨g, 0, none⟩) n c := by
  rcases h.2 with ⟨e1, e2⟩ | ⟨g, cap', cur, e, _⟩
  · omega
  · exact ⟨_, _, e⟩
theorem row_lt {w : World} {B : Nat} {e : TypeId} {m : Nat} {v : Value} {n : Nat} {xs : List Value} (h : w.ownsRow B e m v n xs) {k : Nat} (hk : v.ownBlock = some k) : k < w.heap.size := (h.lt k hk).2
/-- The cells of element k. -/
theorem row_range {α : Type} {w : World} {B : Nat} {e : TypeId} {m : Nat} {g n c : Nat} {f : α → List Value} {l : List α} (h : w.ownsRow B e m (.slice (some ⟨g, 0, none⟩) n c) n (l.flatMap f)) (hf : ∀ x ∈ l, (f x).length = m) (hn : n = l.length) (k : Nat) (x : α) (hx : l[k]? = some x) : w.rangeAt g (k * m) (f x) := by
  intro j v hv
  have hk : k < l.length := (List.getElem?_eq_some_iff.1 hx).1
  have hj : j < m := by
    have := (List.getElem?_eq_some_iff.1 hv).1
    rw [hf x (List.mem_of_getElem? hx)] at this
    exact this
  rw [h.cellAt (k * m + j) (by
    have : (k + 1) * m ≤ n * m := Nat.mul_le_mul_right _ (by omega)
    rw [Nat.succ_mul] at this
    omega), fm_get f m l hf k x hx j hj]
  exact hv
/-- Element k stored whole. -/
theorem row_store {α : Type} {P : Program} {w : World} {B : Nat} {e : TypeId} {m : Nat} {g n c : Nat} {f : α → List Value} {l : List α} (ty : TypeId) (h : w.ownsRow B e m (.slice (some ⟨g, 0, none⟩) n c) n (l.flatMap f)) (hf : ∀ x ∈ l, (f x).length = m) (hn : n = l.length) (k : Nat) (y : α) (hk : k < l.length) (hy : (f y).length = m) (h1 : ∀ u ∈ f y, u.oneCell' = true)
    (hi : (P.info? ty).map (·.size) = some m) :
    ∃ w', (Instr.storeAt ty (.pointer (some ⟨g, k * m, none⟩)) (.agg (f y).toArray)).run P w = .ok () w' ∧ w'.ownsRow B e m (.slice (some ⟨g, 0, none⟩) n c) n ((l.set k y).flatMap f) ∧ w.grownBy w' (some g) ∧ w'.heap.size = w.heap.size := by
  rcases h.2 with ⟨h', _⟩ | ⟨g', cap', cur, h', hb, hg, hnc, hcm, hcs, htake⟩
  · simp at h'
  · simp only [Value.slice.injEq, Option.some.injEq, Addr.mk.injEq, and_true, true_and] at h'
    obtain ⟨rfl, rfl⟩ := h'
    have hkm : k * m + m ≤ n * m := by
      have : (k + 1) * m ≤ n * m := Nat.mul_le_mul_right _ (by omega)
      rw [Nat.succ_mul] at this
      exact this
    have hcm' : n * m ≤ c * m := Nat.mul_le_mul_right _ hnc
    have hst := run_storeCells_at P g (k * m) e (f y) 0 cur w hg (by rw [hy, hcs]; omega) h1
    simp only [Nat.add_zero, hy] at hst
    refine ⟨w.setRow g (cur.toList.take (k * m) ++ f y ++ cur.toList.drop (k * m + m)).toArray, ?_, ⟨?_, .inr ⟨g, c, _, rfl, hb, setRow_heap w g cur _ e (0, 0) hg, hnc, hcm, ?_, ?_⟩⟩, ⟨rfl, rfl, rfl, by simp, fun i _ hi => setRow_other w g i _ (fun e => hi (by rw [e]))⟩, by simp⟩
    · cases hq : P.info? ty with
      | none => simp [hq] at hi
      | some i =>
        have hs : i.size = m := by simpa [hq] using hi
        simp [Instr.storeAt, Instr.sureAddr, storeVar, sizeOf, typeInfo, hq, Value.cells, hs, hy, hst]
    · rw [fm_len f m _ (fun x hx => by rcases List.mem_or_eq_of_mem_set hx with h2 | h2; exact hf x h2; rw [h2]; exact hy), List.length_set, hn]
    · simp only [List.size_toArray, List.length_append, List.length_take, List.length_drop, Array.length_toList, hy, hcs]
      omega
    · have hL : cur.toList.length = c * m := by rw [Array.length_toList, hcs]
      show ((cur.toList.take (k * m) ++ f y ++ cur.toList.drop (k * m + m))).take (n * m) = _
      rw [fm_set f m l hf k y hk hy, ← htake, List.take_take, Nat.min_eq_left (by omega)]
      have e1 : (cur.toList.take (k * m) ++ f y).length = k * m + m := by rw [List.length_append, List.length_take, hy, hL]; omega
      rw [List.take_append, e1, List.take_of_length_le (by rw [e1]; exact hkm), List.drop_take]

/-! ### A drum of the program -/
def secs : List ByteArray → List Value := secCells
structure PIs (w : World) (F : Nat → Prop) (b : Nat) (d : D) (g c : Nat) (v : Value) : Prop where
  row : w.heap[b]? = some (.cells #[.slice (some ⟨g, 0, none⟩) d.S.length c, v, .int .i64 d.fuse, .bool d.gone] 120 (0, 0))
  o1 : w.ownsRow 0 144 64 (.slice (some ⟨g, 0, none⟩) d.S.length c) d.S.length (secCells d.S)
  o2 : w.ownsRow 0 146 65 v d.W.length (penCells d.W)
  n1 : g ≠ b
  n2 : v.ownBlock ≠ some b
  n12 : v.ownBlock ≠ some g
  fb : F b
  f1 : F g
  f2 : ∀ k, v.ownBlock = some k → F k
structure PAt (w : World) (F : Nat → Prop) (b : Nat) (d : D) : Prop where
  is : ∃ g c v, PIs w F b d g c v
  ok : Ok d
  lt : ∀ k, F k → k < w.heap.size

theorem own_some {g n c k : Nat} (h : (Value.slice (some ⟨g, 0, none⟩) n c).ownBlock = some k) : g = k := by simpa [Value.ownBlock] using h
theorem PIs.keep {w w' : World} {F : Nat → Prop} {b : Nat} {d : D} {g c : Nat} {v : Value} (h : PIs w F b d g c v) (hk : ∀ k, F k → w'.heap[k]? = w.heap[k]?) : PIs w' F b d g c v :=
  ⟨by rw [hk b h.fb]; exact h.row, row_keep h.o1 (fun k hk' => hk k (own_some hk' ▸ h.f1)), row_keep h.o2 (fun k hk' => hk k (h.f2 k hk')), h.n1, h.n2, h.n12, h.fb, h.f1, h.f2⟩
theorem PIs.more {w : World} {F G : Nat → Prop} {b : Nat} {d : D} {g c : Nat} {v : Value} (h : PIs w F b d g c v) (hk : ∀ k, F k → G k) : PIs w G b d g c v :=
  ⟨h.row, h.o1, h.o2, h.n1, h.n2, h.n12, hk _ h.fb, hk _ h.f1, fun k hk' => hk k (h.f2 k hk')⟩
theorem PAt.keep {w w' : World} {F G : Nat → Prop} {b : Nat} {d : D} (h : PAt w F b d) (ht : Turn G w w') (hd : ∀ k, F k → ¬ G k) : PAt w' F b d := by
  obtain ⟨g, c, v, hi⟩ := h.is
  exact ⟨⟨g, c, v, hi.keep (fun k hk => ht.block k (h.lt k hk) (hd k hk))⟩, h.ok, fun k hk => Nat.lt_of_lt_of_le (h.lt k hk) ht.size⟩
theorem PAt.below {w w' : World} {F : Nat → Prop} {b : Nat} {d : D} (h : PAt w F b d) (ht : Below w.heap.size w w') : PAt w' F b d :=
  h.keep (G := fun _ => False) (Turn.of_below ht) (fun _ _ h => h)
theorem PAt.up {w' : World} {F : Nat → Prop} {b : Nat} {d : D} (h : PAt w' F b d) (w0 : World) : PAt w' (Up F w0 w') b d := by
  obtain ⟨g, c, v, hi⟩ := h.is
  exact ⟨⟨g, c, v, hi.more (fun k hk => .inl hk)⟩, h.ok, fun k hk => by rcases hk with h1 | h1; exact h.lt k h1; exact h1.2⟩
theorem PIs.lt {w : World} {F : Nat → Prop} {b : Nat} {d : D} {g c : Nat} {v : Value} (h : PIs w F b d g c v) : b < w.heap.size := (Array.getElem?_eq_some_iff.1 h.row).1
theorem PIs.c0 {w : World} {F : Nat → Prop} {b : Nat} {d : D} {g c : Nat} {v : Value} (h : PIs w F b d g c v) : w.cell? ⟨b, 0, none⟩ = some (.slice (some ⟨g, 0, none⟩) d.S.length c) := cell_row h.row rfl
theorem PIs.c1 {w : World} {F : Nat → Prop} {b : Nat} {d : D} {g c : Nat} {v : Value} (h : PIs w F b d g c v) : w.cell? ⟨b, 1, none⟩ = some v := cell_row h.row rfl
theorem PIs.c2 {w : World} {F : Nat → Prop} {b : Nat} {d : D} {g c : Nat} {v : Value} (h : PIs w F b d g c v) : w.cell? ⟨b, 2, none⟩ = some (.int .i64 d.fuse) := cell_row h.row rfl
theorem PIs.c3 {w : World} {F : Nat → Prop} {b : Nat} {d : D} {g c : Nat} {v : Value} (h : PIs w F b d g c v) : w.cell? ⟨b, 3, none⟩ = some (.bool d.gone) := cell_row h.row rfl
theorem PIs.fr {w : World} {F : Nat → Prop} {b : Nat} {d : D} {g c : Nat} {v : Value} (h : PIs w F b d g c v) (j : Nat) : w.frozen? ⟨b, j, none⟩ = false := frozen_of_row w b j _ _ h.row
end Go.Proofs.YtjanddnlhaionaaGreatDoor.L6
namespace Go.Proofs.YtjanddnlhaionaaGreatDoor.L6
open Go.RowKit

def ptr (b : Nat) : Value := .pointer (some ⟨b, 0, none⟩)

theorem exists26 {F : Nat → Prop} {b : Nat} {d : D} {w : World} (h : PAt w F b d) :
    Calls Tryz.prog 80 #[.pointer (some ⟨b, 0, none⟩)] w fun e w' => e = .returned (.bool true) ∧ w = w' := by
  obtain ⟨g, c, v, hi⟩ := h.is
  have c0 := hi.c0
  have hn := h.ok.n1
  generalize d.S.length = n at c0 hn
  have hp : decide (0 < (n : Int)) = true := by simp; omega
  have hp' : decide (0 < n) = true := by simp; omega
  clear hi h
  go_enter Tryz.func80, Tryz.ntmps80
  go_wp2
  go_ret
  exact ⟨rfl, rfl⟩

theorem has35 {F : Nat → Prop} {b : Nat} {d : D} {w : World} (h : PAt w F b d) (i : Int) :
    Calls Tryz.prog 207 #[.pointer (some ⟨b, 0, none⟩), .int .i64 i] w fun e w' => e = .returned (.bool (hasB d i)) ∧ w = w' := by
  obtain ⟨g, c, v, hi⟩ := h.is
  have c0 := hi.c0
  obtain ⟨r, hr⟩ : ∃ r, hasB d i = r := ⟨_, rfl⟩
  rw [hr]
  unfold hasB at hr
  generalize d.S.length = n at c0 hr
  have HR := Lib.hid hr
  clear hi h hr
  by_cases h0 : 0 ≤ i
  · by_cases h1 : i < n
    · have e : r = true := by rw [← HR.out]; simp [h0, h1]
      subst e
      clear HR
      go_enter Tryz.func207, Tryz.ntmps207
      go_wp2
      go_ret
      exact ⟨rfl, rfl⟩
    · have e : r = false := by rw [← HR.out]; simp [h1]
      subst e
      have h2 : decide (i < (n : Int)) = false := by simp; omega
      clear HR h1
      go_enter Tryz.func207, Tryz.ntmps207
      go_wp2
      go_ret
      exact ⟨rfl, rfl⟩
  · have e : r = false := by rw [← HR.out]; simp [h0]
    subst e
    have h2 : decide (0 ≤ i) = false := by simp; omega
    clear HR h0
    go_enter Tryz.func207, Tryz.ntmps207
    go_wp2
    go_ret
    exact ⟨rfl, rfl⟩

theorem size25 {F : Nat → Prop} {b : Nat} {d : D} {w : World} (h : PAt w F b d) :
    Calls Tryz.prog 172 #[.pointer (some ⟨b, 0, none⟩)] w fun e w' => e = .returned (.int .i64 (d.S.length : Int)) ∧ w = w' := by
  have HE := Lib.hid (exists26 h)
  obtain ⟨g, c, v, hi⟩ := h.is
  have c0 := hi.c0
  clear hi h
  go_enter Tryz.func172, Tryz.ntmps172
  go_wp2_with (go_at_call 80; refine HE.out.mono ?_; rintro e w' ⟨rfl, rfl⟩)
  go_ret
  exact ⟨rfl, rfl⟩
/-- The drum's own block, with other words in it. -/
theorem PIs.turn {w w' : World} {F : Nat → Prop} {b : Nat} {d : D} {g c : Nat} {v : Value} (h : PIs w F b d g c v) (f : Int) (q : Bool)
    (hr : w'.heap[b]? = some (.cells #[.slice (some ⟨g, 0, none⟩) d.S.length c, v, .int .i64 f, .bool q] 120 (0, 0))) (hk : ∀ k, k ≠ b → w'.heap[k]? = w.heap[k]?) : PIs w' F b { d with fuse := f, gone := q } g c v :=
  ⟨hr, row_keep h.o1 (fun k hk' => hk k (own_some hk' ▸ h.n1)), row_keep h.o2 (fun k hk' => hk k (fun e => h.n2 (e ▸ hk'))), h.n1, h.n2, h.n12, h.fb, h.f1, h.f2⟩

set_option maxHeartbeats 400000 in
theorem spend37 {F : Nat → Prop} {b : Nat} {d : D} {w : World} (h : PAt w F b d) :
    Calls Tryz.prog 213 #[.pointer (some ⟨b, 0, none⟩)] w fun e w' => e = .returned (.bool (!(burn d).gone)) ∧ PAt w' F b (burn d) ∧ Turn F w w' ∧ w'.heap.size = w.heap.size := by
  have HOK := Lib.hid h.ok.burn
  have HLT := Lib.hid h.lt
  obtain ⟨g, c, v, hi⟩ := h.is
  have c2 := hi.c2
  have c3 := hi.c3
  have f2 := hi.fr 2
  have f3 := hi.fr 3
  have hg := h.ok.g
  have hf1 := h.ok.f1
  have hf2 := h.ok.f2
  have HI := Lib.hid hi
  obtain ⟨S, W, f, q⟩ := d
  have hg : q = true → f = 0 := hg
  have hf1 : -1 ≤ f := hf1
  have hf2 : f ≤ 9223372036854775807 := hf2
  have c2 : w.cell? ⟨b, 2, none⟩ = some (.int .i64 f) := c2
  have c3 : w.cell? ⟨b, 3, none⟩ = some (.bool q) := c3
  clear hi h
  obtain ⟨r, hr⟩ : ∃ r, burn ⟨S, W, f, q⟩ = r := ⟨_, rfl⟩
  rw [hr] at HOK ⊢
  have HR := Lib.hid hr
  clear hr
  by_cases h0 : f = 0
  · have er : r = ⟨S, W, f, true⟩ := by rw [← HR.out]; simp [burn, h0]
    subst er
    subst h0
    have HFIN : Hid (PAt (w.setCell ⟨b, 3, none⟩ (.bool true)) F b ⟨S, W, 0, true⟩ ∧ Turn F w (w.setCell ⟨b, 3, none⟩ (.bool true))) := by
      refine ⟨⟨⟨g, c, v, HI.out.turn 0 true ?_ (fun k hk => Below.heap_setCell _ _ _ _ hk)⟩, HOK.out, fun k hk => by simpa [World.setCell] using HLT.out k hk⟩, (Turn.refl F w).setCell _ _ (.inl HI.out.fb)⟩
      rw [heap_setCell_same _ _ _ _ _ _ HI.out.row]; rfl
    clear hg hf1 hf2 HR HOK
    go_enter Tryz.func213, Tryz.ntmps213
    go_wp2
    go_ret
    exact ⟨rfl, HFIN.out.1, HFIN.out.2, by simp [World.setCell]⟩
  · have hq : q = false := by cases q with | false => rfl | true => exact absurd (hg rfl) h0
    subst hq
    have t0 : (f == 0) = false := by simpa using h0
    by_cases h1 : f = -1
    · subst h1
      have er : r = ⟨S, W, -1, false⟩ := by rw [← HR.out]; simp [burn]
      subst er
      have HFIN : Hid (PAt w F b ⟨S, W, -1, false⟩) := ⟨⟨g, c, v, HI.out⟩, HOK.out, HLT.out⟩
      clear hg hf1 hf2 HR HOK h0
      go_enter Tryz.func213, Tryz.ntmps213
      go_wp2
      go_ret
      exact ⟨rfl, HFIN.out, Turn.refl _ _, rfl⟩
    · have t1 : (f != -1) = true := by simpa using h1
      have hpos : 0 < f := by omega
      have er : r = ⟨S, W, f - 1, false⟩ := by rw [← HR.out]; simp [burn, h0, hpos]
      subst er
      have HFIN : Hid (PAt (w.setCell ⟨b, 2, none⟩ (.int .i64 (f - 1))) F b ⟨S, W, f - 1, false⟩ ∧ Turn F w (w.setCell ⟨b, 2, none⟩ (.int .i64 (f - 1)))) := by
        refine ⟨⟨⟨g, c, v, HI.out.turn (f - 1) false ?_ (fun k hk => Below.heap_setCell _ _ _ _ hk)⟩, HOK.out, fun k hk => by simpa [World.setCell] using HLT.out k hk⟩, (Turn.refl F w).setCell _ _ (.inl HI.out.fb)⟩
        rw [heap_setCell_same _ _ _ _ _ _ HI.out.row]; rfl
      clear hg HR HOK h0 h1
      go_enter Tryz.func213, Tryz.ntmps213
      go_wp2
      go_ret
      exact ⟨rfl, HFIN.out.1, HFIN.out.2, by simp [World.setCell]⟩

set_option maxHeartbeats 400000 in
theorem arm23 {F : Nat → Prop} {b : Nat} {d : D} {w : World} (h : PAt w F b d) (n : Int) (hn : n ≤ 9223372036854775807) :
    Calls Tryz.prog 37 #[.pointer (some ⟨b, 0, none⟩), .int .i64 n] w fun e w' => e = .returned (.int .i64 (armE d n)) ∧ PAt w' F b (armD d n) ∧ Turn F w w' ∧ w'.heap.size = w.heap.size := by
  have HE := Lib.hid (exists26 h)
  have HOK := Lib.hid (h.ok.arm n hn)
  have HLT := Lib.hid h.lt
  have HH := Lib.hid h
  obtain ⟨g, c, v, hi⟩ := h.is
  have c3 := hi.c3
  have c2 := hi.c2
  have f2 := hi.fr 2
  have HI := Lib.hid hi
  clear hi h hn
  by_cases h0 : n < 0
  · have e1 : armE d n = 2 := by simp [armE, h0]
    have e2 : armD d n = d := by simp [armD, h0]
    rw [e1, e2]
    have t0 : decide (n < 0) = true := by simpa using h0
    clear e1 e2 HOK
    go_enter Tryz.func37, Tryz.ntmps37
    go_wp2_with (go_at_call 80; refine HE.out.mono ?_; rintro e w' ⟨rfl, rfl⟩)
    go_ret
    exact ⟨rfl, HH.out, Turn.refl _ _, rfl⟩
  · have t0 : decide (n < 0) = false := by simpa using h0
    cases hq : d.gone with
    | true =>
      rw [hq] at c3
      have e1 : armE d n = 9 := by simp [armE, h0, hq]
      have e2 : armD d n = d := by simp [armD, h0, hq]
      rw [e1, e2]
      clear e1 e2 HOK hq
      go_enter Tryz.func37, Tryz.ntmps37
      go_wp2_with (go_at_call 80; refine HE.out.mono ?_; rintro e w' ⟨rfl, rfl⟩)
      go_ret
      exact ⟨rfl, HH.out, Turn.refl _ _, rfl⟩
    | false =>
      rw [hq] at c3
      have e1 : armE d n = 0 := by simp [armE, h0, hq]
      have e2 : armD d n = { d with fuse := n, gone := false } := by
        obtain ⟨S, W, f, q⟩ := d
        have hq : q = false := hq
        subst hq
        simp [armD, h0]
      rw [e2] at HOK
      rw [e1, e2]
      have HFIN : Hid (PAt (w.setCell ⟨b, 2, none⟩ (.int .i64 n)) F b { d with fuse := n, gone := false } ∧ Turn F w (w.setCell ⟨b, 2, none⟩ (.int .i64 n))) := by
        refine ⟨⟨⟨g, c, v, HI.out.turn n false ?_ (fun k hk => Below.heap_setCell _ _ _ _ hk)⟩, HOK.out, fun k hk => by simpa [World.setCell] using HLT.out k hk⟩, (Turn.refl F w).setCell _ _ (.inl HI.out.fb)⟩
        rw [heap_setCell_same _ _ _ _ _ _ HI.out.row, hq]; rfl
      clear e1 e2 HOK hq
      go_enter Tryz.func37, Tryz.ntmps37
      go_wp2_with (go_at_call 80; refine HE.out.mono ?_; rintro e w' ⟨rfl, rfl⟩)
      go_ret
      exact ⟨rfl, HFIN.out.1, HFIN.out.2, by simp [World.setCell]⟩
end Go.Proofs.YtjanddnlhaionaaGreatDoor.L6
namespace Go.Proofs.YtjanddnlhaionaaGreatDoor.L6
open Go.RowKit

theorem quietS {f : Nat} {args : Array Value} {w : World} {n : Nat} {v : Value} (h : Calls Tryz.prog f args (w.drewN n) fun e w' => e = .returned v ∧ w.drewN n = w') : Calls Tryz.prog f args (w.drewN n) fun e w'' => e = .returned v ∧ ∃ m, w'' = w.drewN m :=
  Calls.quiet_of_same (h.mono fun _ _ ⟨a, b⟩ => ⟨a, b.symm⟩)
theorem take_byte (s : ByteArray) (k : Nat) (h : k < s.size) : s.data.toList.take (k + 1) = s.data.toList.take k ++ [s[k]] := by
  rw [List.take_succ_eq_append_getElem (by simpa using h)]
  simp
  rfl
theorem take_all (s : ByteArray) : s.data.toList.take s.size = s.data.toList := by
  rw [List.take_of_length_le]; simp

theorem number71 (s : ByteArray) (hs : s.size ≤ 4) (w : World) :
    Calls Tryz.prog 209 #[.string s] w fun e w' => e = .returned (.int .i64 ((num s.data.toList : Nat) : Int)) ∧ w = w' := by
  have HA := Lib.hid (take_all s)
  go_enter Tryz.func209, Tryz.ntmps209
  go_wp2
  go_loop [3, 7] (fun s3 s7 => ∃ k n : Nat, k ≤ s.size ∧ s7 = .int .i64 k ∧ s3 = .int .i64 n ∧ Hid (num (s.data.toList.take k) = n) ∧ n < 256 ^ k) (fun _ s7 => s.size - (intOf s7).toNat)
  case atStart => exact ⟨0, 0, by omega, rfl, rfl, by simp [Hid, num], by omega⟩
  case round =>
    obtain ⟨k, n, hk, rfl, rfl, HN, hn⟩ := hrel
    by_cases hlt : k < s.size
    · have hki : (k : Int) < (s.size : Int) := by omega
      have hn2 : n < 16777216 := Nat.lt_of_lt_of_le hn (Nat.pow_le_pow_right (n := 256) (i := k) (j := 3) (by omega) (by omega))
      have hc := s[k].toNat_lt
      have HN2 : Hid (num (s.data.toList.take (k + 1)) = n * 256 + s[k].toNat) := by
        unfold Hid
        rw [take_byte s k hlt]
        unfold num
        rw [List.foldl_append]
        show (List.take k s.data.toList).foldl _ 0 * 256 + _ = _
        rw [show (List.take k s.data.toList).foldl (fun n c => n * 256 + c.toNat) 0 = n from HN.out]
      have hp : 256 ^ (k + 1) = 256 * 256 ^ k := by rw [Nat.pow_succ, Nat.mul_comm]
      have HP : Hid (n * 256 + s[k].toNat < 256 ^ (k + 1)) := by unfold Hid; omega
      clear hp hn
      go_wp2
      go_round
      case rel => exact ⟨k + 1, n * 256 + s[k].toNat, by omega, by go_num, by go_num, HN2, HP.out⟩
      case measure => simp [intOf]; omega
    · have e : k = s.size := by omega
      subst e
      rw [HA.out] at HN
      go_wp2
      go_ret
      exact ⟨by rw [HN.out]; rfl, rfl⟩

theorem checksum72 (s : ByteArray) (hs : s.size ≤ 62) (w : World) :
    Calls Tryz.prog 210 #[.string s] w fun e w' => e = .returned (.int .i64 ((wt 0 s.data.toList % 65521 : Nat) : Int)) ∧ w = w' := by
  have HA := Lib.hid (take_all s)
  go_enter Tryz.func210, Tryz.ntmps210
  go_wp2
  go_loop [3, 7] (fun s3 s7 => ∃ k n : Nat, k ≤ s.size ∧ s7 = .int .i64 k ∧ s3 = .int .i64 n ∧ Hid (wt 0 (s.data.toList.take k) = n)) (fun _ s7 => s.size - (intOf s7).toNat)
  case atStart => exact ⟨0, 0, by omega, rfl, rfl, by simp [Hid, wt]⟩
  case round =>
    obtain ⟨k, n, hk, rfl, rfl, HN⟩ := hrel
    have hn : n ≤ 1000000 := by
      have h := wt_le (s.data.toList.take k) 0
      rw [HN.out, List.length_take, Nat.zero_add] at h
      have hm : min k s.data.toList.length ≤ 62 := Nat.le_trans (Nat.min_le_left _ _) (by omega)
      refine Nat.le_trans h (Nat.le_trans (Nat.mul_le_mul (Nat.mul_le_mul_left _ hm) hm) (by omega))
    by_cases hlt : k < s.size
    · have hki : (k : Int) < (s.size : Int) := by omega
      have hc := s[k].toNat_lt
      have HN2 : Hid (wt 0 (s.data.toList.take (k + 1)) = n + s[k].toNat * (k + 1)) := by
        unfold Hid
        rw [take_byte s k hlt, wt_append, HN.out, List.length_take, Nat.min_eq_left (by simp; omega)]
        simp [wt]
      have hm : s[k].toNat * (k + 1) ≤ 255 * 62 := Nat.mul_le_mul (by omega) (by omega)
      have hm2 : (s[k].toNat : Int) * ((k : Int) + 1) = ((s[k].toNat * (k + 1) : Nat) : Int) := by push_cast; rfl
      obtain ⟨m, hmm⟩ : ∃ m, s[k].toNat * (k + 1) = m := ⟨_, rfl⟩
      rw [hmm] at hm hm2 HN2
      have e1 : IntKind.i64.wrap ((s[k].toNat : Int) * ((k : Int) + 1)) = m := by rw [IntKind.wrap_i64, hm2]; omega
      clear hmm
      go_wp2
      go_round
      case rel => exact ⟨k + 1, n + m, by omega, by go_num, by go_num, HN2⟩
      case measure => simp [intOf]; omega
    · have e : k = s.size := by omega
      subst e
      rw [HA.out] at HN
      go_wp2
      go_ret
      exact ⟨by rw [HN.out]; rfl, rfl⟩

theorem need17 (n : Int) (h1 : -9223372036854775808 ≤ n) (h2 : n ≤ 9223372036854775807) (w : World) :
    Calls Tryz.prog 197 #[.int .i64 n] w fun e w' => e = .returned (.int .i64 (needI n)) ∧ w = w' := by
  obtain ⟨r, hr⟩ : ∃ r, needI n = r := ⟨_, rfl⟩
  rw [hr]
  unfold needI at hr
  by_cases h : n ≤ 51
  · rw [if_pos h] at hr
    subst hr
    go_enter Tryz.func197, Tryz.ntmps197
    go_wp2
    go_ret
    exact ⟨rfl, rfl⟩
  · rw [if_neg h] at hr
    have HR := Lib.hid hr
    clear hr
    go_enter Tryz.func197, Tryz.ntmps197
    go_wp2
    go_ret
    exact ⟨by rw [← HR.out]; rfl, rfl⟩
theorem needI_nat (n : Nat) : needI (n : Int) = (needN n : Int) := by
  unfold needI needN
  by_cases h : n ≤ 51
  · rw [if_pos (by omega), if_pos h]; rfl
  · rw [if_neg (by omega), if_neg h]; omega
theorem need17n (n : Nat) (h2 : n ≤ 9223372036854775807) (w : World) :
    Calls Tryz.prog 197 #[.int .i64 (n : Int)] w fun e w' => e = .returned (.int .i64 (needN n : Int)) ∧ w = w' := by
  rw [← needI_nat]; exact need17 _ (by omega) (by omega) w

theorem slice_str (s : ByteArray) (a b : Nat) (h1 : a ≤ b) (h2 : b ≤ s.size) (x y : Int) (hx : x = a) (hy : y = b) (W : World) : (Instr.slice 9 (.string s) (some (.int .i64 x)) (some (.int .i64 y)) none).run Tryz.prog W = .ok (.string (s.extract a b)) W := by
  subst hx hy
  go_simp

/-! ### strings.Trim with the cutset of a zero byte -/
def zL (l : List UInt8) : List UInt8 := l.dropWhile (· == 0)
def zR (l : List UInt8) : List UInt8 := (zL l.reverse).reverse
theorem ext_list (s : ByteArray) (a b : Nat) : (s.extract a b).data.toList = (s.data.toList.take b).drop a := by
  simp [ByteArray.data_extract, Array.toList_extract, List.drop_take]
theorem zL_zero (c : UInt8) (l : List UInt8) (h : c = 0) : zL (c :: l) = zL l := by subst h; simp [zL]
theorem zL_stop (c : UInt8) (l : List UInt8) (h : c ≠ 0) : zL (c :: l) = c :: l := by simp [zL, h]
theorem len_list (s : ByteArray) : s.data.toList.length = s.size := by simp
theorem head_tail (t : ByteArray) (h : 0 < t.size) : t.data.toList = t[0] :: t.data.toList.drop 1 := by
  have := List.drop_eq_getElem_cons (l := t.data.toList) (i := 0) (by rw [len_list]; exact h)
  rw [List.drop_zero] at this
  exact this
theorem last_byte (t : ByteArray) (h : 0 < t.size) : t.data.toList = (t.extract 0 (t.size - 1)).data.toList ++ [t[t.size - 1]] := by
  have := take_byte t (t.size - 1) (by omega)
  rw [show t.size - 1 + 1 = t.size by omega, take_all] at this
  rw [ext_list, List.drop_zero]
  exact this
theorem zR_zero (l : List UInt8) (c : UInt8) (h : c = 0) : zR (l ++ [c]) = zR l := by
  unfold zR; rw [List.reverse_append]; show (zL (c :: l.reverse)).reverse = _; rw [zL_zero _ _ h]
theorem zR_stop (l : List UInt8) (c : UInt8) (h : c ≠ 0) : zR (l ++ [c]) = l ++ [c] := by
  unfold zR; rw [List.reverse_append]; show (zL (c :: l.reverse)).reverse = _; rw [zL_stop _ _ h]; simp
theorem byte_ne (c : UInt8) (hz : ¬ c = 0) : ((c.toNat : Int) == 0) = false := by
  rw [beq_eq_false_iff_ne]
  intro h
  exact hz (UInt8.toNat_inj.1 (by simpa using h))
theorem trimLeft77 (s : ByteArray) (w : World) :
    Calls Tryz.prog 218 #[.string s, .int .u8 0] w fun e w' => (∃ t : ByteArray, e = .returned (.string t) ∧ t.data.toList = zL s.data.toList) ∧ w = w' := by
  obtain ⟨R, hR⟩ : ∃ R, zL s.data.toList = R := ⟨_, rfl⟩
  rw [hR]
  have HR := Lib.hid hR
  clear hR
  go_enter Tryz.func218, Tryz.ntmps218
  go_wp2
  go_loop [0] (fun s0 => ∃ t : ByteArray, s0 = .string t ∧ Hid (zL t.data.toList = R)) (fun s0 => match s0 with | .string t => t.size | _ => 0)
  case atStart => exact ⟨s, rfl, HR⟩
  case round =>
    obtain ⟨t, rfl, HT⟩ := hrel
    clear HR
    by_cases h0 : 0 < t.size
    · have h0' : decide (0 < (t.size : Int)) = true := decide_eq_true (by omega)
      have hl : t.data.toList = t[0] :: (t.extract 1 t.size).data.toList := by
        rw [ext_list, take_all]; exact head_tail t h0
      by_cases hz : t[0] = 0
      · have hz' : ((t[0].toNat : Int) == 0) = true := by rw [hz]; rfl
        have HT2 : Hid (zL (t.extract 1 t.size).data.toList = R) := by
          unfold Hid
          rw [← HT.out, hl, zL_zero _ _ hz]
        clear hl hz
        go_wp2
        go_round
        case rel => exact ⟨_, rfl, HT2⟩
        case measure => simp; omega
      · have hz' : ((t[0].toNat : Int) == 0) = false := byte_ne _ hz
        have HT2 : Hid (t.data.toList = R) := by
          unfold Hid
          rw [← HT.out, hl, zL_stop _ _ hz]
        clear hl hz
        go_wp2
        go_ret
        exact ⟨⟨t, rfl, HT2.out⟩, rfl⟩
    · have h0' : decide (0 < (t.size : Int)) = false := decide_eq_false (by omega)
      have HT2 : Hid (t.data.toList = R) := by
        unfold Hid
        have : t.data.toList = [] := List.eq_nil_of_length_eq_zero (by rw [len_list]; omega)
        rw [← HT.out, this]; rfl
      go_wp2
      go_ret
      exact ⟨⟨t, rfl, HT2.out⟩, rfl⟩

theorem trimRight78 (s : ByteArray) (hs : s.size ≤ 1000) (w : World) :
    Calls Tryz.prog 219 #[.string s, .int .u8 0] w fun e w' => (∃ t : ByteArray, e = .returned (.string t) ∧ t.data.toList = zR s.data.toList) ∧ w = w' := by
  obtain ⟨R, hR⟩ : ∃ R, zR s.data.toList = R := ⟨_, rfl⟩
  rw [hR]
  have HR := Lib.hid hR
  clear hR
  go_enter Tryz.func219, Tryz.ntmps219
  go_wp2
  go_loop [0] (fun s0 => ∃ t : ByteArray, s0 = .string t ∧ t.size ≤ 1000 ∧ Hid (zR t.data.toList = R)) (fun s0 => match s0 with | .string t => t.size | _ => 0)
  case atStart => exact ⟨s, rfl, hs, HR⟩
  case round =>
    obtain ⟨t, rfl, ht, HT⟩ := hrel
    clear HR hs
    by_cases h0 : 0 < t.size
    · have h0' : decide (0 < (t.size : Int)) = true := decide_eq_true (by omega)
      have hlt : t.size - 1 < t.size := by omega
      obtain ⟨c, hc⟩ : ∃ c, t[t.size - 1]'hlt = c := ⟨_, rfl⟩
      have hl := last_byte t h0
      rw [hc] at hl
      have hi : ∀ W, (Instr.index 9 (.string t) (.int .i64 ((t.size : Int) - 1))).run Tryz.prog W = .ok (.int .u8 (c.toNat : Int)) W := by
        intro W
        have e : ((t.size : Int) - 1) = ((t.size - 1 : Nat) : Int) := by omega
        rw [e]
        go_simp
      have hsl : ∀ W, (Instr.slice 9 (.string t) none (some (.int .i64 ((t.size : Int) - 1))) none).run Tryz.prog W = .ok (.string (t.extract 0 (t.size - 1))) W := by
        intro W
        have e : ((t.size : Int) - 1) = ((t.size - 1 : Nat) : Int) := by omega
        rw [e]
        go_simp
      clear hc hlt
      by_cases hz : c = 0
      · have hz' : ((c.toNat : Int) == 0) = true := by rw [hz]; rfl
        have HT2 : Hid (zR (t.extract 0 (t.size - 1)).data.toList = R) := by
          unfold Hid
          rw [← HT.out, hl, zR_zero _ _ hz]
        clear hl hz
        go_wp2
        go_round
        case rel => exact ⟨_, rfl, by simp; omega, HT2⟩
        case measure => simp; omega
      · have hz' : ((c.toNat : Int) == 0) = false := byte_ne _ hz
        have HT2 : Hid (t.data.toList = R) := by
          unfold Hid
          rw [← HT.out, hl, zR_stop _ _ hz]
        clear hl hz
        go_wp2
        go_ret
        exact ⟨⟨t, rfl, HT2.out⟩, rfl⟩
    · have h0' : decide (0 < (t.size : Int)) = false := decide_eq_false (by omega)
      have HT2 : Hid (t.data.toList = R) := by
        unfold Hid
        have : t.data.toList = [] := List.eq_nil_of_length_eq_zero (by rw [len_list]; omega)
        rw [← HT.out, this]; rfl
      go_wp2
      go_ret
      exact ⟨⟨t, rfl, HT2.out⟩, rfl⟩

theorem zL_nil (l : List UInt8) : zL l = [] ↔ ∀ c ∈ l, c = 0 := by
  induction l with
  | nil => simp [zL]
  | cons c l ih =>
    by_cases h : c = 0
    · rw [zL_zero _ _ h, ih]; simp [h]
    · rw [zL_stop _ _ h]; simp [h]
theorem zR_nil (l : List UInt8) : zR l = [] ↔ ∀ c ∈ l, c = 0 := by
  unfold zR
  rw [List.reverse_eq_nil_iff, zL_nil]
  simp
theorem zLR_nil (l : List UInt8) : zL (zR l) = [] ↔ l.all (· == 0) = true := by
  rw [zL_nil, List.all_eq_true]
  constructor
  · intro h
    have : zL l.reverse = [] := by
      by_cases hq : zL l.reverse = []
      · exact hq
      · exfalso
        have h1 := List.head_dropWhile_not (p := fun c : UInt8 => c == 0) (l := l.reverse) hq
        have h2 := h (zL l.reverse |>.head hq) (by unfold zR; rw [List.mem_reverse]; exact List.head_mem _)
        rw [show (List.dropWhile (fun c : UInt8 => c == 0) l.reverse).head hq = (zL l.reverse).head hq from rfl, h2] at h1
        simp at h1
    intro c hc
    have := (zL_nil _).1 this c (by simpa using hc)
    simpa using this
  · intro h
    have h' : zR l = [] := (zR_nil l).2 (fun c hc => by simpa using h c hc)
    rw [h']; intro c hc; cases hc

def mkB (l : List UInt8) : ByteArray := ⟨l.toArray⟩
theorem mkB_list (l : List UInt8) : (mkB l).data.toList = l := rfl
theorem mkB_size (l : List UInt8) : (mkB l).size = l.length := by rw [← len_list]; rfl
theorem eq_mkB {t : ByteArray} {l : List UInt8} (h : t.data.toList = l) : t = mkB l := by
  subst h; rfl
theorem trimLeft77' (s : ByteArray) (w : World) :
    Calls Tryz.prog 218 #[.string s, .int .u8 0] w fun e w' => e = .returned (.string (mkB (zL s.data.toList))) ∧ w = w' :=
  (trimLeft77 s w).mono fun _ _ ⟨⟨_, h1, h2⟩, h3⟩ => ⟨by rw [h1, eq_mkB h2], h3⟩
theorem trimRight78' (s : ByteArray) (hs : s.size ≤ 1000) (w : World) :
    Calls Tryz.prog 219 #[.string s, .int .u8 0] w fun e w' => e = .returned (.string (mkB (zR s.data.toList))) ∧ w = w' :=
  (trimRight78 s hs w).mono fun _ _ ⟨⟨_, h1, h2⟩, h3⟩ => ⟨by rw [h1, eq_mkB h2], h3⟩

def trimB (s : ByteArray) : ByteArray := if s.size = 0 then s else mkB (zL (mkB (zR s.data.toList)).data.toList)
theorem trimB_empty (s : ByteArray) : (trimB s).toList.isEmpty = s.data.toList.all (· == 0) := by
  unfold trimB
  by_cases h0 : s.size = 0
  · have hl : s.data.toList = [] := List.eq_nil_of_length_eq_zero (by rw [len_list]; exact h0)
    rw [if_pos h0, ByteArray.toList_eq, hl]; rfl
  · rw [if_neg h0, ByteArray.toList_eq, mkB_list, mkB_list, Bool.eq_iff_iff, List.isEmpty_iff, zLR_nil]
theorem trim73 (s : ByteArray) (hs : s.size ≤ 1000) (w : World) :
    Calls Tryz.prog 211 #[.string s, .string ⟨#[0]⟩] w fun e w' => e = .returned (.string (trimB s)) ∧ ∃ m, w' = w.drewN m := by
  obtain ⟨R, hR⟩ : ∃ R, trimB s = R := ⟨_, rfl⟩
  rw [hR]
  unfold trimB at hR
  by_cases h0 : s.size = 0
  · rw [if_pos h0] at hR
    subst hR
    have hl : s.data.toList = [] := List.eq_nil_of_length_eq_zero (by rw [len_list]; exact h0)
    have he : s.toList.isEmpty = true := by rw [ByteArray.toList_eq, hl]; rfl
    have he2 : s.toList = [] := by rw [ByteArray.toList_eq, hl]
    clear hl
    go_enter Tryz.func211, Tryz.ntmps211
    go_wp2
    go_ret
    exact ⟨rfl, 0, rfl⟩
  · rw [if_neg h0] at hR
    have he2 : ¬ s.toList = [] := by
      intro h
      have := congrArg List.length h
      rw [ByteArray.toList_eq, len_list] at this
      exact h0 this
    have he : s.toList.isEmpty = false := by simpa using he2
    have HR := Lib.hid (trimRight78' s hs)
    have HL := Lib.hid (trimLeft77' (mkB (zR s.data.toList)))
    rw [hR] at HL
    generalize mkB (zR s.data.toList) = t at HR HL
    have hx : ∀ W, (Instr.index 9 (.string ⟨#[0]⟩) (.int .i64 0)).run Tryz.prog W = .ok (.int .u8 0) W := fun W => rfl
    clear h0 hR
    go_enter Tryz.func211, Tryz.ntmps211
    go_wp2
    go_quiet (first | (go_at_call 219; exact quietS (HR.out _)) | (go_at_call 218; exact quietS (HL.out _)))
    go_wp2
    go_ret
    exact ⟨rfl, _, rfl⟩
end Go.Proofs.YtjanddnlhaionaaGreatDoor.L6
namespace Go.Proofs.YtjanddnlhaionaaGreatDoor.L6
open Go.RowKit

theorem Tryz.info5 : (Tryz.prog.info? 5).map (fun i => (i.zero, i.size, i.bytes)) = some (some (.int .u8 0), 1, 1) := by kernel_rfl
theorem info5 : ∃ i, Tryz.prog.info? 5 = some i ∧ i.zero = some (.int .u8 0) ∧ i.size = 1 ∧ i.bytes = 1 := by
  have h := Tryz.info5
  cases hq : Tryz.prog.info? 5 with
  | none => simp [hq] at h
  | some i =>
    simp [hq] at h
    exact ⟨i, rfl, h.1, h.2.1, h.2.2⟩
theorem size5 : (Tryz.prog.info? 5).map (·.size) = some 1 := by kernel_rfl
theorem size72 : (Tryz.prog.info? 144).map (·.size) = some 64 := by kernel_rfl
theorem size74 : (Tryz.prog.info? 146).map (·.size) = some 65 := by kernel_rfl

theorem strOf_bytes (l : List UInt8) : strOfNums (l.map fun c => (c.toNat : Int)) = ⟨l.toArray⟩ := by
  unfold strOfNums
  congr 1
  rw [List.map_map]
  have : ((fun n : Int => UInt8.ofNat n.toNat) ∘ fun c : UInt8 => (c.toNat : Int)) = id := by
    funext c; simp
  rw [this, List.map_id]
theorem str_eta (s : ByteArray) : (⟨s.data.toList.toArray⟩ : ByteArray) = s := by cases s; simp

theorem conv_range (w : World) (g n cap : Nat) (s : ByteArray) (hn : n = s.size) (h : w.rangeAt g 0 (secC s)) :
    (convert 124 9 (.slice (some ⟨g, 0, none⟩) n cap)).run Tryz.prog w = .ok (.string s) w := by
  subst hn
  have hl : s.data.toList.length = s.size := by simp
  have e : s = strOfNums (s.data.toList.map fun c => (c.toNat : Int)) := by rw [strOf_bytes, str_eta]
  have := run_convert_bytes_arg w 124 5 Tryz.underlying124 Tryz.underlying5 g 0 (s.size) cap (s.data.toList.map fun c => (c.toNat : Int)) (by simp) (fun i hi => by
    have hi' : i < s.data.toList.length := by simpa using hi
    exact h i _ (by simp [secC, bytesV, List.getElem?_eq_getElem hi'])) 9 Tryz.underlying9
  rw [← e] at this
  exact this

theorem range_alloc (w : World) (cs : List Value) (t : TypeId) : (w.alloc (.cells cs.toArray t)).rangeAt w.heap.size 0 cs := by
  intro j v hv
  rw [Nat.zero_add]
  refine cell_row (heap_alloc_new w _) ?_
  simpa using hv

set_option maxHeartbeats 400000 in
theorem text36 (s : ByteArray) (hs : s.size = 64) (w : World) :
    Calls Tryz.prog 217 #[.agg (secC s).toArray] w fun e w' => e = .returned (.string s) ∧ Below w.heap.size w w' := by
  have hc := conv_range (w.alloc (.cells (secC s).toArray 144)) w.heap.size 64 64 s hs.symm (range_alloc w _ _)
  have hl : (secC s).toArray.size = 64 := by simp [secC_len, hs]
  have hb : Below w.heap.size w (w.alloc (.cells (secC s).toArray 144)) := (Below.refl _ _).alloc (Nat.le_refl _) _
  generalize (secC s).toArray = X at hc hl hb ⊢
  have HB := Lib.hid hb
  clear hb hs
  go_enter Tryz.func217, Tryz.ntmps217
  go_wp2
  go_ret
  exact ⟨rfl, HB.out⟩

/-! ### sectorOf -/
theorem run_copy_str {P : Program} (w : World) (dT sT ty elem : TypeId) (g o dLen dCap : Nat) (t : ByteArray) (cur : List Value) (tt : TypeId) (n : Nat) (hu : P.underlying dT = some (.slice elem)) (hs : (P.info? elem).map (·.size) = some 1)
    (hn : n = Nat.min t.size dLen) (hg : w.heap[g]? = some (.cells cur.toArray tt (0, 0))) (hfit : o + n ≤ cur.length) :
    (Builtin.copy_ #[dT, sT] ty #[.slice (some ⟨g, o, none⟩) dLen dCap, .string t]).run P w = .ok (.int .i64 (n : Int)) (w.setRow g (cur.take o ++ bytesV (t.data.toList.take n) ++ cur.drop (o + n)).toArray) := by
  have hts : t.data.toList.length = t.size := by simp
  have hnt : n ≤ t.size := by rw [hn]; exact Nat.min_le_left _ _
  have hl : (bytesV (t.data.toList.take n)).length = n := by rw [bytesV_len, List.length_take, hts]; omega
  have hst := run_storeCells_at P g o tt (bytesV (t.data.toList.take n)) 0 cur.toArray w hg (by rw [hl]; simpa using hfit) (bytes_oneCell _)
  cases hq : P.info? elem with
  | none => simp [hq] at hs
  | some i =>
    have hmin : min t.size dLen = n := hn.symm
    have hb : List.map (fun b : UInt8 => Value.int .u8 (b.toNat : Int)) (List.take n t.data.toList) = bytesV (t.data.toList.take n) := rfl
    rw [hl] at hst
    simp [Builtin.copy_, run_underlying hu, Builtin.lenOf, Builtin.firstCells, sizeOf, typeInfo, hq, hmin, goInt]
    rw [← List.map_take, hb]
    simp only [Nat.add_zero] at hst
    rw [hst]
    simp

def z64c : List Value := List.replicate 64 (.int .u8 0)
theorem zero72 : (∀ w, (zeroValue 144).run Tryz.prog w = .ok (.agg z64c.toArray) w) ∧ (Tryz.prog.info? 144).map (·.size) = some 64 :=
  zero_of_info (by kernel_rfl)

theorem secC_oneCell (s : ByteArray) : (secC s).toArray.all (·.oneCell') = true := by
  rw [Array.all_eq_true_iff_forall_mem]
  intro v hv
  exact bytes_oneCell _ v (by simpa [secC] using hv)

set_option maxHeartbeats 800000 in
theorem sectorOf38 (s : ByteArray) (hs : s.size = 64) (w : World) :
    Calls Tryz.prog 214 #[.string s] w fun e w' => e = .returned (.agg (secC s).toArray) ∧ Below w.heap.size w w' := by
  have hz := zero72.1
  have hzl : z64c.length = 64 := by simp [z64c]
  generalize z64c = Z at hz hzl
  have HI72 := Lib.hid size72
  have HI5 := Lib.hid size5
  have hcopy : (Z.take 0 ++ bytesV (s.data.toList.take 64) ++ Z.drop (0 + 64)).toArray = (secC s).toArray := by
    rw [List.take_zero, List.nil_append, List.drop_of_length_le (by omega), List.append_nil, List.take_of_length_le (by simp; omega)]
    rfl
  have HCP := Lib.hid hcopy
  have HL : Hid ((secC s).toArray.size = 64) := by unfold Hid; simp [secC_len, hs]
  have H1 := Lib.hid (secC_oneCell s)
  have HS := Lib.hid hs
  generalize (secC s).toArray = X at HCP HL H1 ⊢
  have HZ := Lib.hid hzl
  clear hcopy hzl hs
  have hg2 : ((w.alloc (.cells Z.toArray 144)).alloc (.cells Z.toArray 144)).heap[w.heap.size + 1]? = some (.cells Z.toArray 144 (0, 0)) := by have := heap_alloc_new (w.alloc (.cells Z.toArray 144)) (.cells Z.toArray 144); simpa using this
  have hg2' : ((w.alloc (.cells Z.toArray 144)).alloc (.cells Z.toArray 144)).heap[w.heap.size]? = some (.cells Z.toArray 144 (0, 0)) := by rw [Below.heap_alloc _ _ _ (by simp)]; exact heap_alloc_new _ _
  have hcp := run_copy_str (P := Tryz.prog) ((w.alloc (.cells Z.toArray 144)).alloc (.cells Z.toArray 144)) 124 9 3 5 (w.heap.size + 1) 0 64 64 s Z 144 64 Tryz.underlying124 HI5.out (by rw [HS.out]; rfl) hg2 (by rw [HZ.out]; omega)
  rw [HCP.out] at hcp
  have HG3 := Lib.hid (setRow_heap _ _ _ X _ _ hg2)
  have HG3' : Hid ((((w.alloc (.cells Z.toArray 144)).alloc (.cells Z.toArray 144)).setRow (w.heap.size + 1) X).heap[w.heap.size]? = some (.cells Z.toArray 144 (0, 0))) := by unfold Hid; rw [setRow_other _ _ _ _ (by omega)]; exact hg2'
  have HB3 : Hid (Below w.heap.size w (((w.alloc (.cells Z.toArray 144)).alloc (.cells Z.toArray 144)).setRow (w.heap.size + 1) X)) := below_setRow (((Below.refl _ _).alloc (Nat.le_refl _) _).alloc (by simp) _) (by omega) _
  generalize ((w.alloc (.cells Z.toArray 144)).alloc (.cells Z.toArray 144)).setRow (w.heap.size + 1) X = w3 at HG3 HG3' HB3 hcp
  have HB4 : Hid (Below w.heap.size w (w3.setRow w.heap.size X)) := below_setRow HB3.out (Nat.le_refl _) _
  have HG4 := Lib.hid (setRow_heap w3 _ _ X _ _ HG3'.out)
  clear hg2 hg2'
  go_enter Tryz.func214, Tryz.ntmps214
  go_wp2_with (first | (refine wpList_load_row rfl 144 _ rfl (w.heap.size + 1) rfl 144 _ (0, 0) _ HG3.out Tryz.underlying144 rfl (by rw [HL.out]; exact HI72.out) ?_) | (refine wpList_store_row rfl 144 _ _ rfl w.heap.size _ rfl rfl 144 _ HG3'.out (by rw [HL.out]; exact HI72.out) (by rw [HL.out]; simpa using HZ.out) H1.out ?_))
  exact bodyPost_ret (v := .agg X) (results_cell_row rfl _ _ w.heap.size 144 X (0, 0) _ rfl HG4.out Tryz.underlying144 rfl (by rw [HL.out]; exact HI72.out)) rfl ⟨rfl, HB4.out⟩

/-! ### The statements' sector -/
def padS (s : ByteArray) : ByteArray := ⟨(s.data.toList.take 64 ++ List.replicate (64 - s.size) 0).toArray⟩
end Go.Proofs.YtjanddnlhaionaaGreatDoor.L6
