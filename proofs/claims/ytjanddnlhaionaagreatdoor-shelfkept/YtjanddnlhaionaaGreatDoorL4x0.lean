/-
  Cells as plain data and in memory; the contracts of few, small and Same. No condition. The contracts of small, Same, and of the program's and the document's Check. No condition. The contracts of isValid, areValid and Check. No condition. Bytes of the call's own; the contracts of Check, width, appendBase and markAndBase. No condition. The contracts of appendCell, Put, size and Size. No condition but bounds on lengths.
-/
import Derived.Test.YtjanddnlhaionaaGreatDoorRows
import Derived.WalkKit
import Derived.WalkSpells
import Derived.WalkLawsBesides
import Derived.Lib.Hide
import Derived.Deep.QuietTactic
import Derived.BigQuiet
import Derived.IntWalk
import Derived.StillTailTactics
import Derived.Laws.BytesString
import Derived.Laws.BytesArg
import Derived.WalkSmall
import Derived.Lib.AppendStr
import Derived.Lib.OthersKept
set_option maxRecDepth 100000
namespace Go.Proofs.YtjanddnlhaionaaGreatDoor.L4
open Go.RowKit

inductive C where
  | mk (k n : Int) (s : ByteArray) (l : List C)
def C.k : C → Int | .mk k _ _ _ => k
def C.n : C → Int | .mk _ n _ _ => n
def C.s : C → ByteArray | .mk _ _ s _ => s
def C.l : C → List C | .mk _ _ _ l => l
theorem k_mk (k n : Int) (s : ByteArray) (l : List C) : (C.mk k n s l).k = k := rfl
theorem n_mk (k n : Int) (s : ByteArray) (l : List C) : (C.mk k n s l).n = n := rfl
theorem s_mk (k n : Int) (s : ByteArray) (l : List C) : (C.mk k n s l).s = s := rfl
theorem l_mk (k n : Int) (s : ByteArray) (l : List C) : (C.mk k n s l).l = l := rfl

/-- The numbers of a cell are ints, and its string is not too long for one. -/
structure Wf (c : C) : Prop where
  k0 : -9223372036854775808 ≤ c.k
  k1 : c.k ≤ 9223372036854775807
  n0 : -9223372036854775808 ≤ c.n
  n1 : c.n ≤ 9223372036854775807
  s1 : c.s.size ≤ 9223372036854775807

def cellV (c : C) (u : Value) : Value := .agg #[.int .i64 c.k, .int .i64 c.n, .string c.s, u]
def cellsV (c : C) (u : Value) : Array Value := #[.int .i64 c.k, .int .i64 c.n, .string c.s, u]

structure RowAt (w : World) (b o : Nat) (c : C) (u : Value) : Prop where
  c0 : w.cell? ⟨b, o, none⟩ = some (.int .i64 c.k)
  c1 : w.cell? ⟨b, o + 1, none⟩ = some (.int .i64 c.n)
  c2 : w.cell? ⟨b, o + 2, none⟩ = some (.string c.s)
  c3 : w.cell? ⟨b, o + 3, none⟩ = some u

theorem RowAt.keep {w w' : World} {b o : Nat} {c : C} {u : Value} (h : RowAt w b o c u) (hk : ∀ o, w'.cell? ⟨b, o, none⟩ = w.cell? ⟨b, o, none⟩) : RowAt w' b o c u :=
  ⟨(hk _).trans h.c0, (hk _).trans h.c1, (hk _).trans h.c2, (hk _).trans h.c3⟩

/-- The slice v reads as the cells l, below block B, in at most d levels. -/
def LAt (w : World) (B : Nat) : Nat → Value → List C → Prop
  | 0, _, _ => False
  | d + 1, v, l => ∃ A cap, v = .slice A l.length cap ∧ l.length ≤ cap ∧ cap ≤ maxLen ∧ (0 < l.length → ∃ b o, A = some ⟨b, o, none⟩ ∧ b < B ∧ ∀ i (h : i < l.length), ∃ u, RowAt w b (o + i * 4) l[i] u ∧ Wf l[i] ∧ LAt w B d u l[i].l)

theorem LAt.keep {w w' : World} {B : Nat} (hk : ∀ b o, b < B → w'.cell? ⟨b, o, none⟩ = w.cell? ⟨b, o, none⟩) : ∀ {d : Nat} {v : Value} {l : List C}, LAt w B d v l → LAt w' B d v l
  | 0, _, _, h => h
  | d + 1, v, l, h => by
    obtain ⟨A, cap, rfl, h1, h2, h3⟩ := h
    refine ⟨A, cap, rfl, h1, h2, fun hl => ?_⟩
    obtain ⟨b, o, rfl, hb, hr⟩ := h3 hl
    refine ⟨b, o, rfl, hb, fun i hi => ?_⟩
    obtain ⟨u, r, f, s⟩ := hr i hi
    exact ⟨u, r.keep fun o => hk b o hb, f, LAt.keep hk s⟩
theorem LAt.below {w w' : World} {B d : Nat} {v : Value} {l : List C} (h : LAt w B d v l) (hb : Below B w w') : LAt w' B d v l :=
  h.keep fun b o hl => hb.cell (p := ⟨b, o, none⟩) hl
theorem LAt.more {w : World} {B B' : Nat} (hB : B ≤ B') : ∀ {d : Nat} {v : Value} {l : List C}, LAt w B d v l → LAt w B' d v l
  | 0, _, _, h => h
  | d + 1, v, l, h => by
    obtain ⟨A, cap, rfl, h1, h2, h3⟩ := h
    refine ⟨A, cap, rfl, h1, h2, fun hl => ?_⟩
    obtain ⟨b, o, rfl, hb, hr⟩ := h3 hl
    refine ⟨b, o, rfl, by omega, fun i hi => ?_⟩
    obtain ⟨u, r, f, s⟩ := hr i hi
    exact ⟨u, r, f, LAt.more hB s⟩
theorem LAt.step {w w' : World} {d : Nat} {v : Value} {l : List C} (h : LAt w w.heap.size d v l) (hb : Below w.heap.size w w') : LAt w' w'.heap.size d v l :=
  (h.below hb).more hb.size
theorem drop_get {α : Type} (l : List α) (k : Nat) (h : k < l.length) : l.drop k = l[k] :: l.drop (k + 1) := List.drop_eq_getElem_cons h
theorem below_drewN {B : Nat} {a w : World} (h : Below B a w) (n : Nat) : Below B a (w.drewN n) := ⟨h.os, h.tape, h.output, h.size, h.block⟩

/-- A boxed cell, and all that lay below it, in a later world. -/
structure Box (w : World) (c : C) (u : Value) (w' : World) : Prop where
  below : Below (w.heap.size + 1) (w.alloc (.cells (cellsV c u) 38)) w'
theorem Box.new (w : World) (c : C) (u : Value) : Box w c u (w.alloc (.cells (cellsV c u) 38)) := ⟨Below.refl _ _⟩
theorem Box.old {w : World} {c : C} {u : Value} {w' : World} (h : Box w c u w') : Below w.heap.size w w' :=
  ((Below.refl _ w).alloc (Nat.le_refl _) _).trans (h.below.mono (by omega))
theorem Box.size {w : World} {c : C} {u : Value} {w' : World} (h : Box w c u w') : w.heap.size < w'.heap.size := by
  have := h.below.size
  simp at this
  omega
theorem Box.step {w : World} {c : C} {u : Value} {w' w'' : World} (h : Box w c u w') (hb : Below w'.heap.size w' w'') : Box w c u w'' :=
  ⟨h.below.trans (hb.mono h.size)⟩
theorem Box.cell {w : World} {c : C} {u : Value} {w' : World} (h : Box w c u w') (j : Nat) : w'.cell? ⟨w.heap.size, j, none⟩ = (cellsV c u)[j]? := by
  rw [h.below.cell (p := ⟨w.heap.size, j, none⟩) (show w.heap.size < w.heap.size + 1 from Nat.lt_succ_self _)]
  exact World.cell?_alloc_at _ 38 _ _ rfl
theorem Box.drewN {w : World} {c : C} {u : Value} {w' : World} (h : Box w c u w') (n : Nat) : Box w c u (w'.drewN n) := ⟨below_drewN h.below n⟩

def fewF (f : C → Int → Int) (r : Int) (x : C) : Int := if 0 < r then f x r else r
def fewM : Nat → C → Int → Int
  | 0, _, _ => 0
  | d + 1, c, left => if left - 1 - c.s.size / 100 < 1 then 0 else c.l.foldl (fewF (fewM d)) (left - 1 - c.s.size / 100)

theorem few_stop (f : C → Int → Int) : ∀ (l : List C) (r : Int), ¬ 0 < r → l.foldl (fewF f) r = r
  | [], _, _ => rfl
  | x :: l, r, h => by rw [List.foldl_cons]; unfold fewF; rw [if_neg h]; exact few_stop f l r h

end Go.Proofs.YtjanddnlhaionaaGreatDoor.L4
namespace Go.Proofs.YtjanddnlhaionaaGreatDoor.L4
open Go.RowKit

noncomputable def sameB (a b : C) : Bool := @decide (a = b) (Classical.propDecidable _)
noncomputable def sameLB (a b : List C) : Bool := @decide (a = b) (Classical.propDecidable _)
theorem sameB_iff {a b : C} : sameB a b = true ↔ a = b := by unfold sameB; simp
theorem sameLB_iff {a b : List C} : sameLB a b = true ↔ a = b := by unfold sameLB; simp
theorem sameB_self (a : C) : sameB a a = true := sameB_iff.2 rfl
theorem sameB_ne {a b : C} (h : a ≠ b) : sameB a b = false := by cases e : sameB a b; rfl; exact absurd (sameB_iff.1 e) h
theorem sameB_mk (k n : Int) (s : ByteArray) (l l' : List C) : sameB (.mk k n s l) (.mk k n s l') = sameLB l l' := by
  rw [Bool.eq_iff_iff, sameB_iff, sameLB_iff]; simp
theorem sameLB_cons (x y : C) (l l' : List C) : sameLB (x :: l) (y :: l') = (sameB x y && sameLB l l') := by
  rw [Bool.eq_iff_iff, Bool.and_eq_true, sameLB_iff, sameB_iff, sameLB_iff]; simp

theorem bytes_ext {a b : ByteArray} (h : a.toList = b.toList) : a = b := by
  rw [ByteArray.toList_eq, ByteArray.toList_eq] at h
  cases a; cases b
  simp only at h
  congr 1
  exact Array.toList_inj.1 h

/-- Two boxed cells, in a later world. -/
structure Box2 (w : World) (c : C) (u : Value) (c' : C) (u' : Value) (w' : World) : Prop where
  below : Below (w.heap.size + 2) ((w.alloc (.cells (cellsV c u) 38)).alloc (.cells (cellsV c' u') 38)) w'
theorem Box2.new (w : World) (c : C) (u : Value) (c' : C) (u' : Value) : Box2 w c u c' u' ((w.alloc (.cells (cellsV c u) 38)).alloc (.cells (cellsV c' u') 38)) := ⟨Below.refl _ _⟩
theorem Box2.old {w : World} {c : C} {u : Value} {c' : C} {u' : Value} {w' : World} (h : Box2 w c u c' u' w') : Below w.heap.size w w' :=
  (((Below.refl _ w).alloc (Nat.le_refl _) _).alloc (by simp) _).trans (h.below.mono (by omega))
theorem Box2.size {w : World} {c : C} {u : Value} {c' : C} {u' : Value} {w' : World} (h : Box2 w c u c' u' w') : w.heap.size + 1 < w'.heap.size := by
  have := h.below.size
  simp at this
  omega
theorem Box2.step {w : World} {c : C} {u : Value} {c' : C} {u' : Value} {w' w'' : World} (h : Box2 w c u c' u' w') (hb : Below w'.heap.size w' w'') : Box2 w c u c' u' w'' :=
  ⟨h.below.trans (hb.mono h.size)⟩
theorem Box2.cell {w : World} {c : C} {u : Value} {c' : C} {u' : Value} {w' : World} (h : Box2 w c u c' u' w') (j : Nat) : w'.cell? ⟨w.heap.size, j, none⟩ = (cellsV c u)[j]? := by
  rw [h.below.cell (p := ⟨w.heap.size, j, none⟩) (show w.heap.size < w.heap.size + 2 by omega), World.cell?_alloc_past _ _ _ (by simp)]
  exact World.cell?_alloc_at _ 38 _ _ rfl
theorem Box2.cell' {w : World} {c : C} {u : Value} {c' : C} {u' : Value} {w' : World} (h : Box2 w c u c' u' w') (j : Nat) : w'.cell? ⟨w.heap.size + 1, j, none⟩ = (cellsV c' u')[j]? := by
  rw [h.below.cell (p := ⟨w.heap.size + 1, j, none⟩) (show w.heap.size + 1 < w.heap.size + 2 by omega)]
  have e : w.heap.size + 1 = (w.alloc (.cells (cellsV c u) 38)).heap.size := by simp
  rw [e]
  exact World.cell?_alloc_at _ 38 _ _ rfl
theorem Box2.drewN {w : World} {c : C} {u : Value} {c' : C} {u' : Value} {w' : World} (h : Box2 w c u c' u' w') (n : Nat) : Box2 w c u c' u' (w'.drewN n) := ⟨below_drewN h.below n⟩

end Go.Proofs.YtjanddnlhaionaaGreatDoor.L4
namespace Go.Proofs.YtjanddnlhaionaaGreatDoor.L4
open Go.RowKit

/-- Is a cell valid, with so many levels left? -/
def okC : Nat → C → Bool
  | 0, _ => false
  | d + 1, .mk k n s l =>
    if k = 1 then s.toList.isEmpty && decide (l.length = 0)
    else if k = 2 then decide (n = 0) && (decide (l.length = 0) && decide (s.size ≤ 65535))
    else if k = 3 then decide (n = 0) && (s.toList.isEmpty && (decide (l.length ≤ 4095) && l.all (okC d)))
    else false
theorem LAt.slice {w : World} {B d : Nat} {u : Value} {l : List C} (h : LAt w B d u l) : ∃ A cap, u = .slice A l.length cap := by
  cases d with
  | zero => exact h.elim
  | succ d => obtain ⟨A, cap, e, _⟩ := h; exact ⟨A, cap, e⟩
theorem okC_succ (d : Nat) (k n : Int) (s : ByteArray) (l : List C) : okC (d + 1) (.mk k n s l) =
    if k = 1 then s.toList.isEmpty && decide (l.length = 0)
    else if k = 2 then decide (n = 0) && (decide (l.length = 0) && decide (s.size ≤ 65535))
    else if k = 3 then decide (n = 0) && (s.toList.isEmpty && (decide (l.length ≤ 4095) && l.all (okC d)))
    else false := rfl

set_option maxHeartbeats 1000000 in
theorem areValid38 (d : Nat)
    (ih : ∀ (left level : Nat) (ck cn : Int) (cs : ByteArray) (cl : List C) (u : Value) (w : World), LAt w w.heap.size d u cl → level + left = 17 →
      Calls Tryz.prog 136 #[.agg #[.int .i64 ck, .int .i64 cn, .string cs, u], .int .i64 level] w fun e w' => e = .returned (.bool (okC left (.mk ck cn cs cl))) ∧ Below w.heap.size w w')
    (left level : Nat) (l : List C) (v : Value) (w : World) (h : LAt w w.heap.size (d + 1) v l) (hl : level + left = 17) :
    Calls Tryz.prog 173 #[v, .int .i64 level] w fun e w' => e = .returned (.bool (l.all (okC left))) ∧ Below w.heap.size w w' := by
  have HL := Lib.hid h
  have HIH := Lib.hid ih
  obtain ⟨A, cap, rfl, h1, h2, h3⟩ := h
  unfold maxLen at h2
  obtain ⟨q, hq⟩ : ∃ q, l.all (okC left) = q := ⟨_, rfl⟩
  rw [hq]
  have HQ := Lib.hid hq
  clear hq h3 ih
  go_enter Tryz.func173, Tryz.ntmps173
  go_wp2_with fail
  go_loopw [9] (fun s9 wr => ∃ (k : Nat), k ≤ l.length ∧ s9 = .int .i64 k ∧ Below w.heap.size w wr ∧ Hid ((l.drop k).all (okC left) = q)) (fun s9 _ => l.length - (intOf s9).toNat)
  case atStart => exact ⟨0, Nat.zero_le _, rfl, Below.refl _ _, HQ.out⟩
  case round =>
    obtain ⟨k, hk, rfl, hbw, HK⟩ := hrel
    have HBW := Lib.hid hbw
    have hL2 := HL.out.step hbw
    clear hbw
    by_cases hlt : k < l.length
    · obtain ⟨A', cap', e', -, -, h3⟩ := hL2
      injection e' with e1 e2 e3
      subst e1 e3
      obtain ⟨b, o, rfl, hb, hr⟩ := h3 (by omega)
      have hd := drop_get l k hlt
      obtain ⟨u, hr, hwf, hsub⟩ := hr k hlt
      generalize l[k] = x at hd hr hwf hsub
      obtain ⟨xk, xn, xs, xl⟩ := x
      obtain ⟨c0, c1, c2, c3⟩ := hr
      simp only [k_mk, n_mk, s_mk, l_mk] at c0 c1 c2 c3 hsub
      obtain ⟨A2, cap2, rfl⟩ := hsub.slice
      generalize hxl : xl.length = xn2 at c3 hsub
      clear hxl
      have HX := Lib.hid (Box.new wr (.mk xk xn xs xl) (.slice A2 xn2 cap2))
      have HC := Lib.hid (HIH.out left level xk xn xs xl (.slice A2 xn2 cap2) (wr.alloc (.cells #[.int .i64 xk, .int .i64 xn, .string xs, .slice A2 xn2 cap2] 38)) (hsub.step HX.out.old) hl)
      have HS : Hid ((okC left (.mk xk xn xs xl) && (l.drop (k + 1)).all (okC left)) = q) := by
        unfold Hid
        rw [← HK.out, hd, List.all_cons]
      generalize okC left (.mk xk xn xs xl) = t at HC HS
      clear h3 e2 hwf hd HK hsub
      cases t with
      | false =>
        have hq : q = false := by rw [← HS.out]; rfl
        subst hq
        go_wp2_with (go_at_call 136; refine (HC.out).mono ?_; rintro e w' ⟨rfl, hbel⟩)
        have HY := Lib.hid (HBW.out.trans ((HX.out.step hbel).old.mono HBW.out.size))
        clear hbel
        go_wp2_with fail
        go_ret
        exact ⟨rfl, HY.out⟩
      | true =>
        have HN : Hid ((l.drop (k + 1)).all (okC left) = q) := by unfold Hid; rw [← HS.out]; simp
        clear HS
        go_wp2_with (go_at_call 136; refine (HC.out).mono ?_; rintro e w' ⟨rfl, hbel⟩)
        have HY := Lib.hid (HBW.out.trans ((HX.out.step hbel).old.mono HBW.out.size))
        clear hbel
        go_wp2_with fail
        go_roundw
        case rel => exact ⟨k + 1, by omega, by go_num, HY.out, HN.out⟩
        case measure => simp [intOf]; omega
    · have hq : q = true := by rw [← HK.out, List.drop_of_length_le (by omega)]; rfl
      subst hq
      clear HK
      go_wp2_with fail
      go_ret
      exact ⟨rfl, HBW.out⟩

set_option maxHeartbeats 1000000 in
theorem valid27 (d : Nat) : ∀ (left level : Nat) (ck cn : Int) (cs : ByteArray) (cl : List C) (u : Value) (w : World), LAt w w.heap.size d u cl → level + left = 17 →
      Calls Tryz.prog 136 #[.agg #[.int .i64 ck, .int .i64 cn, .string cs, u], .int .i64 level] w fun e w' => e = .returned (.bool (okC left (.mk ck cn cs cl))) ∧ Below w.heap.size w w' := by
  induction d with
  | zero => intro left level ck cn cs cl u w h; exact h.elim
  | succ d ih =>
    intro left level ck cn cs cl u w h hll
    have HB := Lib.hid (Box.new w (.mk ck cn cs cl) u)
    have HA := Lib.hid (fun (left' : Nat) (hl' : (level + 1) + left' = 17) => areValid38 d ih left' (level + 1) cl u (w.alloc (.cells #[.int .i64 ck, .int .i64 cn, .string cs, u] 38)) (h.step HB.out.old) hl')
    obtain ⟨A, cap, rfl, h1, h2, h3⟩ := h
    unfold maxLen at h2
    obtain ⟨q, hq⟩ : ∃ q, okC left (.mk ck cn cs cl) = q := ⟨_, rfl⟩
    rw [hq]
    have HQ := Lib.hid hq
    clear hq h3 ih
    cases left with
    | zero =>
      have hq : q = false := HQ.out.symm
      subst hq
      have hlv : (16 : Int) < level := by omega
      go_enter Tryz.func136, Tryz.ntmps136
      go_wp2_with fail
      go_ret
      exact ⟨rfl, HB.out.old⟩
    | succ left =>
      have hlv : ¬ (16 : Int) < level := by omega
      rw [Hid, okC_succ] at HQ
      by_cases k1 : ck = 1
      · subst k1
        rw [if_pos rfl] at HQ
        cases hE : cs.toList.isEmpty with
        | false =>
          have hq : q = false := by rw [← HQ, hE]; rfl
          subst hq
          clear HQ
          go_enter Tryz.func136, Tryz.ntmps136
          go_wp2_with fail
          go_ret
          exact ⟨rfl, HB.out.old⟩
        | true =>
          rw [hE, Bool.true_and] at HQ
          have hq : decide ((cl.length : Int) = 0) = q := by rw [← HQ]; congr 1; simp
          subst hq
          clear HQ
          go_enter Tryz.func136, Tryz.ntmps136
          go_wp2_with fail
          go_ret
          refine ⟨?_, HB.out.old⟩
          first | rfl | simp [BEq.beq]
      · rw [if_neg k1] at HQ
        by_cases k2 : ck = 2
        · subst k2
          rw [if_pos rfl] at HQ
          by_cases hn : cn = 0
          · subst hn
            by_cases hz : cl.length = 0
            · have hz' : ((cl.length : Int) == 0) = true := beq_iff_eq.2 (by omega)
              have hq : decide ((cs.size : Int) ≤ 65535) = q := by rw [← HQ, hz]; simp; omega
              subst hq
              clear HQ hz
              go_enter Tryz.func136, Tryz.ntmps136
              go_wp2_with fail
              go_ret
              exact ⟨rfl, HB.out.old⟩
            · have hz' : ((cl.length : Int) == 0) = false := beq_eq_false_iff_ne.2 (by omega)
              have hq : q = false := by rw [← HQ]; simp [hz]
              subst hq
              clear HQ hz
              go_enter Tryz.func136, Tryz.ntmps136
              go_wp2_with fail
              go_ret
              exact ⟨rfl, HB.out.old⟩
          · have hn' : (cn == 0) = false := by simpa using hn
            have hq : q = false := by rw [← HQ]; simp [hn]
            subst hq
            clear HQ
            go_enter Tryz.func136, Tryz.ntmps136
            go_wp2_with fail
            go_ret
            exact ⟨rfl, HB.out.old⟩
        · rw [if_neg k2] at HQ
          by_cases k3 : ck = 3
          · subst k3
            rw [if_pos rfl] at HQ
            by_cases hn : cn = 0
            · subst hn
              cases hE : cs.toList.isEmpty with
              | false =>
                have hq : q = false := by rw [← HQ, hE]; simp
                subst hq
                clear HQ
                go_enter Tryz.func136, Tryz.ntmps136
                go_wp2_with fail
                go_ret
                exact ⟨rfl, HB.out.old⟩
              | true =>
                by_cases hz : cl.length ≤ 4095
                · have hz' : (cl.length : Int) ≤ 4095 := by omega
                  have HC := Lib.hid (HA.out left (by omega))
                  have hq : cl.all (okC left) = q := by rw [← HQ, hE]; simp [hz]
                  rw [hq] at HC
                  clear HQ hz hq HA
                  have hlw : IntKind.i64.wrap ((level : Int) + 1) = ((level + 1 : Nat) : Int) := by rw [IntWalk.i64_in _ (by omega)]; omega
                  go_enter Tryz.func136, Tryz.ntmps136
                  go_wp2_with (go_at_call 173; refine (HC.out).mono ?_; rintro e w' ⟨rfl, hbel⟩)
                  have HX := Lib.hid (HB.out.step hbel)
                  clear hbel
                  go_wp2_with fail
                  go_ret
                  exact ⟨rfl, HX.out.old⟩
                · have hz' : ¬ (cl.length : Int) ≤ 4095 := by omega
                  have hq : q = false := by rw [← HQ]; simp [hz]
                  subst hq
                  clear HQ hz
                  go_enter Tryz.func136, Tryz.ntmps136
                  go_wp2_with fail
                  go_ret
                  exact ⟨rfl, HB.out.old⟩
            · have hn' : (cn == 0) = false := by simpa using hn
              have hq : q = false := by rw [← HQ]; simp [hn]
              subst hq
              clear HQ
              go_enter Tryz.func136, Tryz.ntmps136
              go_wp2_with fail
              go_ret
              exact ⟨rfl, HB.out.old⟩
          · rw [if_neg k3] at HQ
            subst HQ
            have k1' : (ck == 1) = false := by simpa using k1
            have k2' : (ck == 2) = false := by simpa using k2
            have k3' : (ck == 3) = false := by simpa using k3
            go_enter Tryz.func136, Tryz.ntmps136
            go_wp2_with fail
            go_ret
            exact ⟨rfl, HB.out.old⟩
end Go.Proofs.YtjanddnlhaionaaGreatDoor.L4
namespace Go.Proofs.YtjanddnlhaionaaGreatDoor.L4
open Go.RowKit

theorem Tryz.info5 : (Tryz.prog.info? 5).map (fun i => (i.zero, i.size, i.bytes)) = some (some (.int .u8 0), 1, 1) := by kernel_rfl
theorem info5 : ∃ i, Tryz.prog.info? 5 = some i ∧ i.zero = some (.int .u8 0) ∧ i.size = 1 ∧ i.bytes = 1 := by
  have h := Tryz.info5
  cases hq : Tryz.prog.info? 5 with
  | none => simp [hq] at h
  | some i =>
    simp [hq] at h
    exact ⟨i, rfl, h.1, h.2.1, h.2.2⟩

def bytesV (l : List UInt8) : List Value := l.map fun c => Value.int .u8 c.toNat
/-- v is a slice of bytes of the call's own, from block B on, that reads l. -/
def Own (B : Nat) (v : Value) (l : List UInt8) (w : World) : Prop := w.ownsRow B 5 1 v l.length (bytesV l)
/-- Nothing below B has turned, and no block that is not a row of bytes. -/
def Gr (B : Nat) (w w' : World) : Prop := Below B w w' ∧ Lib.OthersKept 5 none w w'
theorem Gr.refl (B : Nat) (w : World) : Gr B w w := ⟨Below.refl _ _, Lib.OthersKept.refl _ _ _⟩
theorem Gr.trans {B : Nat} {x y z : World} (h : Gr B x y) (k : Gr B y z) : Gr B x z := ⟨h.1.trans k.1, h.2.trans k.2⟩
theorem Gr.alloc {B : Nat} {x y : World} (h : Gr B x y) (hB : B ≤ y.heap.size) (o : Obj) : Gr B x (y.alloc o) := ⟨h.1.alloc hB o, h.2.alloc o⟩
theorem Gr.grown {B : Nat} {x y z : World} {v : Value} {l : List UInt8} (h : Gr B x y) (ho : Own B v l y) (hg : y.grownBy z v.ownBlock) (hB : B ≤ y.heap.size) : Gr B x z :=
  ⟨h.1.grown hg hB (fun k hk => (ho.lt k hk).1), h.2.grown hg (fun g hk => by
    rcases ho.2 with ⟨e1, _⟩ | ⟨g', cap, cur, e, _, hgg, _⟩
    · rw [e1] at hk; simp [Value.ownBlock] at hk
    · rw [e] at hk; simp [Value.ownBlock] at hk; subst hk; exact ⟨_, _, hgg⟩)⟩
theorem Gr.of_below {B : Nat} {w w' : World} (h : Below w.heap.size w w') (hB : B ≤ w.heap.size) : Gr B w w' :=
  ⟨h.mono hB, fun k o hk _ _ => by rw [h.block k (Array.getElem?_eq_some_iff.1 hk).1]; exact hk⟩
theorem Own.alloc {B : Nat} {v : Value} {l : List UInt8} {w : World} (h : Own B v l w) (o : Obj) : Own B v l (w.alloc o) := World.ownsRow.alloc h o
theorem grown_of_below {a w : World} (h : Below a.heap.size a w) (row : Option Nat) : a.grownBy w row := ⟨h.os, h.tape, h.output, h.size, fun i hi _ => h.block i hi⟩
theorem Own.below {w w' : World} {B : Nat} {v : Value} {l : List UInt8} (h : Own B v l w) (hb : Below w.heap.size w w') : Own B v l w' :=
  World.ownsRow.kept h (grown_of_below hb none) (by cases v.ownBlock <;> simp)
theorem bytesV_append (a b : List UInt8) : bytesV (a ++ b) = bytesV a ++ bytesV b := by simp [bytesV]
theorem Own.mk {B : Nat} {v : Value} {l k : List UInt8} {w : World} {n : Nat} (h : w.ownsRow B 5 1 v n (bytesV l ++ bytesV k)) (hn : n = l.length + k.length) : Own B v (l ++ k) w := by
  unfold Own
  rw [List.length_append, bytesV_append, ← hn]
  exact h
theorem bytes_oneCell (l : List UInt8) : ∀ u ∈ bytesV l, u.oneCell' = true := by
  intro u hu
  simp only [bytesV, List.mem_map] at hu
  obtain ⟨c, _, rfl⟩ := hu
  rfl
theorem strCells_eq (s : ByteArray) : Lib.strCells s = bytesV s.data.toList := rfl
theorem Own.slice {B : Nat} {v : Value} {l : List UInt8} {w : World} (h : Own B v l w) : ∃ a c, v = .slice a l.length c := by
  rcases h.2 with ⟨e1, e2⟩ | ⟨g, cap', cur, e, _⟩
  · have : l.length = 0 := e2
    exact ⟨none, 0, by rw [e1, this]⟩
  · exact ⟨_, _, e⟩

/-- What a call that appends comes to. -/
def AppTo (B : Nat) (w : World) (l : List UInt8) (e : Ending) (w' : World) : Prop := ∃ v', e = .returned v' ∧ Own B v' l w' ∧ Gr B w w'

/-- The cells of a new array of bytes. -/
theorem new_cells (w : World) (l : List UInt8) (cs : Array Value) (h : cs = (bytesV l).toArray) : ∀ j u, (bytesV l)[j]? = some u → (w.alloc (.cells cs 5)).cell? ((⟨w.heap.size, 0, none⟩ : Addr).add j) = some u := by
  intro j u hu
  have hadd : (⟨w.heap.size, 0, none⟩ : Addr).add j = ⟨w.heap.size, j, none⟩ := by unfold Addr.add; split <;> simp_all
  rw [hadd, World.cell?_alloc_at cs 5 _ _ rfl, h]
  simpa using hu
theorem one_cells (n : Int) (dg : UInt8) (h : (dg.toNat : Int) = n) : #[Value.int .u8 n] = (bytesV [dg]).toArray := by subst h; rfl

theorem strOf_bytes (l : List UInt8) : strOfNums (l.map fun c => (c.toNat : Int)) = ⟨l.toArray⟩ := by
  unfold strOfNums
  congr 1
  rw [List.map_map]
  have : ((fun n : Int => UInt8.ofNat n.toNat) ∘ fun c : UInt8 => (c.toNat : Int)) = id := by
    funext c; simp
  rw [this, List.map_id]
theorem conv_own (b n cap : Nat) (a : Option Addr) (l : List UInt8) (w : World) (h : Own b (.slice a n cap) l w) (hn : n = l.length) :
    (convert 124 9 (.slice a n cap)).run Tryz.prog w = .ok (.string ⟨l.toArray⟩) w := by
  subst hn
  rcases h.2 with ⟨e1, e2⟩ | ⟨g, cap', cur, e, _, hg, _, _, _, ht⟩
  · have hl : l = [] := List.length_eq_zero_iff.1 e2
    subst hl
    cases e1
    exact run_convert_bytes_nil w 124 5 Tryz.underlying124 Tryz.underlying5 0 0 9 Tryz.underlying9
  · cases e
    rw [← strOf_bytes]
    refine run_convert_bytes_arg w 124 5 Tryz.underlying124 Tryz.underlying5 g 0 _ cap _ (by simp) (fun i hi => ?_) 9 Tryz.underlying9
    have hc := World.ownsRow.cells (g := g) h rfl i (.int .u8 ((l.map fun c => (c.toNat : Int)).getD i 0)) (by simp [bytesV, List.getElem?_eq_getElem (show i < l.length by simpa using hi)])
    have hplain : (⟨g, 0, none⟩ : Addr).add i = ⟨g, i, none⟩ := by unfold Addr.add; split <;> simp_all
    rw [hplain] at hc
    rw [Nat.zero_add]
    exact hc

def bytesF : Nat → Nat → List UInt8
  | 0, _ => []
  | f + 1, b => if b = 0 then [] else bytesF f (b / 256) ++ [UInt8.ofNat (b % 256)]
theorem bytesF_succ (f b : Nat) : bytesF (f + 1) b = if b = 0 then [] else bytesF f (b / 256) ++ [UInt8.ofNat (b % 256)] := rfl
theorem bytesF_zero (f : Nat) : bytesF f 0 = [] := by cases f <;> rfl
theorem bytesF_length (f b : Nat) : (bytesF f b).length ≤ f := by
  induction f generalizing b with
  | zero => exact Nat.le_refl _
  | succ f ih =>
    rw [bytesF_succ]
    split
    · exact Nat.zero_le _
    · rw [List.length_append]
      have := ih (b / 256)
      simp only [List.length_singleton]
      omega

set_option maxHeartbeats 400000 in
theorem width34 (b : Nat) (w : World) (hb : b < 9223372036854775808) : Calls Tryz.prog 138 #[.int .i64 b] w fun e w' => e = .returned (.int .i64 ((bytesF 8 b).length : Int)) ∧ w = w' := by
  obtain ⟨q, hq⟩ : ∃ q, (bytesF 8 b).length = q := ⟨_, rfl⟩
  have hq8 : q ≤ 8 := by rw [← hq]; exact bytesF_length 8 b
  rw [hq]
  have HQ := Lib.hid hq
  clear hq
  go_enter Tryz.func138, Tryz.ntmps138
  go_wp2_with fail
  go_loop [0, 3] (fun s0 s3 => ∃ (f m n : Nat), s0 = .int .i64 m ∧ s3 = .int .i64 n ∧ m < 9223372036854775808 ∧ n ≤ 8 ∧ Hid (m < 256 ^ f) ∧ Hid (n + (bytesF f m).length = q)) (fun s0 _ => (intOf s0).toNat)
  case atStart => exact ⟨8, b, 0, rfl, rfl, hb, by omega, by unfold Hid; omega, by unfold Hid; rw [HQ.out]; omega⟩
  case round =>
    obtain ⟨f, m, n, rfl, rfl, hm, hn8, HF, HN⟩ := hrel
    by_cases h0 : (0 : Int) < m
    · cases f with
      | zero => exfalso; have := HF.out; simp at this; omega
      | succ f =>
        have HF' : Hid (m / 256 < 256 ^ f) := by have := HF.out; unfold Hid; rw [Nat.pow_succ] at this; exact Nat.div_lt_of_lt_mul (by omega)
        have HN' : Hid (n + 1 + (bytesF f (m / 256)).length = q) := by
          have := HN.out
          rw [bytesF_succ, if_neg (by omega), List.length_append, List.length_singleton] at this
          unfold Hid; omega
        have hn9 : n < 8 := by have := HN'.out; omega
        go_wp2_with fail
        go_round
        case rel => exact ⟨f, m / 256, n + 1, by simp, by simp, by omega, by omega, HF'.out, HN'.out⟩
        case measure => simp [intOf]; omega
    · have hm0 : m = 0 := by omega
      subst hm0
      have hq : n = q := by have := HN.out; rw [bytesF_zero] at this; simpa using this
      subst hq
      go_wp2_with fail
      go_ret
      exact ⟨rfl, rfl⟩

set_option maxHeartbeats 400000 in
theorem appendBase35 (f : Nat) : ∀ (b B : Nat) (v : Value) (l : List UInt8) (w : World), Own B v l w → B ≤ w.heap.size → b < 256 ^ f → b < 9223372036854775808 → l.length + f ≤ 2000000 →
    Calls Tryz.prog 139 #[v, .int .i64 b] w (AppTo B w (l ++ bytesF f b)) := by
  induction f with
  | zero =>
    intro b B v l w ho hB hb hb2 hl
    have h0 : b = 0 := by simpa using hb
    subst h0
    have HO := Lib.hid ho; clear ho
    go_enter Tryz.func139, Tryz.ntmps139
    go_wp2_with fail
    go_ret
    exact ⟨v, rfl, by rw [bytesF_zero, List.append_nil]; exact HO.out, Gr.refl _ _⟩
  | succ f ih =>
    intro b B v l w ho hB hb hb2 hl
    obtain ⟨i0, hi, hz0, hz1, hz2⟩ := info5
    by_cases h0 : b = 0
    · subst h0
      have HO := Lib.hid ho; clear ho
      go_enter Tryz.func139, Tryz.ntmps139
      go_wp2_with fail
      go_ret
      exact ⟨v, rfl, by rw [bytesF_zero, List.append_nil]; exact HO.out, Gr.refl _ _⟩
    · rw [bytesF_succ, if_neg h0]
      have h0' : ((b : Int) == 0) = false := beq_eq_false_iff_ne.2 (by omega)
      have hrec := ih (b / 256) B v l w ho hB (by rw [Nat.pow_succ] at hb; exact Nat.div_lt_of_lt_mul (by omega)) (by omega) (by omega)
      have hfl := bytesF_length f (b / 256)
      generalize bytesF f (b / 256) = dl at hrec hfl ⊢
      rw [show (((b / 256 : Nat) : Int)) = (b : Int) / 256 by omega] at hrec
      obtain ⟨dg, hdg⟩ : ∃ dg, UInt8.ofNat (b % 256) = dg := ⟨_, rfl⟩
      have hdn : (dg.toNat : Int) = (b : Int) % 256 := by rw [← hdg, UInt8.toNat_ofNat']; omega
      rw [hdg]
      have HR := Lib.hid hrec
      have HD := Lib.hid hdn
      clear hrec ih hdn hdg ho hb
      go_enter Tryz.func139, Tryz.ntmps139
      go_wp2_with fail
      refine HR.out.mono ?_
      rintro e w1 ⟨v1, rfl, ho1, hg1⟩
      have hB1 : B ≤ w1.heap.size := Nat.le_trans hB hg1.1.size
      have HO := Lib.hid ho1; clear ho1
      have HG1 := Lib.hid hg1; clear hg1
      go_wp2_with (at_builtin; go_must (refine wpList_append_own _ rfl _ _ 124 rfl B 5 i0 (.int .u8 0) 1 1 Tryz.underlying124 hi hz0 hz1 hz2 rfl (by omega) _ (l ++ dl).length (bytesV (l ++ dl)) rfl (HO.out.alloc _) ⟨w1.heap.size, 0, none⟩ 1 1 (bytesV [dg]) rfl rfl ?hn (bytes_oneCell _) ?c3 ?c4 ?c5 ?_))
      case hn => exact new_cells w1 [dg] _ (one_cells _ dg HD.out)
      case c3 => unfold maxLen; rw [List.length_append]; omega
      case c4 => rw [List.length_append]; omega
      case c5 => simp; omega
      intro v' w' ho' hg' _
      have HO' := Lib.hid (Own.mk ho' (by simp))
      have HG := Lib.hid (HG1.out.trans (((Gr.refl B w1).alloc hB1 _).grown (HO.out.alloc _) hg' (by simp; omega)))
      clear ho' hg'
      go_wp2_with fail
      go_ret
      exact ⟨v', rfl, by rw [← List.append_assoc]; exact HO'.out, HG.out⟩

def markOf (k n : Int) : Nat := if k = 2 then 48 else if k = 3 then 64 else if n < 0 then 32 else 16
def baseOf (k n : Int) (s : ByteArray) (l : List C) : Nat := if k = 2 then s.size else if k = 3 then l.length else if n < 0 then (-(n + 1)).toNat else n.toNat

set_option maxHeartbeats 400000 in
theorem markAndBase33 (k n : Int) (s : ByteArray) (l : List C) (A : Option Addr) (cap : Nat) (w : World) (hn0 : -9223372036854775808 ≤ n) (hn1 : n ≤ 9223372036854775807) :
    Calls Tryz.prog 137 #[.agg #[.int .i64 k, .int .i64 n, .string s, .slice A l.length cap]] w fun e w' => e = .returned (.tuple #[.int .u8 (markOf k n), .int .i64 (baseOf k n s l)]) ∧ Below w.heap.size w w' := by
  have HB := Lib.hid (Box.new w (.mk k n s l) (.slice A l.length cap))
  unfold markOf baseOf
  by_cases k2 : k = 2
  · subst k2
    rw [if_pos rfl, if_pos rfl]
    go_enter Tryz.func137, Tryz.ntmps137
    go_wp2_with fail
    go_quiet (fail)
    go_wp2_with fail
    go_ret2
    exact ⟨rfl, below_drewN HB.out.old _⟩
  · have k2' : (k == 2) = false := by simpa using k2
    rw [if_neg k2, if_neg k2]
    by_cases k3 : k = 3
    · subst k3
      rw [if_pos rfl, if_pos rfl]
      go_enter Tryz.func137, Tryz.ntmps137
      go_wp2_with fail
      go_quiet (fail)
      go_wp2_with fail
      go_ret2
      exact ⟨rfl, below_drewN HB.out.old _⟩
    · have k3' : (k == 3) = false := by simpa using k3
      rw [if_neg k3, if_neg k3]
      by_cases hn : n < 0
      · rw [if_pos hn, if_pos hn]
        have e : (((-(n + 1)).toNat : Nat) : Int) = -(n + 1) := by omega
        rw [e]
        clear e
        go_enter Tryz.func137, Tryz.ntmps137
        go_wp2_with fail
        go_quiet (fail)
        go_wp2_with fail
        go_ret2
        exact ⟨rfl, below_drewN HB.out.old _⟩
      · rw [if_neg hn, if_neg hn]
        have e : ((n.toNat : Nat) : Int) = n := by omega
        rw [e]
        clear e
        go_enter Tryz.func137, Tryz.ntmps137
        go_wp2_with fail
        go_quiet (fail)
        go_wp2_with fail
        go_ret2
        exact ⟨rfl, below_drewN HB.out.old _⟩

set_option maxHeartbeats 400000 in
theorem check11 (d : Nat) (ck cn : Int) (cs : ByteArray) (cl : List C) (u : Value) (w : World) (h : LAt w w.heap.size d u cl) :
    Calls Tryz.prog 86 #[.agg #[.int .i64 ck, .int .i64 cn, .string cs, u]] w fun e w' => e = .returned (.int .i64 (if okC 16 (.mk ck cn cs cl) then 0 else 2)) ∧ Below w.heap.size w w' := by
  have HB := Lib.hid (Box.new w (.mk ck cn cs cl) u)
  have HC := Lib.hid (valid27 d 16 1 ck cn cs cl u (w.alloc (.cells #[.int .i64 ck, .int .i64 cn, .string cs, u] 38)) (h.step HB.out.old) (by omega))
  generalize okC 16 (.mk ck cn cs cl) = t at HC ⊢
  clear h
  cases t with
  | true =>
    go_enter Tryz.func86, Tryz.ntmps86
    go_wp2_with (go_at_call 136; refine (HC.out).mono ?_; rintro e w' ⟨rfl, hbel⟩)
    have HX := Lib.hid (HB.out.step hbel)
    clear hbel
    go_wp2_with fail
    go_ret
    exact ⟨rfl, HX.out.old⟩
  | false =>
    go_enter Tryz.func86, Tryz.ntmps86
    go_wp2_with (go_at_call 136; refine (HC.out).mono ?_; rintro e w' ⟨rfl, hbel⟩)
    have HX := Lib.hid (HB.out.step hbel)
    clear hbel
    go_wp2_with fail
    go_ret
    exact ⟨rfl, HX.out.old⟩
end Go.Proofs.YtjanddnlhaionaaGreatDoor.L4
namespace Go.Proofs.YtjanddnlhaionaaGreatDoor.L4
open Go.RowKit

/-- The encoding of a cell, with so many levels left. -/
def encC : Nat → C → List UInt8
  | 0, _ => []
  | d + 1, .mk k n s l => UInt8.ofNat (markOf k n + (bytesF 8 (baseOf k n s l)).length) :: (bytesF 8 (baseOf k n s l) ++ (s.data.toList ++ l.flatMap (encC d)))
theorem encC_succ (d : Nat) (k n : Int) (s : ByteArray) (l : List C) : encC (d + 1) (.mk k n s l) =
    UInt8.ofNat (markOf k n + (bytesF 8 (baseOf k n s l)).length) :: (bytesF 8 (baseOf k n s l) ++ (s.data.toList ++ l.flatMap (encC d))) := rfl

theorem okC_list {d : Nat} {k n : Int} {s : ByteArray} {l : List C} (h : okC (d + 1) (.mk k n s l) = true) : l.all (okC d) = true := by
  rw [okC_succ] at h
  by_cases h1 : k = 1
  · rw [if_pos h1] at h
    simp at h
    simp [h.2]
  · rw [if_neg h1] at h
    by_cases h2 : k = 2
    · rw [if_pos h2] at h
      simp at h
      simp [h.2.1]
    · rw [if_neg h2] at h
      by_cases h3 : k = 3
      · rw [if_pos h3] at h
        simp only [Bool.and_eq_true] at h
        exact h.2.2.2
      · rw [if_neg h3] at h
        cases h

theorem baseOf_lt {d : Nat} {k n : Int} {s : ByteArray} {l : List C} (h : okC (d + 1) (.mk k n s l) = true) (h0 : -9223372036854775808 ≤ n) (h1 : n ≤ 9223372036854775807) : baseOf k n s l < 9223372036854775808 := by
  rw [okC_succ] at h
  unfold baseOf
  by_cases k1 : k = 1
  · subst k1
    rw [if_neg (by omega), if_neg (by omega)]
    split <;> omega
  · rw [if_neg k1] at h
    by_cases k2 : k = 2
    · rw [if_pos k2] at h ⊢
      simp at h
      omega
    · rw [if_neg k2] at h ⊢
      by_cases k3 : k = 3
      · rw [if_pos k3] at h ⊢
        simp only [Bool.and_eq_true, decide_eq_true_eq] at h
        omega
      · rw [if_neg k3] at h
        cases h

theorem markOf_le (k n : Int) : markOf k n ≤ 64 := by unfold markOf; split <;> (try split) <;> (try split) <;> omega

theorem Gr.box {B : Nat} {w w' : World} {cs : Array Value} (h : Gr B (w.alloc (.cells cs 38)) w') (j : Nat) : w'.cell? ⟨w.heap.size, j, none⟩ = cs[j]? := by
  have hb := h.2 w.heap.size (.cells cs 38 (0, 0)) (by simpa using heap_alloc_new w (.cells cs 38)) (by simp) (fun c fz e => by injection e with _ e; cases e)
  rw [cell_of_row w' w.heap.size j cs 38 (0, 0) hb]

set_option maxHeartbeats 1600000 in
theorem appendCell24 (D : Nat) : ∀ (d B : Nat) (v : Value) (out : List UInt8) (ck cn : Int) (cs : ByteArray) (cl : List C) (u : Value) (w : World), okC D (.mk ck cn cs cl) = true → LAt w B d u cl → Own B v out w → B ≤ w.heap.size →
    -9223372036854775808 ≤ cn → cn ≤ 9223372036854775807 → out.length + (encC D (.mk ck cn cs cl)).length ≤ 1000000 →
    Calls Tryz.prog 87 #[v, .agg #[.int .i64 ck, .int .i64 cn, .string cs, u]] w (AppTo B w (out ++ encC D (.mk ck cn cs cl))) := by
  induction D with
  | zero => intro d B v out ck cn cs cl u w h; cases h
  | succ D ih =>
    intro d B v out ck cn cs cl u w hok hL ho hB hn0 hn1 hlen
    obtain ⟨i0, hi, hz0, hz1, hz2⟩ := info5
    have hall := okC_list hok
    have hbl := baseOf_lt hok hn0 hn1
    obtain ⟨A, cap, rfl⟩ := hL.slice
    have hcap : cl.length ≤ 9223372036854775807 := by
      cases d with
      | zero => exact hL.elim
      | succ d =>
        obtain ⟨A', cap', e, h1, h2, _⟩ := hL
        unfold maxLen at h2
        omega
    have HL := Lib.hid hL
    have HIH := Lib.hid ih
    have HALL := Lib.hid hall
    have HM := Lib.hid (markAndBase33 ck cn cs cl A cap (w.alloc (.cells #[.int .i64 ck, .int .i64 cn, .string cs, .slice A cl.length cap] 38)) hn0 hn1)
    rw [encC_succ] at hlen ⊢
    have hmk := markOf_le ck cn
    generalize markOf ck cn = mk at HM hlen hmk ⊢
    generalize baseOf ck cn cs cl = bs at HM hlen hbl ⊢
    have HWD := Lib.hid (fun w => width34 bs w hbl)
    have HAB := Lib.hid (fun (v : Value) (l : List UInt8) (w : World) (h1 : Own B v l w) (h2 : B ≤ w.heap.size) (h3 : l.length + 8 ≤ 2000000) => appendBase35 8 bs B v l w h1 h2 (by omega) hbl h3)
    have hfl := bytesF_length 8 bs
    generalize bytesF 8 bs = dl at HWD HAB hlen hfl ⊢
    simp only [List.length_cons, List.length_append] at hlen
    obtain ⟨dg, hdg⟩ : ∃ dg, UInt8.ofNat (mk + dl.length) = dg := ⟨_, rfl⟩
    have hdn : (dg.toNat : Int) = (mk : Int) + (dl.length : Int) := by rw [← hdg, UInt8.toNat_ofNat']; omega
    rw [hdg]
    have HD := Lib.hid hdn
    have HO := Lib.hid ho
    obtain ⟨tot, htot⟩ : ∃ tot, out ++ dg :: (dl ++ (cs.data.toList ++ cl.flatMap (encC D))) = tot := ⟨_, rfl⟩
    rw [htot]
    obtain ⟨o3, ho3e⟩ : ∃ o3, out ++ [dg] = o3 := ⟨_, rfl⟩
    obtain ⟨o4, ho4e⟩ : ∃ o4, o3 ++ dl = o4 := ⟨_, rfl⟩
    obtain ⟨o5, ho5e⟩ : ∃ o5, o4 ++ cs.data.toList = o5 := ⟨_, rfl⟩
    have hl3 : o3.length = out.length + 1 := by rw [← ho3e]; simp
    have hl4 : o4.length = out.length + 1 + dl.length := by rw [← ho4e, List.length_append, hl3]
    have HTOT : Hid (o5 ++ cl.flatMap (encC D) = tot) := by unfold Hid; rw [← htot, ← ho5e, ← ho4e, ← ho3e]; simp
    have HE3 := Lib.hid ho3e
    have HE4 := Lib.hid ho4e
    have HE5 := Lib.hid ho5e
    have htl : tot.length ≤ 1000000 := by rw [← htot]; simp; simp at hlen; omega
    have hss : cs.data.toList.length = cs.size := by simp
    have hls : out.length + 1 + dl.length + cs.size ≤ 1000000 := by omega
    clear hL ih hall hok ho hdn hdg htot hlen hss ho3e ho4e ho5e
    go_enter Tryz.func87, Tryz.ntmps87
    go_wp2_with fail
    refine HM.out.mono ?_
    rintro e w2 ⟨rfl, hb2⟩
    have hG2 : Gr B w w2 := ((Gr.refl B w).alloc hB _).trans (Gr.of_below hb2 (by simp; omega))
    have hGx2 : Gr B (w.alloc (.cells #[.int .i64 ck, .int .i64 cn, .string cs, .slice A cl.length cap] 38)) w2 := Gr.of_below hb2 (by simp; omega)
    have HO2 : Hid (Own B v out w2) := Own.below (HO.out.alloc _) hb2
    have hB2 : B ≤ w2.heap.size := Nat.le_trans hB hG2.1.size
    have HG2 := Lib.hid hG2
    have HGx2 := Lib.hid hGx2
    clear hb2 hG2 hGx2 HM HO
    go_wp2_with fail
    refine (HWD.out _).mono ?_
    rintro e w2' ⟨rfl, rfl⟩
    go_wp2_with (at_builtin; go_must (refine wpList_append_own _ rfl _ _ 124 rfl B 5 i0 (.int .u8 0) 1 1 Tryz.underlying124 hi hz0 hz1 hz2 rfl (by omega) _ out.length (bytesV out) rfl (HO2.out.alloc _) ⟨w2.heap.size, 0, none⟩ 1 1 (bytesV [dg]) rfl rfl ?hn (bytes_oneCell _) ?c3 ?c4 ?c5 ?_))
    case hn => exact new_cells w2 [dg] _ (one_cells _ dg HD.out)
    case c3 => unfold maxLen; omega
    case c4 => omega
    case c5 => simp; omega
    intro v3 w3 ho3 hg3 _
    have HO3 : Hid (Own B v3 o3 w3) := by unfold Hid; rw [← HE3.out]; exact Own.mk ho3 (by simp)
    have hG3 : Gr B w2 w3 := ((Gr.refl B w2).alloc hB2 _).grown (HO2.out.alloc _) hg3 (by simp; omega)
    have HG3 := Lib.hid (HG2.out.trans hG3)
    have HGx3 := Lib.hid (HGx2.out.trans hG3)
    have hB3 : B ≤ w3.heap.size := Nat.le_trans hB HG3.out.1.size
    clear ho3 hg3 hG3 HO2 HG2 HGx2
    go_wp2_with fail
    refine (HAB.out v3 o3 w3 HO3.out hB3 (by omega)).mono ?_
    rintro e w4 ⟨v4, rfl, ho4, hg4⟩
    rw [HE4.out] at ho4
    have HO4 := Lib.hid ho4
    have HG4 := Lib.hid (HG3.out.trans hg4)
    have HGx4 := Lib.hid (HGx3.out.trans hg4)
    have b2 : w4.cell? ⟨w.heap.size, 2, none⟩ = some (.string cs) := HGx4.out.box 2
    have b3 : w4.cell? ⟨w.heap.size, 3, none⟩ = some (.slice A cl.length cap) := HGx4.out.box 3
    have hB4 : B ≤ w4.heap.size := Nat.le_trans hB HG4.out.1.size
    clear ho4 hg4 HO3 HG3 HGx3
    go_wp2_with (at_builtin; go_must (refine Lib.wpList_append_own_string _ rfl _ _ 124 9 rfl B 5 i0 Tryz.underlying124 Tryz.underlying9 hi hz0 hz1 hz2 _ _ _ rfl HO4.out cs rfl ?c3 ?c4 ?c5 ?_))
    case c3 => unfold maxLen; omega
    case c4 => omega
    case c5 => exact hB4
    intro v5 w5 ho5 hg5 _
    have HO5 : Hid (Own B v5 o5 w5) := by unfold Hid; rw [← HE5.out]; exact Own.mk (by rw [← strCells_eq]; exact ho5) (by rw [hl4]; simp)
    have hG5 : Gr B w4 w5 := (Gr.refl B w4).grown HO4.out hg5 hB4
    have HG5 := Lib.hid (HG4.out.trans hG5)
    have HGx5 := Lib.hid (HGx4.out.trans hG5)
    have b3 : w5.cell? ⟨w.heap.size, 3, none⟩ = some (.slice A cl.length cap) := HGx5.out.box 3
    clear ho5 hg5 hG5 HO4 HG4 HGx4
    go_wp2_with fail
    go_loopw [0, 32] (fun s0 s32 wr => ∃ (k : Nat) (o' : List UInt8), k ≤ cl.length ∧ s32 = .int .i64 k ∧ Hid (Own B s0 o' wr) ∧ Hid (Gr B w wr) ∧ Hid (o' ++ (cl.drop k).flatMap (encC D) = tot)) (fun _ s32 _ => cl.length - (intOf s32).toNat)
    case atStart => exact ⟨0, _, Nat.zero_le _, rfl, HO5, HG5, HTOT.out⟩
    case round =>
      obtain ⟨k, o', hk, rfl, HOr, HGr, HT⟩ := hrel
      clear HO5 HG5 HTOT HGx5 b3
      by_cases hlt : k < cl.length
      · have hLr := HL.out.below HGr.out.1
        obtain ⟨d, rfl⟩ : ∃ e, d = e + 1 := by cases d with | zero => exact hLr.elim | succ e => exact ⟨e, rfl⟩
        obtain ⟨A', cap', e', -, -, h3⟩ := hLr
        injection e' with e1 e2 e3
        subst e1 e3
        obtain ⟨b, o, rfl, hb, hr⟩ := h3 (by omega)
        have hd := drop_get cl k hlt
        have hok := List.all_eq_true.1 HALL.out cl[k] (List.getElem_mem hlt)
        obtain ⟨u, hr, hwf, hsub⟩ := hr k hlt
        generalize cl[k] = x at hd hr hwf hsub hok
        obtain ⟨xk, xn, xs, xl⟩ := x
        obtain ⟨c0, c1, c2, c3⟩ := hr
        have hx0 := hwf.n0
        have hx1 := hwf.n1
        simp only [k_mk, n_mk, s_mk, l_mk] at c0 c1 c2 c3 hsub hx0 hx1
        obtain ⟨A2, cap2, rfl⟩ := hsub.slice
        generalize hxl : xl.length = xn2 at c3 hsub
        clear hxl
        have hBr : B ≤ wr.heap.size := Nat.le_trans hB HGr.out.1.size
        have HT2 : Hid (o' ++ encC D (.mk xk xn xs xl) ++ (cl.drop (k + 1)).flatMap (encC D) = tot) := by
          unfold Hid
          rw [← HT.out, hd, List.flatMap_cons, List.append_assoc]
        have hl2 : o'.length + (encC D (.mk xk xn xs xl)).length ≤ 1000000 := by
          have := congrArg List.length HT2.out
          simp only [List.length_append] at this
          omega
        have HC := Lib.hid (HIH.out d B u0 o' xk xn xs xl (.slice A2 xn2 cap2) (wr.alloc (.cells #[.int .i64 xk, .int .i64 xn, .string xs, .slice A2 xn2 cap2] 38)) hok (hsub.below ((Below.refl B wr).alloc hBr _)) (HOr.out.alloc _) (by simp; omega) hx0 hx1 hl2)
        generalize encC D (.mk xk xn xs xl) = ex at HC HT2 hl2
        clear h3 e2 hwf hd HT hok hsub
        go_wp2_with (go_at_call 87; refine (HC.out).mono ?_; rintro e w' ⟨v', rfl, ho', hg'⟩)
        have HO' := Lib.hid ho'
        have HG' : Hid (Gr B w w') := HGr.out.trans (((Gr.refl B wr).alloc hBr _).trans hg')
        clear ho' hg'
        go_wp2_with fail
        go_roundw
        case rel => exact ⟨k + 1, _, by omega, by go_num, HO', HG', HT2.out⟩
        case measure => simp [intOf]; omega
      · have hq : o' = tot := by
          rw [← HT.out, List.drop_of_length_le (by omega)]; simp
        subst hq
        clear HT
        go_wp2_with fail
        go_ret
        exact ⟨_, rfl, HOr.out, HGr.out⟩

def putS (c : C) : ByteArray := if okC 16 c then ⟨(encC 16 c).toArray⟩ else ⟨#[]⟩
def putE (c : C) : Int := if okC 16 c then 0 else 2

set_option maxHeartbeats 800000 in
theorem put9 (d : Nat) (ck cn : Int) (cs : ByteArray) (cl : List C) (u : Value) (w : World) (h : LAt w w.heap.size d u cl) (hn0 : -9223372036854775808 ≤ cn) (hn1 : cn ≤ 9223372036854775807)
    (hlen : okC 16 (.mk ck cn cs cl) = true → (encC 16 (.mk ck cn cs cl)).length ≤ 1000000) :
    Calls Tryz.prog 45 #[.agg #[.int .i64 ck, .int .i64 cn, .string cs, u]] w fun e w' => e = .returned (.tuple #[.string (putS (.mk ck cn cs cl)), .int .i64 (putE (.mk ck cn cs cl))]) ∧ Below w.heap.size w w' := by
  have HB := Lib.hid (Box.new w (.mk ck cn cs cl) u)
  have HC := Lib.hid (check11 d ck cn cs cl u (w.alloc (.cells #[.int .i64 ck, .int .i64 cn, .string cs, u] 38)) (h.step HB.out.old))
  have HL := Lib.hid h
  unfold putS putE
  cases hok : okC 16 (.mk ck cn cs cl) with
  | false =>
    rw [hok] at HC
    clear h hok hlen
    go_enter Tryz.func45, Tryz.ntmps45
    go_wp2_with (go_at_call 86; refine (HC.out).mono ?_; rintro e w' ⟨rfl, hbel⟩)
    have HX := Lib.hid (HB.out.step hbel)
    clear hbel
    go_wp2_with fail
    go_ret2
    exact ⟨rfl, HX.out.old⟩
  | true =>
    rw [hok] at HC
    have HA := Lib.hid (fun (B : Nat) (w : World) (hL : LAt w B d u cl) (hB : B ≤ w.heap.size) => appendCell24 16 d B (.slice none 0 0) [] ck cn cs cl u w hok hL (World.ownsRow_nil w B 5 1) hB hn0 hn1 (by simpa using hlen hok))
    generalize encC 16 (.mk ck cn cs cl) = en at HA ⊢
    clear h hok hlen
    go_enter Tryz.func45, Tryz.ntmps45
    go_wp2_with fail
    refine (HC.out).mono ?_
    rintro e w' ⟨rfl, hbel⟩
    have hX := HB.out.step hbel
    have b0 : w'.cell? ⟨w.heap.size, 0, none⟩ = some (.int .i64 ck) := hX.cell 0
    have b1 : w'.cell? ⟨w.heap.size, 1, none⟩ = some (.int .i64 cn) := hX.cell 1
    have b2 : w'.cell? ⟨w.heap.size, 2, none⟩ = some (.string cs) := hX.cell 2
    have b3 : w'.cell? ⟨w.heap.size, 3, none⟩ = some u := hX.cell 3
    have HX := Lib.hid hX
    have HAC := Lib.hid (HA.out w'.heap.size w' (HL.out.step hX.old) (Nat.le_refl _))
    clear hbel hX HA HC
    go_wp2_with fail
    refine (HAC.out).mono ?_
    rintro e w3 ⟨v3, rfl, ho3, hg3⟩
    rw [List.nil_append] at ho3
    obtain ⟨a3, c3, rfl⟩ := ho3.slice
    have hcv := conv_own w'.heap.size en.length c3 a3 en w3 ho3 rfl
    obtain ⟨es, hes⟩ : ∃ es, (⟨en.toArray⟩ : ByteArray) = es := ⟨_, rfl⟩
    rw [hes] at hcv
    have HES := Lib.hid hes
    clear hes
    have HY := Lib.hid (HX.out.step hg3.1)
    clear ho3 hg3 HX HAC
    go_wp2_with fail
    go_ret2
    exact ⟨by rw [← HES.out]; rfl, HY.out.old⟩

end Go.Proofs.YtjanddnlhaionaaGreatDoor.L4
