/-
  Cells as plain data and in memory; the contracts of few, small and Same. No condition.
-/
import Derived.Test.YtdmalkkpcggifaaRows
import Derived.WalkKit
import Derived.WalkSpells
import Derived.WalkLawsBesides
import Derived.Lib.Hide
import Derived.Deep.QuietTactic
import Derived.BigQuiet
import Derived.IntWalk
namespace Go.Proofs.Ytdmalkkpcggifaa
open Go.RowKit

inductive C where
  | mk (k n : Int) (s : ByteArray) (l : List C)
def C.k : C → Int | .mk k _ _ _ => k
def C.n : C → Int | .mk _ n _ _ => n
def C.s : C → ByteArray | .mk _ _ s _ => s
def C.l : C → List C | .mk _ _ _ l => l
theorem k_mk (k n : Int) (s : ByteArray) (l : List C) : (C.mk k n s l).k = k := rfl
theorem n_mk (k n : Int) (s : ByteArray) (l : List C) : (C.mk k n s l).n = n := rfl
theorem s_mk (k n : Int) (s : ByteArray) (l : List C) : (C.mk k n s l).s = s := rfl
theorem l_mk (k n : Int) (s : ByteArray) (l : List C) : (C.mk k n s l).l = l := rfl

/-- The numbers of a cell are ints, and its string is not too long for one. -/
structure Wf (c : C) : Prop where
  k0 : -9223372036854775808 ≤ c.k
  k1 : c.k ≤ 9223372036854775807
  n0 : -9223372036854775808 ≤ c.n
  n1 : c.n ≤ 9223372036854775807
  s1 : c.s.size ≤ 9223372036854775807

def cellV (c : C) (u : Value) : Value := .agg #[.int .i64 c.k, .int .i64 c.n, .string c.s, u]
def cellsV (c : C) (u : Value) : Array Value := #[.int .i64 c.k, .int .i64 c.n, .string c.s, u]

structure RowAt (w : World) (b o : Nat) (c : C) (u : Value) : Prop where
  c0 : w.cell? ⟨b, o, none⟩ = some (.int .i64 c.k)
  c1 : w.cell? ⟨b, o + 1, none⟩ = some (.int .i64 c.n)
  c2 : w.cell? ⟨b, o + 2, none⟩ = some (.string c.s)
  c3 : w.cell? ⟨b, o + 3, none⟩ = some u

theorem RowAt.keep {w w' : World} {b o : Nat} {c : C} {u : Value} (h : RowAt w b o c u) (hk : ∀ o, w'.cell? ⟨b, o, none⟩ = w.cell? ⟨b, o, none⟩) : RowAt w' b o c u :=
  ⟨(hk _).trans h.c0, (hk _).trans h.c1, (hk _).trans h.c2, (hk _).trans h.c3⟩

/-- The slice v reads as the cells l, below block B, in at most d levels. -/
def LAt (w : World) (B : Nat) : Nat → Value → List C → Prop
  | 0, _, _ => False
  | d + 1, v, l => ∃ A cap, v = .slice A l.length cap ∧ l.length ≤ cap ∧ cap ≤ maxLen ∧ (0 < l.length → ∃ b o, A = some ⟨b, o, none⟩ ∧ b < B ∧ ∀ i (h : i < l.length), ∃ u, RowAt w b (o + i * 4) l[i] u ∧ Wf l[i] ∧ LAt w B d u l[i].l)

theorem LAt.keep {w w' : World} {B : Nat} (hk : ∀ b o, b < B → w'.cell? ⟨b, o, none⟩ = w.cell? ⟨b, o, none⟩) : ∀ {d : Nat} {v : Value} {l : List C}, LAt w B d v l → LAt w' B d v l
  | 0, _, _, h => h
  | d + 1, v, l, h => by
    obtain ⟨A, cap, rfl, h1, h2, h3⟩ := h
    refine ⟨A, cap, rfl, h1, h2, fun hl => ?_⟩
    obtain ⟨b, o, rfl, hb, hr⟩ := h3 hl
    refine ⟨b, o, rfl, hb, fun i hi => ?_⟩
    obtain ⟨u, r, f, s⟩ := hr i hi
    exact ⟨u, r.keep fun o => hk b o hb, f, LAt.keep hk s⟩
theorem LAt.below {w w' : World} {B d : Nat} {v : Value} {l : List C} (h : LAt w B d v l) (hb : Below B w w') : LAt w' B d v l :=
  h.keep fun b o hl => hb.cell (p := ⟨b, o, none⟩) hl
theorem LAt.more {w : World} {B B' : Nat} (hB : B ≤ B') : ∀ {d : Nat} {v : Value} {l : List C}, LAt w B d v l → LAt w B' d v l
  | 0, _, _, h => h
  | d + 1, v, l, h => by
    obtain ⟨A, cap, rfl, h1, h2, h3⟩ := h
    refine ⟨A, cap, rfl, h1, h2, fun hl => ?_⟩
    obtain ⟨b, o, rfl, hb, hr⟩ := h3 hl
    refine ⟨b, o, rfl, by omega, fun i hi => ?_⟩
    obtain ⟨u, r, f, s⟩ := hr i hi
    exact ⟨u, r, f, LAt.more hB s⟩
theorem LAt.step {w w' : World} {d : Nat} {v : Value} {l : List C} (h : LAt w w.heap.size d v l) (hb : Below w.heap.size w w') : LAt w' w'.heap.size d v l :=
  (h.below hb).more hb.size
theorem LAt.up {w : World} {B : Nat} : ∀ {d d' : Nat} {v : Value} {l : List C}, LAt w B d v l → d ≤ d' → LAt w B d' v l
  | 0, _, _, _, h, _ => h.elim
  | d + 1, 0, _, _, _, hd => by omega
  | d + 1, d' + 1, v, l, h, hd => by
    obtain ⟨A, cap, rfl, h1, h2, h3⟩ := h
    refine ⟨A, cap, rfl, h1, h2, fun hl => ?_⟩
    obtain ⟨b, o, rfl, hb, hr⟩ := h3 hl
    refine ⟨b, o, rfl, hb, fun i hi => ?_⟩
    obtain ⟨u, r, f, s⟩ := hr i hi
    exact ⟨u, r, f, LAt.up s (by omega)⟩

theorem drop_get {α : Type} (l : List α) (k : Nat) (h : k < l.length) : l.drop k = l[k] :: l.drop (k + 1) := List.drop_eq_getElem_cons h
theorem below_drewN {B : Nat} {a w : World} (h : Below B a w) (n : Nat) : Below B a (w.drewN n) := ⟨h.os, h.tape, h.output, h.size, h.block⟩

/-- A boxed cell, and all that lay below it, in a later world. -/
structure Box (w : World) (c : C) (u : Value) (w' : World) : Prop where
  below : Below (w.heap.size + 1) (w.alloc (.cells (cellsV c u) 25)) w'
theorem Box.new (w : World) (c : C) (u : Value) : Box w c u (w.alloc (.cells (cellsV c u) 25)) := ⟨Below.refl _ _⟩
theorem Box.old {w : World} {c : C} {u : Value} {w' : World} (h : Box w c u w') : Below w.heap.size w w' :=
  ((Below.refl _ w).alloc (Nat.le_refl _) _).trans (h.below.mono (by omega))
theorem Box.size {w : World} {c : C} {u : Value} {w' : World} (h : Box w c u w') : w.heap.size < w'.heap.size := by
  have := h.below.size
  simp at this
  omega
theorem Box.step {w : World} {c : C} {u : Value} {w' w'' : World} (h : Box w c u w') (hb : Below w'.heap.size w' w'') : Box w c u w'' :=
  ⟨h.below.trans (hb.mono h.size)⟩
theorem Box.cell {w : World} {c : C} {u : Value} {w' : World} (h : Box w c u w') (j : Nat) : w'.cell? ⟨w.heap.size, j, none⟩ = (cellsV c u)[j]? := by
  rw [h.below.cell (p := ⟨w.heap.size, j, none⟩) (show w.heap.size < w.heap.size + 1 from Nat.lt_succ_self _)]
  exact World.cell?_alloc_at _ 25 _ _ rfl
theorem Box.drewN {w : World} {c : C} {u : Value} {w' : World} (h : Box w c u w') (n : Nat) : Box w c u (w'.drewN n) := ⟨below_drewN h.below n⟩

def fewF (f : C → Int → Int) (r : Int) (x : C) : Int := if 0 < r then f x r else r
def fewM : Nat → C → Int → Int
  | 0, _, _ => 0
  | d + 1, c, left => if left - 1 - c.s.size / 100 < 1 then 0 else c.l.foldl (fewF (fewM d)) (left - 1 - c.s.size / 100)

theorem few_stop (f : C → Int → Int) : ∀ (l : List C) (r : Int), ¬ 0 < r → l.foldl (fewF f) r = r
  | [], _, _ => rfl
  | x :: l, r, h => by rw [List.foldl_cons]; unfold fewF; rw [if_neg h]; exact few_stop f l r h

theorem fewM_le : ∀ (d : Nat) (c : C) (left : Int), 0 ≤ left → 0 ≤ fewM d c left ∧ fewM d c left ≤ left
  | 0, _, _, h => ⟨Int.le_refl _, h⟩
  | d + 1, c, left, h => by
    unfold fewM
    split
    · exact ⟨Int.le_refl _, h⟩
    · rename_i h1
      have key : ∀ (l : List C) (r : Int), 0 ≤ r → 0 ≤ l.foldl (fewF (fewM d)) r ∧ l.foldl (fewF (fewM d)) r ≤ r := by
        intro l
        induction l with
        | nil => intro r hr; exact ⟨hr, Int.le_refl _⟩
        | cons x l ih =>
          intro r hr
          rw [List.foldl_cons]
          have hx : 0 ≤ fewF (fewM d) r x ∧ fewF (fewM d) r x ≤ r := by
            unfold fewF
            split
            · exact fewM_le d x r hr
            · exact ⟨hr, Int.le_refl _⟩
          have := ih _ hx.1
          omega
      have := key c.l (left - 1 - c.s.size / 100) (by omega)
      omega
termination_by d => d

theorem fewM_succ (d : Nat) (k n : Int) (s : ByteArray) (l : List C) (left : Int) : fewM (d + 1) (.mk k n s l) left = if left - 1 - (s.size : Int) / 100 < 1 then 0 else l.foldl (fewF (fewM d)) (left - 1 - (s.size : Int) / 100) := rfl

set_option maxHeartbeats 1000000 in
theorem few23 (d : Nat) : ∀ (deep : Nat) (ck cn : Int) (cs : ByteArray) (cl : List C) (u : Value) (left : Int) (w : World), LAt w w.heap.size d u cl → cs.size ≤ 9223372036854775807 → deep ≤ 40 → 0 < left → left ≤ 5000 →
    Calls Try.prog 23 #[.agg #[.int .i64 ck, .int .i64 cn, .string cs, u], .int .i64 left, .int .i64 deep] w fun e w' => e = .returned (.int .i64 (fewM deep (.mk ck cn cs cl) left)) ∧ Below w.heap.size w w' := by
  induction d with
  | zero => intro deep ck cn cs cl u left w h; exact h.elim
  | succ d ih =>
    intro deep ck cn cs cl u left w h hs1 hdeep hl0 hl1
    have HL := Lib.hid h
    obtain ⟨A, cap, rfl, h1, h2, h3⟩ := h
    unfold maxLen at h2
    obtain ⟨q, hq⟩ : ∃ q, fewM deep (.mk ck cn cs cl) left = q := ⟨_, rfl⟩
    rw [hq]
    have HQ := Lib.hid hq
    have HB := Lib.hid (Box.new w (.mk ck cn cs cl) (.slice A cl.length cap))
    have HIH := Lib.hid ih
    clear hq ih h3
    have hdv : ((cs.size : Int)).tdiv 100 = (cs.size : Int) / 100 := Int.tdiv_eq_ediv_of_nonneg (by omega)
    have hw1 : IntKind.i64.wrap ((cs.size : Int) / 100) = (cs.size : Int) / 100 := IntWalk.i64_in _ (by omega)
    by_cases hdp : (deep : Int) < 1
    · have h0 : deep = 0 := by omega
      subst h0
      have hq0 : q = 0 := HQ.out.symm
      subst hq0
      go_enter Try.func23, Try.ntmps23
      go_wp2_with fail
      go_ret
      exact ⟨rfl, HB.out.old⟩
    · obtain ⟨dp, rfl⟩ : ∃ dp, deep = dp + 1 := ⟨deep - 1, by omega⟩
      by_cases hlf : left - 1 - (cs.size : Int) / 100 < 1
      · have hq0 : q = 0 := by rw [← HQ.out, fewM_succ, if_pos hlf]
        subst hq0
        go_enter Try.func23, Try.ntmps23
        go_wp2_with fail
        go_ret
        exact ⟨rfl, HB.out.old⟩
      · have HQ2 : Hid (cl.foldl (fewF (fewM dp)) (left - 1 - (cs.size : Int) / 100) = q) := by unfold Hid; rw [← HQ.out, fewM_succ, if_neg hlf]
        clear HQ
        go_enter Try.func23, Try.ntmps23
        go_wp2_with fail
        go_loopw [1, 7] (fun s1 s7 wr => ∃ (k : Nat) (r : Int), k ≤ cl.length ∧ s7 = .int .i64 k ∧ s1 = .int .i64 r ∧ 0 ≤ r ∧ r ≤ 5000 ∧ Box w (.mk ck cn cs cl) (.slice A cl.length cap) wr ∧ Hid ((cl.drop k).foldl (fewF (fewM dp)) r = q)) (fun _ s7 _ => cl.length - (intOf s7).toNat)
        case atStart => exact ⟨0, _, Nat.zero_le _, rfl, rfl, by omega, by omega, HB.out, HQ2.out⟩
        case round =>
          obtain ⟨k, r, hk, rfl, rfl, hr0, hr1, hbox, HK⟩ := hrel
          have b3 : wr.cell? ⟨w.heap.size, 3, none⟩ = some (.slice A cl.length cap) := hbox.cell 3
          have HBX := Lib.hid hbox
          have hL2 := HL.out.step hbox.old
          have hsz := hbox.size
          clear hbox HB HL
          by_cases hlt : k < cl.length
          · obtain ⟨A', cap', e', -, -, h3⟩ := hL2
            injection e' with e1 e2 e3
            subst e1 e3
            obtain ⟨b, o, rfl, hb, hr⟩ := h3 (by omega)
            have hd := drop_get cl k hlt
            obtain ⟨u, hr, hwf, hsub⟩ := hr k hlt
            generalize cl[k] = x at hd hr hwf hsub
            obtain ⟨xk, xn, xs, xl⟩ := x
            obtain ⟨c0, c1, c2, c3⟩ := hr
            have hxs := hwf.s1
            simp only [k_mk, n_mk, s_mk, l_mk] at c0 c1 c2 c3 hxs hsub
            clear h3 e2 hwf
            by_cases hr2 : 0 < r
            · have HN : Hid ((cl.drop (k + 1)).foldl (fewF (fewM dp)) (fewM dp (.mk xk xn xs xl) r) = q) := by
                unfold Hid
                rw [← HK.out, hd, List.foldl_cons]; unfold fewF; rw [if_pos hr2]
              have HC := Lib.hid (HIH.out dp xk xn xs xl u r wr hsub hxs (by omega) hr2 hr1)
              have hle := fewM_le dp (.mk xk xn xs xl) r hr0
              generalize fewM dp (.mk xk xn xs xl) r = r' at HN HC hle
              clear HK hd hsub
              go_wp2_with (go_at_call 23; refine (HC.out).mono ?_; rintro e w' ⟨rfl, hbel⟩)
              have HX := Lib.hid (HBX.out.step hbel)
              clear HBX hbel
              go_wp2_with fail
              go_roundw
              case rel => exact ⟨k + 1, r', by omega, by go_num, rfl, by omega, by omega, HX.out, HN.out⟩
              case measure => simp [intOf]; omega
            · have hq : r = q := by rw [← HK.out, few_stop _ _ _ hr2]
              subst hq
              clear HK hd
              go_wp2_with fail
              go_ret
              exact ⟨rfl, HBX.out.old⟩
          · have hq : r = q := by rw [← HK.out, List.drop_of_length_le (by omega)]; rfl
            subst hq
            clear HK
            go_wp2_with fail
            go_ret
            exact ⟨rfl, HBX.out.old⟩

end Go.Proofs.Ytdmalkkpcggifaa
