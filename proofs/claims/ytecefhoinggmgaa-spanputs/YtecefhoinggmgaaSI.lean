/-
  The contract of the iterator that span.stretches returns. No condition.
-/
import Derived.Test.YtecefhoinggmgaaPB
import Derived.RangeFuncNested
import Derived.RangeFuncBound
import Derived.RangeFuncCalls
import Derived.RangeFuncLeaves
import Derived.Shelf.Abstract
import Derived.Shelf.RegionOpen
import Derived.WalkKit
import Derived.OwnWalkIn
import Derived.TacticsInMore
import Derived.LoopNIn
import Derived.LoopIn
import Derived.Sort.CutIn
import Derived.Sort.BigQuietIn
import Derived.Stop.RegionWithIn
import Derived.BigRegionIn
namespace Go.Proofs.Ytecefhoinggmgaa
open Go.RowKit Go.Shelf
attribute [local go_sem] Oper.semAt_some

/-- The block of the row that the variable in box B holds. -/
def rowOf (W : World) (B : Nat) : Option Nat := (W.cell? ⟨B, 0, none⟩).bind Value.ownBlock

/-- All blocks below n₀ but B lie as they lay. -/
structure BelX (n₀ B : Nat) (W W' : World) : Prop where
  os : W'.os = W.os
  tape : W'.tape = W.tape
  output : W'.output = W.output
  size : W.heap.size ≤ W'.heap.size
  block : ∀ k, k < n₀ → k ≠ B → W'.heap[k]? = W.heap[k]?
theorem BelX.refl (n₀ B : Nat) (W : World) : BelX n₀ B W W := ⟨rfl, rfl, rfl, Nat.le_refl _, fun _ _ _ => rfl⟩
theorem BelX.trans {n₀ B : Nat} {W1 W2 W3 : World} (h : BelX n₀ B W1 W2) (k : BelX n₀ B W2 W3) : BelX n₀ B W1 W3 :=
  ⟨k.os.trans h.os, k.tape.trans h.tape, k.output.trans h.output, Nat.le_trans h.size k.size, fun i h1 h2 => (k.block i h1 h2).trans (h.block i h1 h2)⟩
theorem BelX.of {n₀ B : Nat} {W W' : World} (h : Below n₀ W W') : BelX n₀ B W W' := ⟨h.os, h.tape, h.output, h.size, fun k hk _ => h.block k hk⟩
theorem BelX.cell {n₀ B : Nat} {W W' : World} (h : BelX n₀ B W W') {p : Addr} (h1 : p.block < n₀) (h2 : p.block ≠ B) : W'.cell? p = W.cell? p := World.cell?_of_block (h.block p.block h1 h2)

/-- What a round keeps: the first two cells of every block but the box B and the row that it holds; the row moves to a new block alone. -/
structure KpB (n₀ B : Nat) (W W' : World) : Prop where
  below : BelX n₀ B W W'
  keep : ∀ k o u, o < 2 → k ≠ B → some k ≠ rowOf W B → W.cell? ⟨k, o, none⟩ = some u → W'.cell? ⟨k, o, none⟩ = some u
  row : rowOf W' B = rowOf W B ∨ ∃ k, rowOf W' B = some k ∧ W.heap.size ≤ k
  fits : (∀ k, rowOf W B = some k → k < W.heap.size) → ∀ k, rowOf W' B = some k → k < W'.heap.size

theorem lt_of_get {W : World} {k : Nat} {o : Obj} (h : W.heap[k]? = some o) : k < W.heap.size := (Array.getElem?_eq_some_iff.1 h).1

theorem KpB.trans {n₀ B : Nat} {W1 W2 W3 : World} (h : KpB n₀ B W1 W2) (k : KpB n₀ B W2 W3) : KpB n₀ B W1 W3 := by
  refine ⟨h.below.trans k.below, fun i o u ho h1 h2 h3 => ?_, ?_, fun hf => k.fits (h.fits hf)⟩
  · refine k.keep i o u ho h1 ?_ (h.keep i o u ho h1 h2 h3)
    rcases h.row with hr | ⟨j, hr, hj⟩
    · rw [hr]; exact h2
    · rw [hr]
      intro x
      have : i < W1.heap.size := World.block_lt_of_cell? W1 _ h3
      have : i = j := by injection x
      omega
  · rcases k.row with hr | ⟨j, hr, hj⟩
    · rw [hr]; exact h.row
    · exact .inr ⟨j, hr, Nat.le_trans h.below.size hj⟩

theorem rowOf_block {W W' : World} {B : Nat} (h : W'.heap[B]? = W.heap[B]?) : rowOf W' B = rowOf W B := by
  unfold rowOf World.cell?
  rw [h]

theorem KpB.refl (n₀ B : Nat) (W : World) : KpB n₀ B W W := ⟨BelX.refl _ _ _, fun _ _ _ _ _ _ h => h, .inl rfl, fun h => h⟩

theorem kpB_b {n₀ B : Nat} {w : World} (hn : n₀ ≤ w.heap.size) (hB : B < w.heap.size) (W : World) (l : Nat) (o o' : Obj) (hl : w.heap.size ≤ l) (h : W.heap[l]? = some o) (hc : o.isCells = false) (_ : o.isWalk = false) : KpB n₀ B W (W.putObj l o') := by
  have hne : B ≠ l := by omega
  have hr : rowOf (W.putObj l o') B = rowOf W B := rowOf_block (World.putObj_heap_other hne)
  refine ⟨BelX.of (belowK_b hn W l o o' hl h hc ‹_›), fun k i u _ _ _ h3 => (World.cell?_of_block (World.putObj_heap_other (fun e => ?_))).trans h3, .inl hr, fun hf k hk => ?_⟩
  · simp only at e
    subst e
    unfold World.cell? at h3
    rw [h] at h3
    cases o <;> simp_all [Obj.isCells]
  · rw [hr] at hk
    have := hf k hk
    have e : (W.putObj l o').heap.size = W.heap.size := by simp [World.putObj]
    omega

/-- A new block, whatever becomes of it before anything else is touched. -/
theorem KpB.grown {n₀ B : Nat} {W W' : World} (hn : n₀ ≤ W.heap.size) (hB : B < W.heap.size) (h : W.grownBy W' none) : KpB n₀ B W W' := by
  have hr : rowOf W' B = rowOf W B := rowOf_block (h.block B hB (by simp))
  exact ⟨BelX.of ((Below.refl _ _).grown h hn (fun k e => by cases e)), fun k o u _ _ _ h3 => (World.cell?_of_block (h.block k (World.block_lt_of_cell? W _ h3) (by simp))).trans h3, .inl hr, fun hf k hk => by rw [hr] at hk; have := hf k hk; have := h.size; omega⟩

/-- The block of the iterator's own row, laid in this round. -/
structure It (wr : World) (f e k n : Int) (s : ByteArray) (W : World) : Prop where
  blk : W.heap[wr.heap.size]? = some (.cells #[.int .i64 f, .int .i64 e, .int .i64 k, .int .i64 n, .string s] 52 (0, 0))
  grown : wr.grownBy W none
theorem It.start (wr : World) (f e k n : Int) (s : ByteArray) : It wr f e k n s (wr.alloc (.cells #[.int .i64 f, .int .i64 e, .int .i64 k, .int .i64 n, .string s] 52)) := ⟨World.alloc_heap_new wr _, World.grownBy_alloc wr _ none⟩
theorem It.drew {wr : World} {f e k n : Int} {s : ByteArray} {W : World} (h : It wr f e k n s W) : It wr f e k n s W.drew := ⟨h.blk, ⟨h.grown.os, h.grown.tape, h.grown.output, h.grown.size, h.grown.block⟩⟩
theorem It.cell {wr : World} {f e k n : Int} {s : ByteArray} {W : World} (h : It wr f e k n s W) :
    W.cell? ⟨wr.heap.size, 0, none⟩ = some (.int .i64 f) ∧ W.cell? ⟨wr.heap.size, 1, none⟩ = some (.int .i64 e) ∧ W.cell? ⟨wr.heap.size, 2, none⟩ = some (.int .i64 k) ∧ W.cell? ⟨wr.heap.size, 3, none⟩ = some (.int .i64 n) ∧ W.cell? ⟨wr.heap.size, 4, none⟩ = some (.string s) := by
  simp [World.cell?, h.blk]
theorem It.frozen {wr : World} {f e k n : Int} {s : ByteArray} {W : World} (h : It wr f e k n s W) (i : Nat) : W.frozen? ⟨wr.heap.size, i, none⟩ = false := by
  simp [World.frozen?, h.blk]
theorem It.to_ {wr : World} {f e k n : Int} {s : ByteArray} {W : World} (h : It wr f e k n s W) (e' : Int) : It wr f e' k n s (W.setCell ⟨wr.heap.size, 1, none⟩ (.int .i64 e')) := by
  refine ⟨?_, ⟨h.grown.os, h.grown.tape, h.grown.output, by have := h.grown.size; simpa [World.setCell] using this, fun i hi hn => (Below.heap_setCell W _ _ i (by simp only; omega)).trans (h.grown.block i hi hn)⟩⟩
  simp [World.setCell, Array.getElem?_modify, h.blk]
theorem It.val {wr : World} {f e k n : Int} {s : ByteArray} {W : World} (h : It wr f e k n s W) (k' n' : Int) (s' : ByteArray) :
    It wr f e k' n' s' (((W.setCell ⟨wr.heap.size, 2, none⟩ (.int .i64 k')).setCell ⟨wr.heap.size, 3, none⟩ (.int .i64 n')).setCell ⟨wr.heap.size, 4, none⟩ (.string s')) := by
  refine ⟨?_, ⟨h.grown.os, h.grown.tape, h.grown.output, by have := h.grown.size; simpa [World.setCell] using this, fun i hi hn => ?_⟩⟩
  · simp [World.setCell, Array.getElem?_modify, h.blk]
  · have hne : i ≠ wr.heap.size := by omega
    rw [Below.heap_setCell _ _ _ i hne, Below.heap_setCell _ _ _ i hne, Below.heap_setCell _ _ _ i hne]
    exact h.grown.block i hi hn

/-- Where the pieces lie from the index pi on. -/
structure PcFrom (n₀ : Nat) (d : List Pc) (pb po pi : Nat) (v : Value) (W : World) : Prop where
  ex : ∃ A cap, v = .slice A (d.length - pi) cap ∧ d.length - pi ≤ cap ∧ cap ≤ maxLen ∧ (pi < d.length → A = some ⟨pb, po + pi * 8, none⟩)
  lt : 0 < d.length → pb < n₀
  at_ : ∀ i (h : i < d.length), PcAt W pb (po + i * 8) d[i]
theorem PcFrom.keptX {n₀ B : Nat} {d : List Pc} {pb po pi : Nat} {v : Value} {W W' : World} (h : PcFrom n₀ d pb po pi v W) (hb : BelX n₀ B W W') (hne : 0 < d.length → pb ≠ B) : PcFrom n₀ d pb po pi v W' :=
  ⟨h.ex, h.lt, fun i hi => (h.at_ i hi).keep fun _ => hb.cell (h.lt (by omega)) (hne (by omega))⟩
theorem RowsAt.keptX {n₀ nr B : Nat} {l : List Row} {v : Value} {W W' : World} (h : RowsAt W nr v l) (hb : BelX n₀ B W W') (h1 : nr ≤ n₀) (h2 : nr ≤ B) : RowsAt W' nr v l :=
  h.keep fun b o hl => hb.cell (p := ⟨b, o, none⟩) (show b < n₀ by omega) (show b ≠ B by omega)
theorem PcFrom.below {n₀ : Nat} {d : List Pc} {pb po pi : Nat} {v : Value} {W W' : World} (h : PcFrom n₀ d pb po pi v W) (hb : Below n₀ W W') : PcFrom n₀ d pb po pi v W' :=
  ⟨h.ex, h.lt, fun i hi => (h.at_ i hi).keep fun _ => hb.cell (h.lt (by omega))⟩

def encS (d : List Pc) (pb po : Nat) (x : Str d) : Array Value := #[rowV x.1, .pointer (x.2.map fun i => ⟨pb, po + i.1 * 8, none⟩)]

def endsAt {β : Type} (t : Int) : List (Seg β) → Bool
  | [] => false
  | r :: _ => r.2.1 == t
theorem cutAt_no {β : Type} {t : Int} {l : List (Seg β)} (h : endsAt t l = false) : cutAt t l = l := by
  cases l with
  | nil => rfl
  | cons r rs =>
    have : ¬ r.2.1 = t := by simpa [endsAt] using h
    exact if_neg this
theorem cutAt_yes {β : Type} {t : Int} {l : List (Seg β)} (h : endsAt t l = true) : ∃ r rs, l = r :: rs ∧ cutAt t l = rs := by
  cases l with
  | nil => cases h
  | cons r rs =>
    have : r.2.1 = t := by simpa [endsAt] using h
    exact ⟨r, rs, rfl, if_pos this⟩
theorem RowsAt.tail {w : World} {B : Nat} {A : Option Addr} {r : Row} {rs : List Row} {cap : Nat} (h : RowsAt w B (.slice A (r :: rs).length cap) (r :: rs)) :
    ∀ b o, A = some ⟨b, o, none⟩ → (cap = 1 → RowsAt w B (.slice A rs.length 0) rs) ∧ (cap ≠ 1 → RowsAt w B (.slice (some ⟨b, o + 5, none⟩) rs.length (cap - 1)) rs) := by
  rintro b o rfl
  obtain ⟨A', c, e, h1, h2, h3⟩ := h
  obtain ⟨b', o', rfl, hb, hr⟩ := h3 (by simp)
  injection e with e1 e2 e3
  injection e1 with e1
  injection e1 with e4 e5
  subst e3 e4 e5
  simp only [List.length_cons] at h1
  refine ⟨fun hc => ⟨_, _, rfl, by omega, Nat.zero_le _, fun h => by omega⟩, fun hc => ⟨_, _, rfl, by omega, by omega, fun _ => ⟨b, o + 5, rfl, hb, fun i hi => ?_⟩⟩⟩
  have := hr (i + 1) (by simp; omega)
  rw [show o + 5 + i * 5 = o + (i + 1) * 5 by omega]
  exact this

theorem piNext_no {d : List Pc} {t : Int} {pi : Nat} (h : endsAt t (d.drop pi) = false) : piNext d t pi = pi := by
  unfold piNext
  by_cases hp : pi < d.length
  · rw [dif_pos hp]
    rw [drop_get d pi hp] at h
    have : ¬ d[pi].2.1 = t := by simpa [endsAt] using h
    rw [if_neg this]
  · rw [dif_neg hp]
theorem piNext_yes {d : List Pc} {t : Int} {pi : Nat} (h : endsAt t (d.drop pi) = true) : pi < d.length ∧ piNext d t pi = pi + 1 := by
  unfold piNext
  by_cases hp : pi < d.length
  · rw [dif_pos hp]
    rw [drop_get d pi hp] at h
    have : d[pi].2.1 = t := by simpa [endsAt] using h
    exact ⟨hp, if_pos this⟩
  · rw [List.drop_of_length_le (by omega)] at h
    cases h
theorem PcFrom.tail {n₀ : Nat} {d : List Pc} {pb po pi : Nat} {A : Option Addr} {m cap : Nat} {W : World} (h : PcFrom n₀ d pb po pi (.slice A (m + 1) cap) W) (hp : pi < d.length) :
    (cap = 1 → PcFrom n₀ d pb po (pi + 1) (.slice A m 0) W) ∧ (cap ≠ 1 → PcFrom n₀ d pb po (pi + 1) (.slice (some ⟨pb, po + pi * 8 + 8, none⟩) m (cap - 1)) W) := by
  obtain ⟨A', c, e, h1, h2, h3⟩ := h.ex
  injection e with e1 e2 e3
  subst e3
  refine ⟨fun hc => ⟨⟨A, 0, by rw [show d.length - (pi + 1) = m by omega], by omega, Nat.zero_le _, fun h => by omega⟩, h.lt, h.at_⟩,
    fun hc => ⟨⟨some ⟨pb, po + pi * 8 + 8, none⟩, cap - 1, by rw [show d.length - (pi + 1) = m by omega], by omega, by omega, fun _ => by rw [show po + pi * 8 + 8 = po + (pi + 1) * 8 by omega]⟩, h.lt, h.at_⟩⟩

def strA (l : List Row) (d : List Pc) : List (Str d) := strN d (2 * l.length + 2 * d.length) 0 l 0

theorem nu_le {β : Type} (a : Int) (l : List (Seg β)) : nu a l ≤ 2 * l.length := by
  cases l with
  | nil => simp [nu]
  | cons r rs => simp only [nu, List.length_cons]; split <;> omega

/-- Where the iterator stands. -/
structure Stand (n₀ nr B pb po : Nat) (l : List Row) (d : List Pc) (J : List (Str d) → World → Prop) (W wr : World) (pre : List (Str d)) (a : Int) (rows : List Row) (pi fuel : Nat) (rv pv : Value) : Prop where
  rowsAt : RowsAt wr nr rv rows
  pcs : PcFrom n₀ d pb po pi pv wr
  j : J pre wr
  bel : BelX n₀ B W wr
  fits : ∀ k, rowOf wr B = some k → k < wr.heap.size
  all : pre ++ strN d fuel a rows pi = strA l d
  fuel : nu a rows + nu a (d.drop pi) ≤ fuel
  lr : Left a 1099511627776 rows
  lp : Left a 1099511627776 (d.drop pi)
  a0 : 0 ≤ a

set_option maxRecDepth 100000 in
set_option maxHeartbeats 2000000 in
theorem iter52_in (n : Nat) (hn : 1 ≤ n) (lp Bl Bd B n₀ nr pb po : Nat) (l : List Row) (d : List Pc) (lv dv : Value) (J Jx : List (Str d) → World → Prop)
    (W : World) (hJ : AbidesFrom W.heap.size J)
    (hY : ∀ pre x W1, J pre W1 → pre.length < (strA l d).length → YieldAt Fence.wide (n - 1) Try.prog lp (encS d pb po x) W1 fun e W' =>
      (e = .returned (.bool true) ∧ J (pre ++ [x]) W' ∧ KpB n₀ B W1 W') ∨ (e = .returned (.bool false) ∧ Jx (pre ++ [x]) W'))
    (hn₀ : n₀ ≤ W.heap.size) (hB : B < W.heap.size) (hfit : ∀ k, rowOf W B = some k → k < W.heap.size)
    (hnr : nr ≤ n₀) (hnB : nr ≤ B) (hpB : 0 < d.length → pb ≠ B)
    (hl : RowsAt W nr lv l) (hd : PcFrom n₀ d pb po 0 dv W) (hBl : W.cell? ⟨Bl, 0, none⟩ = some lv) (hBd : W.cell? ⟨Bd, 0, none⟩ = some dv)
    (hul : Left 0 1099511627776 l) (hud : Left 0 1099511627776 d) (h0 : J [] W) :
    CallsIn Fence.wide n Try.prog 52 #[.func (.yield lp) #[] #[], .pointer (some ⟨Bl, 0, none⟩), .pointer (some ⟨Bd, 0, none⟩)] W fun e W' => (∃ v, e = .returned v) ∧
      ((∃ ys, ys = strA l d ∧ J ys W') ∨ (∃ pre, pre <+: strA l d ∧ Jx pre W')) := by
  have hstart : Stand n₀ nr B pb po l d J W W [] 0 l 0 (2 * l.length + 2 * d.length) lv dv :=
    ⟨hl, hd, h0, BelX.refl _ _ _, hfit, rfl, by have := nu_le 0 l; have := nu_le 0 d; simp only [List.drop_zero]; omega, hul, by simpa using hud, Int.le_refl _⟩
  obtain ⟨lA, lcap, rfl, -⟩ := id hl
  obtain ⟨dA, dcap, rfl, -⟩ := hd.ex
  have HST := Lib.hid hstart
  have HY := Lib.hid hY
  have HJ := Lib.hid hJ
  clear hstart hY hJ hl hd hul hud h0 hfit
  refine callsIn_of_wp Try.func52 rfl trivial ?_ rfl
  simp only [Try.ntmps52, List.size_toArray, List.length_cons, List.length_nil, Nat.reduceAdd, Nat.reduceSub, Array.replicate_succ, Array.replicate_zero, List.push_toArray, List.append_toArray, List.nil_append, List.cons_append]
  gi_wp2
  gi_quiet (fail)
  gi_wp2
  gi_loopw [4, 5, 6] (fun s4 s5 s6 wr => ∃ (pre : List (Str d)) (a : Int) (rows : List Row) (pi fuel : Nat), s6 = .int .i64 a ∧ Hid (Stand n₀ nr B pb po l d J W wr pre a rows pi fuel s4 s5)) (fun _ _ s6 _ => (1099511627776 - intOf s6).toNat)
  case atStart =>
    refine ⟨[], 0, l, 0, 2 * l.length + 2 * d.length, rfl, ?_⟩
    have h := HST.out
    exact ⟨h.rowsAt.keep fun _ _ _ => rfl, ⟨h.pcs.ex, h.pcs.lt, fun i hi => (h.pcs.at_ i hi).keep fun _ => rfl⟩, HJ.out _ _ _ none h.j ⟨rfl, rfl, rfl, Nat.le_refl _, fun _ _ _ => rfl⟩ (fun r e => by cases e), ⟨rfl, rfl, rfl, Nat.le_refl _, fun _ _ _ => rfl⟩, h.fits, h.all, h.fuel, h.lr, h.lp, h.a0⟩
  case round =>
    obtain ⟨pre, a, rows, pi, fuel, rfl, HS⟩ := hrel
    clear HST
    obtain ⟨rA, rcap, rfl, hrc, hrm, hrr⟩ := HS.out.rowsAt
    obtain ⟨pA, pcap, rfl, hpc, hpm, hpp⟩ := HS.out.pcs.ex
    have HRR := Lib.hid hrr
    have HPP := Lib.hid hpp
    clear hrr hpp
    unfold maxLen at hrm hpm
    obtain ⟨m, hm⟩ : ∃ m, d.length - pi = m := ⟨_, rfl⟩
    rw [hm] at hpc HS ⊢
    have HM := Lib.hid hm
    clear hm
    by_cases hend : rows = [] ∧ d.length ≤ pi
    · obtain ⟨rfl, hdp⟩ := hend
      have hz : m = 0 := by have := HM.out; omega
      have HE : Hid (pre = strA l d) := by
        have h := HS.out.all
        have : strN d fuel a [] pi = [] := by
          cases fuel with
          | zero => rfl
          | succ f => rw [strN, if_pos ⟨rfl, hdp⟩]
        rw [this, List.append_nil] at h
        exact h
      have HJJ := Lib.hid HS.out.j
      subst hz
      clear HS hpc hdp HRR HPP HM
      gi_wp2
      go_end0
      exact ⟨⟨_, rfl⟩, .inl ⟨pre, HE.out, HJJ.out⟩⟩
    · have HNE := Lib.hid hend
      clear hend
      gi_upto_region 2 with fail
      gi_cut [18] from 11 (fun s18 wx => s18 = .bool true ∧ wr = wx)
      case first =>
        cases rows with
        | cons r rs =>
          have h0 : (0 : Int) < (rs.length : Int) + 1 := by omega
          gi_wp2_with fail
          gi_meet
          case rel => exact ⟨rfl, rfl⟩
        | nil =>
          have h0 : 0 < m := by
            have h1 := HNE.out
            have h2 := HM.out
            simp only [true_and] at h1
            omega
          gi_wp2_with fail
          gi_meet
          case rel => exact ⟨rfl, rfl⟩
      case rest =>
        obtain ⟨rfl, rfl⟩ := hcut
        gi_upto_if 23 with fail
        gi_cut [] from 11 (fun wx => It wr a (nxt 1099511627776 a rows) (hasV a rows).1 (hasV a rows).2.1 (hasV a rows).2.2 wx)
        case first =>
          cases rows with
          | nil =>
            gi_wp2_with fail
            gi_meet
            case rel => exact It.start _ _ _ _ _ _
          | cons r rs =>
            obtain ⟨b, o, rfl, hb, hr⟩ := HRR.out (by simp)
            have hr0 := hr 0 (by simp)
            obtain ⟨f, e, kk, q, t⟩ := r
            obtain ⟨c0, c1, c2, c3, c4⟩ := hr0
            simp only [Nat.zero_mul, Nat.add_zero, List.getElem_cons_zero] at c0 c1 c2 c3 c4
            clear hr
            have hbl : b < wr.heap.size := Nat.lt_of_lt_of_le (Nat.lt_of_lt_of_le hb hnr) (Nat.le_trans hn₀ HS.out.bel.size)
            have h0 : (0 : Int) < (rs.length : Int) + 1 := by omega
            have h0' : 0 < ((f, e, kk, q, t) :: rs : List Row).length := by simp
            have HC := Lib.hid fun w' => callsIn_wide (n := n - 1) |>.2 (nextEdge53 a f e w')
            have HE : Hid (nxt 1099511627776 a ((f, e, kk, q, t) :: rs) = edge a f e) := rfl
            generalize edge a f e = e2 at HE HC
            by_cases hfa : f ≤ a
            · have HV : Hid (hasV a ((f, e, kk, q, t) :: rs) = (kk, q, t)) := if_pos hfa
              gi_wp2_with fail
              gi_region_with (refine ⟨trivial, ?_⟩; gi_at_call 53; refine (HC.out _).mono ?_; rintro x w' ⟨rfl, rfl⟩)
              all_goals
                gi_wp2_with fail
                gi_meet
                case rel =>
                  rw [HE.out, HV.out]
                  exact (It.start _ _ _ _ _ _).drew
            · have HV : Hid (hasV a ((f, e, kk, q, t) :: rs) = vz) := if_neg hfa
              gi_wp2_with fail
              gi_region_with (refine ⟨trivial, ?_⟩; gi_at_call 53; refine (HC.out _).mono ?_; rintro x w' ⟨rfl, rfl⟩)
              all_goals
                gi_wp2_with fail
                gi_meet
                case rel =>
                  rw [HE.out, HV.out]
                  exact (It.start _ _ _ _ _ _).drew
        case rest =>
          obtain ⟨t1, ht1⟩ : ∃ t1, nxt 1099511627776 a rows = t1 := ⟨_, rfl⟩
          obtain ⟨hk, hq, hs, hvv⟩ : ∃ hk hq hs, hasV a rows = (hk, hq, hs) := ⟨_, _, _, rfl⟩
          rw [ht1, hvv] at hcut
          simp only at hcut
          have HT1 := Lib.hid ht1
          have HVV := Lib.hid hvv
          have HCUT := Lib.hid hcut
          clear ht1 hvv hcut
          gi_upto_if 48 with fail
          gi_cut [8] from 11 (fun s8 wx => s8 = .pointer ((around d a pi).map fun i => ⟨pb, po + i.1 * 8, none⟩) ∧ It wr a (nxt2 a rows (d.drop pi)) hk hq hs wx)
          case first =>
            by_cases hpi : pi < d.length
            · have hpA := HPP.out hpi
              subst hpA
              have hp := HS.out.pcs.at_ pi hpi
              have hbl : pb < wr.heap.size := Nat.lt_of_lt_of_le (HS.out.pcs.lt (by omega)) (Nat.le_trans hn₀ HS.out.bel.size)
              have hdr := drop_get d pi hpi
              have HAR : Hid (around d a pi = if d[pi].1 ≤ a then some ⟨pi, hpi⟩ else none) := dif_pos hpi
              have HN2 : Hid (nxt2 a rows (d.drop pi) = min t1 (edge a d[pi].1 d[pi].2.1)) := by
                unfold Hid
                rw [hdr, ← HT1.out]; rfl
              clear hdr
              generalize d[pi] = p at hp HAR HN2
              obtain ⟨f, e, hv', nv'⟩ := p
              obtain ⟨c0, c1, -⟩ := hp
              simp only at c0 c1 HAR HN2
              have h0 : 0 < m := by have := HM.out; omega
              have h0' : (0 : Int) < (m : Int) := by omega
              have HC := Lib.hid fun w' => callsIn_wide (n := n - 1) |>.2 (nextEdge53 a f e w')
              generalize edge a f e = e2 at HC HN2
              obtain ⟨d0, d1, d2, d3, d4⟩ := HCUT.out.cell
              have hfr := HCUT.out.frozen
              have p0 := (World.cell?_of_block (a := ⟨pb, po + pi * 8, none⟩) (HCUT.out.grown.block pb hbl (by simp))).trans c0
              have p1 := (World.cell?_of_block (a := ⟨pb, po + pi * 8 + 1, none⟩) (HCUT.out.grown.block pb hbl (by simp))).trans c1
              gi_upto_region 10 with fail
              gi_cut [] from 11 (fun wx => It wr a (min t1 e2) hk hq hs wx)
              case first =>
                by_cases hmm : e2 < t1
                · have HMM : Hid (min t1 e2 = e2) := by unfold Hid; omega
                  gi_region_with (refine ⟨trivial, ?_⟩; gi_at_call 53; refine (HC.out _).mono ?_; rintro x w' ⟨rfl, rfl⟩)
                  all_goals
                    gi_wp2_with fail
                    gi_meet
                    case rel =>
                      rw [HMM.out]
                      exact (HCUT.out.to_ _).drew
                · have HMM : Hid (min t1 e2 = t1) := by unfold Hid; omega
                  gi_region_with (refine ⟨trivial, ?_⟩; gi_at_call 53; refine (HC.out _).mono ?_; rintro x w' ⟨rfl, rfl⟩)
                  all_goals
                    gi_wp2_with fail
                    gi_meet
                    case rel =>
                      rw [HMM.out]
                      exact (HCUT.out.to_ _).drew
              case rest =>
                replace HCUT := Lib.hid hcut
                clear hcut d0 d1 d2 d3 d4 hfr p0 p1
                have p0 := (World.cell?_of_block (a := ⟨pb, po + pi * 8, none⟩) (HCUT.out.grown.block pb hbl (by simp))).trans c0
                by_cases hfa : f ≤ a
                · have HA : Hid (around d a pi = some ⟨pi, hpi⟩) := HAR.out.trans (if_pos hfa)
                  gi_wp2_with fail
                  gi_meet
                  case rel =>
                    rw [HA.out, HN2.out]
                    exact ⟨rfl, HCUT.out⟩
                · have HA : Hid (around d a pi = none) := HAR.out.trans (if_neg hfa)
                  gi_wp2_with fail
                  gi_meet
                  case rel =>
                    rw [HA.out, HN2.out]
                    exact ⟨rfl, HCUT.out⟩
            · have h0 : m = 0 := by have := HM.out; omega
              have HN2 : Hid (nxt2 a rows (d.drop pi) = t1) := by
                unfold Hid
                rw [List.drop_of_length_le (by omega), ← HT1.out]; rfl
              have HA : Hid (around d a pi = none) := dif_neg hpi
              have h0' : ¬ 0 < m := by omega
              have h0'' : ¬ (0 : Int) < (m : Int) := by omega
              clear h0
              gi_wp2_with fail
              gi_meet
              case rel =>
                rw [HA.out, HN2.out]
                exact ⟨rfl, HCUT.out⟩
          case rest =>
            obtain ⟨rfl, hcut⟩ := hcut
            have HC2 := Lib.hid hcut
            clear hcut HCUT
            obtain ⟨hst1, hst2, hst3, hst4, hst5⟩ := step_left HS.out.lr HS.out.lp HNE.out
            have hx : (pre ++ [(((a, nxt2 a rows (d.drop pi), hk, hq, hs), around d a pi) : Str d)]) ++ strN d (fuel - 1) (nxt2 a rows (d.drop pi)) (cutAt (nxt2 a rows (d.drop pi)) rows) (piNext d (nxt2 a rows (d.drop pi)) pi) = strA l d := by
              have h1 := HS.out.all
              have h2 := HS.out.fuel
              obtain ⟨f', rfl⟩ : ∃ f', fuel = f' + 1 := ⟨fuel - 1, by omega⟩
              rw [strN, if_neg HNE.out, HVV.out] at h1
              rw [← h1, List.append_assoc]; rfl
            have hfu : nu (nxt2 a rows (d.drop pi)) (cutAt (nxt2 a rows (d.drop pi)) rows) + nu (nxt2 a rows (d.drop pi)) (d.drop (piNext d (nxt2 a rows (d.drop pi)) pi)) ≤ fuel - 1 := by have := HS.out.fuel; omega
            obtain ⟨t2, ht2⟩ : ∃ t2, nxt2 a rows (d.drop pi) = t2 := ⟨_, rfl⟩
            rw [ht2] at hst1 hst2 hst3 hst4 hx hfu HC2
            have HF := Lib.hid hfu
            have HX := Lib.hid hx
            have HL3 := Lib.hid hst3
            have HL4 := Lib.hid hst4
            clear hst5 hst3 hst4 hx hfu ht2
            have hlen : pre.length < (strA l d).length := by rw [← HX.out, List.length_append, List.length_append, List.length_singleton]; omega
            have hJc : J pre wc := HJ.out _ _ _ none HS.out.j HC2.out.grown (fun r e => by cases e)
            have hyy := HY.out pre ((a, t2, hk, hq, hs), around d a pi) wc hJc hlen
            unfold encS rowV at hyy
            simp only at hyy
            obtain ⟨ptr, hptr⟩ : ∃ ptr, (around d a pi).map (fun i => (⟨pb, po + i.1 * 8, none⟩ : Addr)) = ptr := ⟨_, rfl⟩
            rw [hptr] at hyy ⊢
            clear hptr
            obtain ⟨fn, tmps, assign, body, hy, hR⟩ := hyy
            have HR := Lib.hid hR
            clear hR hlen hJc
            obtain ⟨d0, d1, d2, d3, d4⟩ := HC2.out.cell
            gi_wp2_with fail
            refine HR.out.mono ?_
            rintro ee W3 (⟨rfl, hJ3, hk3⟩ | ⟨rfl, hJx3⟩)
            · have hsz : n₀ ≤ wr.heap.size := Nat.le_trans hn₀ HS.out.bel.size
              have hBr : B < wr.heap.size := Nat.lt_of_lt_of_le hB HS.out.bel.size
              have hkg := KpB.grown hsz hBr HC2.out.grown
              have hbel := hkg.below.trans hk3.below
              have hrs : RowsAt W3 nr _ rows := HS.out.rowsAt.keptX hbel hnr hnB
              have hps := HS.out.pcs.keptX hbel hpB
              have hft : ∀ k, rowOf W3 B = some k → k < W3.heap.size := hk3.fits (hkg.fits HS.out.fits)
              have hro : rowOf wc B = rowOf wr B := rowOf_block (HC2.out.grown.block B hBr (by simp))
              have t1c : W3.cell? ⟨wr.heap.size, 1, none⟩ = some (.int .i64 t2) := hk3.keep wr.heap.size 1 _ (by omega) (by omega) (fun e => by rw [hro] at e; have := HS.out.fits _ e.symm; omega) HC2.out.cell.2.1
              have HST2 : Hid (∀ rv pv, RowsAt W3 nr rv (cutAt t2 rows) → PcFrom n₀ d pb po (piNext d t2 pi) pv W3 → Stand n₀ nr B pb po l d J W W3 (pre ++ [((a, t2, hk, hq, hs), around d a pi)]) t2 (cutAt t2 rows) (piNext d t2 pi) (fuel - 1) rv pv) :=
                fun rv pv h1 h2 => ⟨h1, h2, hJ3, HS.out.bel.trans hbel, hft, HX.out, HF.out, HL3.out, HL4.out, by have := HS.out.a0; omega⟩
              have HRS := Lib.hid hrs
              have HPS := Lib.hid hps
              have HL3' := HL3
              clear hJ3 hk3 hkg hbel hrs hps hft hro HX HF d0 d1 d2 d3 d4 HC2 HR hy HVV HT1 HRR HPP HS
              have HREL : Hid (∀ rv pv, RowsAt W3 nr rv (cutAt t2 rows) → PcFrom n₀ d pb po (piNext d t2 pi) pv W3 → (∃ (pre : List (Str d)) (a : Int) (rows : List Row) (pi fuel : Nat), Value.int .i64 t2 = .int .i64 a ∧ Hid (Stand n₀ nr B pb po l d J W W3 pre a rows pi fuel rv pv)) ∧ (1099511627776 - intOf (.int .i64 t2)).toNat < (1099511627776 - intOf (.int .i64 a)).toNat) :=
                fun rv pv h1 h2 => ⟨⟨_, _, _, _, _, rfl, HST2.out rv pv h1 h2⟩, by simp only [intOf]; omega⟩
              clear HST2 HL3 HL4
              gi_upto_region 15 with fail
              gi_cut [88] from 11 (fun s88 wx => s88 = .bool (endsAt t2 rows) ∧ W3 = wx)
              case first =>
                clear HPS HREL HY HJ
                cases rows with
                | nil =>
                  gi_wp2_with fail
                  gi_meet
                  case rel => exact ⟨rfl, rfl⟩
                | cons r rs =>
                  obtain ⟨A, c, hA, -, -, hr⟩ := HRS.out
                  obtain ⟨b, o, rfl, hb, hr⟩ := hr (by simp)
                  have hr0 := hr 0 (by simp)
                  obtain ⟨f, e, kk, q, t⟩ := r
                  obtain ⟨-, c1, -⟩ := hr0
                  have hrA : rA = some ⟨b, o, none⟩ := by injection hA
                  subst hrA
                  simp only [Nat.zero_mul, Nat.add_zero, List.getElem_cons_zero] at c1
                  clear hr hA
                  gi_wp2_with fail
                  gi_meet
                  case rel => exact ⟨rfl, rfl⟩
              case rest =>
                obtain ⟨rfl, rfl⟩ := hcut
                gi_upto_if 88 with fail
                gi_cut [4] from 11 (fun s4 wx => RowsAt W3 nr s4 (cutAt t2 rows) ∧ W3 = wx)
                case first =>
                  clear HPS HREL HY HJ
                  cases hen : endsAt t2 rows with
                  | false =>
                    have HCA : Hid (cutAt t2 rows = rows) := cutAt_no hen
                    gi_wp2_with fail
                    gi_meet
                    case rel => exact ⟨by rw [HCA.out]; exact HRS.out, rfl⟩
                  | true =>
                    obtain ⟨r, rs, rfl, HCA⟩ := cutAt_yes hen
                    have HCA := Lib.hid HCA
                    have HTL := HRS.out.tail
                    obtain ⟨A, c, hA, hc1, hc2, hr⟩ := HRS.out
                    obtain ⟨b, o, rfl, hb, hr⟩ := hr (by simp)
                    have hrA : rA = some ⟨b, o, none⟩ ∧ rcap = c := by injection hA with h1 h2 h3; exact ⟨h1, h3⟩
                    obtain ⟨rfl, rfl⟩ := hrA
                    by_cases hcap : rcap = 1
                    · have HTT := Lib.hid ((HTL b o rfl).1 hcap)
                      subst hcap
                      clear HTL
                      gi_wp2_with fail
                      gi_meet
                      case rel => exact ⟨by rw [HCA.out]; exact HTT.out, rfl⟩
                    · have HTT := Lib.hid ((HTL b o rfl).2 hcap)
                      clear HTL
                      gi_wp2_with fail
                      gi_meet
                      case rel => exact ⟨by rw [HCA.out]; exact HTT.out, rfl⟩
                case rest =>
                  obtain ⟨hr4, rfl⟩ := hcut
                  have HR4 := Lib.hid hr4
                  obtain ⟨rA4, rcap4, rfl, -⟩ := hr4
                  clear HRS
                  gi_upto_region 17 with fail
                  gi_cut [101] from 11 (fun s101 wx => s101 = .bool (endsAt t2 (d.drop pi)) ∧ W3 = wx)
                  case first =>
                    clear HREL HY HJ HR4
                    by_cases hpi : pi < d.length
                    · obtain ⟨A, c, hA, -, -, hr⟩ := HPS.out.ex
                      have hpA : pA = some ⟨pb, po + pi * 8, none⟩ := by injection hA with h1 h2 h3; rw [h1]; exact hr hpi
                      subst hpA
                      have hp := HPS.out.at_ pi hpi
                      have HDR := Lib.hid (drop_get d pi hpi)
                      generalize d[pi] = p at hp HDR
                      obtain ⟨f, e, hv', nv'⟩ := p
                      obtain ⟨-, c1, -⟩ := hp
                      simp only at c1
                      have h0 : 0 < m := by have := HM.out; omega
                      have h0' : (0 : Int) < (m : Int) := by omega
                      clear hA hr
                      gi_wp2_with fail
                      gi_meet
                      case rel => exact ⟨by rw [HDR.out]; rfl, rfl⟩
                    · have h0' : ¬ 0 < m := by have := HM.out; omega
                      have h0'' : ¬ (0 : Int) < (m : Int) := by omega
                      have HDR : Hid (d.drop pi = []) := List.drop_of_length_le (by omega)
                      gi_wp2_with fail
                      gi_meet
                      case rel => exact ⟨by rw [HDR.out]; rfl, rfl⟩
                  case rest =>
                    obtain ⟨rfl, rfl⟩ := hcut
                    gi_upto_if 101 with fail
                    cases hen : endsAt t2 (d.drop pi) with
                    | false =>
                      have HF := Lib.hid (HREL.out _ (.slice pA m pcap) HR4.out (by rw [piNext_no hen]; exact HPS.out))
                      clear HREL HY HJ HR4 HPS
                      gi_wp2
                      exact HF.out
                    | true =>
                      obtain ⟨hpi, hca⟩ := piNext_yes hen
                      have HCA := Lib.hid hca
                      clear hca
                      obtain ⟨m', rfl⟩ : ∃ m', m = m' + 1 := ⟨m - 1, by have := HM.out; omega⟩
                      obtain ⟨A, c, hA, -, -, hr⟩ := HPS.out.ex
                      have hpA : pA = some ⟨pb, po + pi * 8, none⟩ := by injection hA with h1 h2 h3; rw [h1]; exact hr hpi
                      subst hpA
                      clear hA hr
                      have HTL := HPS.out.tail hpi
                      by_cases hcap : pcap = 1
                      · obtain rfl : m' = 0 := by omega
                        have HF := Lib.hid (HREL.out _ _ HR4.out (by rw [HCA.out]; exact HTL.1 hcap))
                        subst hcap
                        clear HTL HREL HY HJ HR4 HPS
                        gi_wp2
                        exact HF.out
                      · have HF := Lib.hid (HREL.out _ _ HR4.out (by rw [HCA.out]; exact HTL.2 hcap))
                        clear HTL HREL HY HJ HR4 HPS
                        gi_wp2
                        exact HF.out
            · have HJX := Lib.hid hJx3
              have HPF : Hid (pre ++ [(((a, t2, hk, hq, hs), around d a pi) : Str d)] <+: strA l d) := ⟨_, HX.out⟩
              clear hJx3 HX
              gi_wp2
              refine bodyPost_ret (results_none rfl _ _ _) rfl ?_
              exact ⟨⟨_, rfl⟩, .inr ⟨_, HPF.out, HJX.out⟩⟩

/-- The iterator of stretches, for whatever loop keeps what KpB says. -/
theorem iter52 (n : Nat) (hn : 1 ≤ n) (Bl Bd B n₀ nr pb po : Nat) (l : List Row) (d : List Pc) (lv dv : Value) (w : World)
    (hn₀ : n₀ ≤ w.heap.size) (hB : B < w.heap.size) (hfit : ∀ k, rowOf w B = some k → k < w.heap.size)
    (hnr : nr ≤ n₀) (hnB : nr ≤ B) (hpB : 0 < d.length → pb ≠ B)
    (hl : RowsAt w nr lv l) (hd : PcFrom n₀ d pb po 0 dv w) (hBl : w.cell? ⟨Bl, 0, none⟩ = some lv) (hBd : w.cell? ⟨Bd, 0, none⟩ = some dv)
    (hul : Left 0 1099511627776 l) (hud : Left 0 1099511627776 d) :
    SeqStopsK Fence.wide n Try.prog 52 #[.pointer (some ⟨Bl, 0, none⟩), .pointer (some ⟨Bd, 0, none⟩)] (encS d pb po) (KpB n₀ B) (fun xs => xs = strA l d) (fun pre => pre <+: strA l d) (strA l d).length w := by
  intro lp J Jx W hbW hJ hJx hY h0
  have hb0 := hbW.mono hn₀
  have hBw : W.heap[B]? = w.heap[B]? := hbW.block B hB
  have hlt : ∀ {b : Nat} {v : Value}, w.cell? ⟨b, 0, none⟩ = some v → b < w.heap.size := fun h => World.block_lt_of_cell? w _ h
  exact iter52_in n hn lp Bl Bd B n₀ nr pb po l d lv dv J Jx W hJ hY (Nat.le_trans hn₀ hbW.size) (Nat.lt_of_lt_of_le hB hbW.size)
    (fun k hk => Nat.lt_of_lt_of_le (hfit k (by rw [← rowOf_block hBw]; exact hk)) hbW.size) hnr hnB hpB
    (hl.below (hb0.mono hnr)) (hd.below hb0) ((hbW.cell (hlt hBl)).trans hBl) ((hbW.cell (hlt hBd)).trans hBd) hul hud h0

end Go.Proofs.Ytecefhoinggmgaa
