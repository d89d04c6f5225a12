/-
  The plain model of chapter 3: SHA-256's words and rounds over integers, as the program reckons them. Nothing here speaks of the program. Slices of bytes of the call's own; state.bytes. No condition. The padding. No condition. The plain model of a hash: its state and its block, for the bytes that were put. Nothing here speaks of the program.
-/
import Derived.WalkKit
import Derived.Test.YtjanddnlhaionaaGreatDoorRows
import Derived.WalkSpells
import Derived.WalkLawsBesides
import Derived.Lib.Hide
import Derived.Deep.QuietTactic
import Derived.BigQuiet
import Derived.Deep.WholeRow
import Derived.Deep.MidRow
import Derived.StillTailTactics
import Derived.Laws.BytesString
import Derived.Laws.BytesArg
import Derived.WalkSmall
set_option maxRecDepth 100000
namespace Go.Proofs.YtjanddnlhaionaaGreatDoor.L3
open Go

def bytesV (l : List UInt8) : List Value := l.map fun b => .int .u8 (b.toNat : Int)
def wordsV (l : List Int) : List Value := l.map fun z => .int .u32 z

def rotM (x n : Int) : Int := bits .or .u32 (x / 2 ^ n.toNat) (x * 2 ^ (32 - n).toNat % 4294967296)
def num4 (a b c d : UInt8) : Int :=
  bits .or .u32 (bits .or .u32 (bits .or .u32 ((a.toNat : Int) % 4294967296 * 16777216 % 4294967296) ((b.toNat : Int) % 4294967296 * 65536 % 4294967296)) ((c.toNat : Int) % 4294967296 * 256 % 4294967296)) ((d.toNat : Int) % 4294967296)
def xo (a b : Int) : Int := bits .xor .u32 a b
def wNext (x15 x2 x7 x16 : Int) : Int :=
  (xo (xo (rotM x2 17) (rotM x2 19)) (x2 / 1024) + x7 + xo (xo (rotM x15 7) (rotM x15 18)) (x15 / 8) + x16) % 4294967296
def word (B : List UInt8) (W : List Int) (i : Nat) : Int :=
  if i < 16 then num4 (B.getD (4 * i) 0) (B.getD (4 * i + 1) 0) (B.getD (4 * i + 2) 0) (B.getD (4 * i + 3) 0)
  else wNext (W.getD (i - 15) 0) (W.getD (i - 2) 0) (W.getD (i - 7) 0) (W.getD (i - 16) 0)
def wordsTo (B : List UInt8) : Nat → List Int
  | 0 => []
  | i + 1 => wordsTo B i ++ [word B (wordsTo B i) i]
theorem wordsTo_length (B : List UInt8) : ∀ i, (wordsTo B i).length = i
  | 0 => rfl
  | i + 1 => by simp [wordsTo, wordsTo_length B i]

/-- A row of 64 words in the making: the first are reckoned, the rest is zero. -/
def rowTo (l : List Int) : List Value := wordsV (l ++ List.replicate (64 - l.length) 0)
theorem rowTo_length (l : List Int) (h : l.length ≤ 64) : (rowTo l).length = 64 := by simp [rowTo, wordsV]; omega
theorem rowTo_get (l : List Int) (i : Nat) (h : i < l.length) : (rowTo l)[i]? = some (.int .u32 (l.getD i 0)) := by
  unfold rowTo wordsV
  rw [List.map_append, List.getElem?_append_left (by simpa using h)]
  simp [h]
theorem rowTo_get0 (l : List Int) (i : Nat) (h : l.length ≤ i) (h2 : i < 64) : (rowTo l)[i]? = some (.int .u32 0) := by
  unfold rowTo wordsV
  rw [List.map_append, List.getElem?_append_right (by simpa using h), List.map_replicate, List.length_map, List.getElem?_replicate, if_pos (by omega)]
theorem rowTo_full (l : List Int) (h : l.length = 64) : rowTo l = wordsV l := by simp [rowTo, h]
theorem words_oneCell (l : List Int) : (wordsV l).toArray.all (·.oneCell') = true := by
  rw [Array.all_eq_true_iff_forall_mem]
  intro v hv
  simp [wordsV] at hv
  obtain ⟨z, -, rfl⟩ := hv
  rfl
theorem rowTo_set (l : List Int) (z : Int) (h : l.length < 64) : (rowTo l).set l.length (.int .u32 z) = rowTo (l ++ [z]) := by
  unfold rowTo wordsV
  obtain ⟨m, hm⟩ : ∃ m, 64 - l.length = m + 1 := ⟨63 - l.length, by omega⟩
  have h2 : 64 - (l ++ [z]).length = m := by simp; omega
  rw [hm, h2, List.replicate_succ, List.map_append, List.map_append, List.map_append]
  rw [List.set_append_right _ _ (by simp)]
  simp
/-- The eight integers. -/
structure St where
  (a b c d e f g h : Int)
def sig1 (e : Int) : Int := xo (xo (rotM e 6) (rotM e 11)) (rotM e 25)
def sig0 (a : Int) : Int := xo (xo (rotM a 2) (rotM a 13)) (rotM a 22)
def chM (e f g : Int) : Int := bits .or .u32 (bits .and .u32 e f) (bits .and .u32 (bits .xor .u32 IntKind.u32.max e) g)
def majM (a b c : Int) : Int := bits .or .u32 (bits .or .u32 (bits .and .u32 a b) (bits .and .u32 a c)) (bits .and .u32 b c)
def t1M (s : St) (y x : Int) : Int := (s.h + sig1 s.e + chM s.e s.f s.g + y + x) % 4294967296
def t2M (s : St) : Int := (sig0 s.a + majM s.a s.b s.c) % 4294967296
def stepM (s : St) (y x : Int) : St := ⟨(t1M s y x + t2M s) % 4294967296, s.a, s.b, s.c, (s.d + t1M s y x) % 4294967296, s.e, s.f, s.g⟩
def stepsTo (K W : List Int) (s : St) : Nat → St
  | 0 => s
  | k + 1 => stepM (stepsTo K W s k) (K.getD k 0) (W.getD k 0)
def addSt (s t : St) : St := ⟨(s.a + t.a) % 4294967296, (s.b + t.b) % 4294967296, (s.c + t.c) % 4294967296, (s.d + t.d) % 4294967296, (s.e + t.e) % 4294967296, (s.f + t.f) % 4294967296, (s.g + t.g) % 4294967296, (s.h + t.h) % 4294967296⟩
/-- The state into which a block of 64 bytes changes a state. -/
def afterM (K : List Int) (s : St) (B : List UInt8) : St := addSt s (stepsTo K (wordsTo B 64) s 64)
def St.cells (s : St) : Array Value := #[.int .u32 s.a, .int .u32 s.b, .int .u32 s.c, .int .u32 s.d, .int .u32 s.e, .int .u32 s.f, .int .u32 s.g, .int .u32 s.h]
end Go.Proofs.YtjanddnlhaionaaGreatDoor.L3
namespace Go.Proofs.YtjanddnlhaionaaGreatDoor.L3
open Go.RowKit

set_option maxHeartbeats 400000 in
theorem rotate32 (x n : Int) (h0 : 0 ≤ n) (h1 : n ≤ 31) (w : World) :
    Calls Tryz.prog 176 #[.int .u32 x, .int .i64 n] w fun e w' => e = .returned (.int .u32 (rotM x n)) ∧ ∃ m, w' = w.drewN m := by
  go_enter Tryz.func176, Tryz.ntmps176
  go_wp2
  go_quiet (fail)
  go_wp2
  go_ret
  exact ⟨rfl, _, rfl⟩

set_option maxHeartbeats 400000 in
theorem exists24 (b : Nat) (m : Bool) (w : World) (h : w.cell? ⟨b, 0, none⟩ = some (.bool m)) :
    Calls Tryz.prog 142 #[.pointer (some ⟨b, 0, none⟩)] w fun e w' => e = .returned (.bool m) ∧ w = w' := by
  go_enter Tryz.func142, Tryz.ntmps142
  go_wp2
  go_ret
  exact ⟨rfl, rfl⟩
end Go.Proofs.YtjanddnlhaionaaGreatDoor.L3
namespace Go.Proofs.YtjanddnlhaionaaGreatDoor.L3
open Go.RowKit

theorem cell_row {w : World} {g j : Nat} {l : List Value} {t : TypeId} {v : Value} (h : w.heap[g]? = some (.cells l.toArray t (0, 0))) (hv : l[j]? = some v) : w.cell? ⟨g, j, none⟩ = some v := by
  rw [cell_of_row w g j _ t _ h]; simpa using hv
theorem bytesV_get (B : List UInt8) (j : Nat) (h : j < B.length) : (bytesV B)[j]? = some (.int .u8 ((B.getD j 0).toNat : Int)) := by
  simp [bytesV, h]

/-- The three blocks of words. -/
structure W31 (w : World) (B : List UInt8) (l : List Int) (wr : World) : Prop where
  hb : wr.heap[w.heap.size]? = some (.cells (bytesV B).toArray 215 (0, 0))
  hr : wr.heap[w.heap.size + 1]? = some (.cells (rowTo []).toArray 221 (0, 0))
  hw : wr.heap[w.heap.size + 1 + 1]? = some (.cells (rowTo l).toArray 221 (0, 0))
  below : Below w.heap.size w wr
theorem W31.drew {w : World} {B : List UInt8} {l : List Int} {wr : World} (h : W31 w B l wr) : W31 w B l wr.drew := ⟨h.hb, h.hr, h.hw, h.below.drew⟩
theorem W31.drewN {w : World} {B : List UInt8} {l : List Int} {wr : World} (h : W31 w B l wr) : ∀ n, W31 w B l (wr.drewN n)
  | 0 => h
  | n + 1 => (h.drewN n).drew
theorem W31.set {w : World} {B : List UInt8} {l : List Int} {wr : World} (h : W31 w B l wr) (hl : l.length < 64) (z : Int) :
    W31 w B (l ++ [z]) (wr.setCell ⟨w.heap.size + 1 + 1, l.length, none⟩ (.int .u32 z)) := by
  refine ⟨?_, ?_, ?_, h.below.setCell (by simp; omega) _⟩
  · rw [heap_setCell_other _ _ _ _ (by simp; omega)]; exact h.hb
  · rw [heap_setCell_other _ _ _ _ (by simp)]; exact h.hr
  · rw [heap_setCell_same _ _ _ _ _ _ h.hw, ← rowTo_set l z hl]
    simp

theorem cells0 : (#[Value.int .u32 0, Value.int .u32 0, Value.int .u32 0, Value.int .u32 0, Value.int .u32 0, Value.int .u32 0, Value.int .u32 0, Value.int .u32 0,
 Value.int .u32 0, Value.int .u32 0, Value.int .u32 0, Value.int .u32 0, Value.int .u32 0, Value.int .u32 0, Value.int .u32 0, Value.int .u32 0,
 Value.int .u32 0, Value.int .u32 0, Value.int .u32 0, Value.int .u32 0, Value.int .u32 0, Value.int .u32 0, Value.int .u32 0, Value.int .u32 0,
 Value.int .u32 0, Value.int .u32 0, Value.int .u32 0, Value.int .u32 0, Value.int .u32 0, Value.int .u32 0, Value.int .u32 0, Value.int .u32 0,
 Value.int .u32 0, Value.int .u32 0, Value.int .u32 0, Value.int .u32 0, Value.int .u32 0, Value.int .u32 0, Value.int .u32 0, Value.int .u32 0,
 Value.int .u32 0, Value.int .u32 0, Value.int .u32 0, Value.int .u32 0, Value.int .u32 0, Value.int .u32 0, Value.int .u32 0, Value.int .u32 0,
 Value.int .u32 0, Value.int .u32 0, Value.int .u32 0, Value.int .u32 0, Value.int .u32 0, Value.int .u32 0, Value.int .u32 0, Value.int .u32 0,
 Value.int .u32 0, Value.int .u32 0, Value.int .u32 0, Value.int .u32 0, Value.int .u32 0, Value.int .u32 0, Value.int .u32 0, Value.int .u32 0] : Array Value) = (rowTo []).toArray := by
  rfl

theorem w31_start (w : World) (B : List UInt8) (z : Array Value) (hz : z = (rowTo []).toArray) :
    W31 w B [] (((w.alloc (.cells (bytesV B).toArray 215)).alloc (.cells z 221)).alloc (.cells z 221)) := by
  subst hz
  refine ⟨?_, ?_, ?_, ?_⟩
  · rw [Below.heap_alloc _ _ _ (by simp; omega), Below.heap_alloc _ _ _ (by simp), heap_alloc_new]
  · have := heap_alloc2_old (w.alloc (.cells (bytesV B).toArray 215)) (.cells (rowTo []).toArray 221) (.cells (rowTo []).toArray 221)
    simpa using this
  · have := heap_alloc2_new (w.alloc (.cells (bytesV B).toArray 215)) (.cells (rowTo []).toArray 221) (.cells (rowTo []).toArray 221)
    simpa using this
  · exact (((Below.refl _ _).alloc (Nat.le_refl _) _).alloc (by simp) _).alloc (by simp; omega) _

set_option maxHeartbeats 400000 in
theorem words31 (B : List UInt8) (hB : B.length = 64) (w : World) :
    Calls Tryz.prog 175 #[.agg (bytesV B).toArray] w fun e w' => e = .returned (.agg (wordsV (wordsTo B 64)).toArray) ∧ Below w.heap.size w w' := by
  have hsz : (bytesV B).length = 64 := by simp [bytesV, hB]
  have hst := Lib.hid (w31_start w B _ cells0)
  go_enter Tryz.func175, Tryz.ntmps175
  go_wp2
  go_loopw [8] (fun s8 wr => ∃ k : Nat, k ≤ 16 ∧ s8 = .int .i64 k ∧ Hid (W31 w B (wordsTo B k) wr)) (fun s8 _ => 16 - (intOf s8).toNat)
  case atStart => exact ⟨0, by omega, rfl, hst⟩
  case round =>
    obtain ⟨k, hk, rfl, HW⟩ := hrel
    by_cases hlt : k < 16
    · obtain ⟨j0, hj0⟩ : ∃ j, j = 4 * k := ⟨_, rfl⟩
      obtain ⟨j1, hj1⟩ : ∃ j, j = 4 * k + 1 := ⟨_, rfl⟩
      obtain ⟨j2, hj2⟩ : ∃ j, j = 4 * k + 2 := ⟨_, rfl⟩
      obtain ⟨j3, hj3⟩ : ∃ j, j = 4 * k + 3 := ⟨_, rfl⟩
      have e0 : IntKind.i64.wrap (4 * (k : Int)) = j0 := by rw [IntKind.wrap_i64]; omega
      have e1 : IntKind.i64.wrap ((j0 : Int) + 1) = j1 := by rw [IntKind.wrap_i64]; omega
      have e2 : IntKind.i64.wrap ((j0 : Int) + 2) = j2 := by rw [IntKind.wrap_i64]; omega
      have e3 : IntKind.i64.wrap ((j0 : Int) + 3) = j3 := by rw [IntKind.wrap_i64]; omega
      have b0 : (j0 : Int) < 64 := by omega
      have b1 : (j1 : Int) < 64 := by omega
      have b2 : (j2 : Int) < 64 := by omega
      have b3 : (j3 : Int) < 64 := by omega
      have bk : (k : Int) < 64 := by omega
      have c0 := cell_row HW.out.hb (bytesV_get B j0 (by omega))
      have c1 := cell_row HW.out.hb (bytesV_get B j1 (by omega))
      have c2 := cell_row HW.out.hb (bytesV_get B j2 (by omega))
      have c3 := cell_row HW.out.hb (bytesV_get B j3 (by omega))
      have HZ : Hid (word B (wordsTo B k) k = num4 (B.getD j0 0) (B.getD j1 0) (B.getD j2 0) (B.getD j3 0)) := by
        unfold Hid word
        rw [if_pos hlt, hj0, hj1, hj2, hj3]
      generalize B.getD j0 0 = x0 at c0 HZ
      generalize B.getD j1 0 = x1 at c1 HZ
      generalize B.getD j2 0 = x2 at c2 HZ
      generalize B.getD j3 0 = x3 at c3 HZ
      clear hj0 hj1 hj2 hj3 hk
      have cw := cell_row HW.out.hw (rowTo_get0 (wordsTo B k) k (by rw [wordsTo_length]; omega) (by omega))
      have fw := frozen_of_row wr _ k _ _ HW.out.hw
      have HN : Hid (W31 w B (wordsTo B (k + 1)) (wr.setCell ⟨w.heap.size + 1 + 1, k, none⟩ (.int .u32 (num4 x0 x1 x2 x3))).drew) := by
        have := (HW.out.set (by rw [wordsTo_length]; omega) (num4 x0 x1 x2 x3)).drew
        rw [wordsTo_length] at this
        unfold Hid wordsTo
        rw [HZ.out]
        exact this
      clear HZ HW
      go_wp2
      go_still_tail 31, (by kernel_rfl)
      change wpList _ _ _ _ _ wr.drew
      go_wp2
      go_roundw
      case rel => exact ⟨k + 1, by omega, by go_num, HN⟩
      case measure => simp [intOf]; omega
    · have hk16 : k = 16 := by omega
      rw [hk16] at HW
      clear hk16 hk hst
      go_wp2
      go_loopw [5] (fun s5 wr => ∃ k : Nat, 16 ≤ k ∧ k ≤ 64 ∧ s5 = .int .i64 k ∧ Hid (W31 w B (wordsTo B k) wr)) (fun s5 _ => 64 - (intOf s5).toNat)
      case atStart => exact ⟨16, by omega, by omega, rfl, HW⟩
      case round =>
        obtain ⟨k, hk0, hk, rfl, HW⟩ := hrel
        by_cases hlt : k < 64
        · obtain ⟨j15, hj15⟩ : ∃ j, j = k - 15 := ⟨_, rfl⟩
          obtain ⟨j2, hj2⟩ : ∃ j, j = k - 2 := ⟨_, rfl⟩
          obtain ⟨j7, hj7⟩ : ∃ j, j = k - 7 := ⟨_, rfl⟩
          obtain ⟨j16, hj16⟩ : ∃ j, j = k - 16 := ⟨_, rfl⟩
          have e15 : IntKind.i64.wrap ((k : Int) - 15) = j15 := by rw [IntKind.wrap_i64]; omega
          have e2 : IntKind.i64.wrap ((k : Int) - 2) = j2 := by rw [IntKind.wrap_i64]; omega
          have e7 : IntKind.i64.wrap ((k : Int) - 7) = j7 := by rw [IntKind.wrap_i64]; omega
          have e16 : IntKind.i64.wrap ((k : Int) - 16) = j16 := by rw [IntKind.wrap_i64]; omega
          have b15 : (j15 : Int) < 64 := by omega
          have b2 : (j2 : Int) < 64 := by omega
          have b7 : (j7 : Int) < 64 := by omega
          have b16 : (j16 : Int) < 64 := by omega
          have bk : (k : Int) < 64 := by omega
          have hl := wordsTo_length B k
          have c15 := cell_row HW.out.hw (rowTo_get (wordsTo B k) j15 (by omega))
          have c2 := cell_row HW.out.hw (rowTo_get (wordsTo B k) j2 (by omega))
          have c7 := cell_row HW.out.hw (rowTo_get (wordsTo B k) j7 (by omega))
          have c16 := cell_row HW.out.hw (rowTo_get (wordsTo B k) j16 (by omega))
          have HZ : Hid (word B (wordsTo B k) k = wNext ((wordsTo B k).getD j15 0) ((wordsTo B k).getD j2 0) ((wordsTo B k).getD j7 0) ((wordsTo B k).getD j16 0)) := by
            unfold Hid word
            rw [if_neg (by omega), hj15, hj2, hj7, hj16]
          generalize (wordsTo B k).getD j15 0 = x15 at c15 HZ
          generalize (wordsTo B k).getD j2 0 = x2 at c2 HZ
          generalize (wordsTo B k).getD j7 0 = x7 at c7 HZ
          generalize (wordsTo B k).getD j16 0 = x16 at c16 HZ
          have cw := cell_row HW.out.hw (rowTo_get0 (wordsTo B k) k (by omega) (by omega))
          have fw := frozen_of_row wr _ k _ _ HW.out.hw
          have HN : Hid (∀ W, W31 w B (wordsTo B k) W → W31 w B (wordsTo B (k + 1)) (W.setCell ⟨w.heap.size + 1 + 1, k, none⟩ (.int .u32 (wNext x15 x2 x7 x16)))) := by
            intro W hW
            have := hW.set (by omega) (wNext x15 x2 x7 x16)
            rw [hl] at this
            unfold wordsTo
            rw [HZ.out]
            exact this
          clear HZ hl hj15 hj2 hj7 hj16
          go_wp2
          go_quiet ((go_at_call 176; exact Calls.quiet_of (rotate32 _ _ (by decide) (by decide) _)))
          have c2' : (wr.drewN nq).cell? ⟨w.heap.size + 1 + 1, j2, none⟩ = some (.int .u32 x2) := c2
          have c7' : (wr.drewN nq).cell? ⟨w.heap.size + 1 + 1, j7, none⟩ = some (.int .u32 x7) := c7
          have c16' : (wr.drewN nq).cell? ⟨w.heap.size + 1 + 1, j16, none⟩ = some (.int .u32 x16) := c16
          have cw' : (wr.drewN nq).cell? ⟨w.heap.size + 1 + 1, k, none⟩ = some (.int .u32 0) := cw
          have fw' : (wr.drewN nq).frozen? ⟨w.heap.size + 1 + 1, k, none⟩ = false := fw
          have HW2 := Lib.hid (HW.out.drewN nq)
          clear c2 c7 c15 c16 cw fw HW
          generalize wr.drewN nq = w2 at c2' c7' c16' cw' fw' HW2 ⊢
          go_wp2
          go_quiet ((go_at_call 176; exact Calls.quiet_of (rotate32 _ _ (by decide) (by decide) _)))
          have c7 : (w2.drewN nq).cell? ⟨w.heap.size + 1 + 1, j7, none⟩ = some (.int .u32 x7) := c7'
          have c16 : (w2.drewN nq).cell? ⟨w.heap.size + 1 + 1, j16, none⟩ = some (.int .u32 x16) := c16'
          have cw : (w2.drewN nq).cell? ⟨w.heap.size + 1 + 1, k, none⟩ = some (.int .u32 0) := cw'
          have fw : (w2.drewN nq).frozen? ⟨w.heap.size + 1 + 1, k, none⟩ = false := fw'
          have HN2 := Lib.hid (HN.out _ (HW2.out.drewN nq))
          clear c7' c16' cw' fw' c2' HN HW2
          generalize w2.drewN nq = w3 at c7 c16 cw fw HN2 ⊢
          go_wp2
          go_still_tail 15, (by kernel_rfl)
          change wpList _ _ _ _ _ (World.drew _)
          go_wp2
          go_roundw
          case rel =>
            refine ⟨k + 1, by omega, by omega, by go_num, ?_⟩
            show W31 _ _ _ _
            repeat (first | exact HN2.out | refine W31.drew ?_ | refine W31.drewN ?_ _)
          case measure => simp [intOf]; omega
        · have hk64 : k = 64 := by omega
          subst hk64
          have hfull : rowTo (wordsTo B 64) = wordsV (wordsTo B 64) := rowTo_full _ (wordsTo_length B 64)
          have hws : (wordsV (wordsTo B 64)).length = 64 := by simp [wordsV, wordsTo_length]
          have hg2 := HW.out.hw
          have hg1 := HW.out.hr
          rw [hfull] at hg2
          have HBW := Lib.hid HW.out.below
          have H1 := Lib.hid (words_oneCell (wordsTo B 64))
          have hi : (Tryz.prog.info? 221).map (·.size) = some 64 := by kernel_rfl
          have HI := Lib.hid hi
          clear hi
          clear hfull HW hlt hk hk0
          generalize hl : wordsTo B 64 = l at hg2 hws H1
          have HL := Lib.hid hl
          clear hl
          go_wp2_with (first | (refine wpList_load_row rfl 221 _ rfl _ rfl 221 _ (0, 0) _ hg2 Tryz.underlying221 rfl (by simpa [hws] using HI.out) ?_) | (refine wpList_store_row rfl 221 _ _ rfl _ _ rfl rfl 221 _ hg1 (by simpa [hws] using HI.out) (by simp [hws, rowTo_length]) H1.out ?_))
          refine bodyPost_ret (results_cell_row (p := 2) (ty := 221) rfl _ _ (w.heap.size + 1) 221 (wordsV l).toArray (0, 0) _ ?hp (setRow_heap wr (w.heap.size + 1) _ _ 221 (0, 0) hg1) Tryz.underlying221 rfl (by simpa [hws] using HI.out)) rfl ?_
          case hp => simp [Act.put]
          exact ⟨by rw [HL.out], HBW.out.trans ⟨rfl, rfl, rfl, by simp, fun i hi => setRow_other _ _ _ _ (by omega)⟩⟩
end Go.Proofs.YtjanddnlhaionaaGreatDoor.L3
namespace Go.Proofs.YtjanddnlhaionaaGreatDoor.L3
open Go.RowKit

abbrev st8 (a b c d e f g h : Int) : Array Value := #[.int .u32 a, .int .u32 b, .int .u32 c, .int .u32 d, .int .u32 e, .int .u32 f, .int .u32 g, .int .u32 h]

theorem three_blocks (w : World) (A B C : Obj) :
    (((w.alloc A).alloc B).alloc C).heap[w.heap.size]? = some A ∧ (((w.alloc A).alloc B).alloc C).heap[w.heap.size + 1]? = some B ∧ (((w.alloc A).alloc B).alloc C).heap[w.heap.size + 1 + 1]? = some C ∧ (((w.alloc A).alloc B).alloc C).heap.size = w.heap.size + 1 + 1 + 1 ∧ Below w.heap.size w (((w.alloc A).alloc B).alloc C) := by
  refine ⟨?_, ?_, ?_, by simp, ?_⟩
  · rw [Below.heap_alloc _ _ _ (by simp; omega), Below.heap_alloc _ _ _ (by simp), heap_alloc_new]
  · have := heap_alloc2_old (w.alloc A) B C
    simpa using this
  · have := heap_alloc2_new (w.alloc A) B C
    simpa using this
  · exact (((Below.refl _ _).alloc (Nat.le_refl _) _).alloc (by simp) _).alloc (by simp; omega) _

/-- The round keys lie in block 1. -/
def KeysAt (w : World) (K : List Int) : Prop := ∀ i, i < 64 → w.cell? ⟨1, i, none⟩ = some (.int .u32 (K.getD i 0))

structure A25 (w : World) (S : Array Value) (p : Nat) (W K : List Int) (wr : World) : Prop where
  hs : wr.heap[w.heap.size]? = some (.cells S 214 (0, 0))
  hr : wr.heap[w.heap.size + 1 + 1]? = some (.cells (st8 0 0 0 0 0 0 0 0) 214 (0, 0))
  hw : wr.heap[p]? = some (.cells (wordsV W).toArray 221 (0, 0))
  hk : KeysAt wr K
  below : Below w.heap.size w wr
theorem A25.drewN {w : World} {S : Array Value} {p : Nat} {W K : List Int} {wr : World} (h : A25 w S p W K wr) (n : Nat) : A25 w S p W K (wr.drewN n) := ⟨h.hs, h.hr, h.hw, h.hk, h.below.trans ⟨rfl, rfl, rfl, Nat.le_refl _, fun _ _ => rfl⟩⟩

theorem a25_start {w w0 w1 : World} {S : Array Value} {W K : List Int} {z : Array Value} (hk : KeysAt w K) (hs2 : 2 ≤ w.heap.size) (h0 : w0.heap[w.heap.size]? = some (.cells S 214 (0, 0)))
    (h2 : w0.heap[w.heap.size + 1 + 1]? = some (.cells (st8 0 0 0 0 0 0 0 0) 214 (0, 0))) (hsz : w0.heap.size = w.heap.size + 1 + 1 + 1) (hb0 : Below w.heap.size w w0) (hb : Below w0.heap.size w0 w1) :
    A25 w S w1.heap.size W K ((w1.alloc (.cells z 221)).setRow w1.heap.size (wordsV W).toArray) := by
  have hle := hb.size
  have hB : Below w.heap.size w ((w1.alloc (.cells z 221)).setRow w1.heap.size (wordsV W).toArray) := by
    refine ((hb0.trans (hb.mono (by omega))).alloc (by omega) _).trans ⟨rfl, rfl, rfl, by simp, fun i hi => setRow_other _ _ _ _ (by omega)⟩
  refine ⟨?_, ?_, ?_, ?_, hB⟩
  · rw [setRow_other _ _ _ _ (by omega), Below.heap_alloc _ _ _ (by omega), hb.block _ (by omega), h0]
  · rw [setRow_other _ _ _ _ (by omega), Below.heap_alloc _ _ _ (by omega), hb.block _ (by omega), h2]
  · exact setRow_heap _ _ _ _ _ _ (heap_alloc_new _ _)
  · intro i hi
    rw [hB.cell (show (1 : Nat) < w.heap.size by omega)]
    exact hk i hi

theorem St.oneCell (s : St) : s.cells.all (·.oneCell') = true := by
  rw [Array.all_eq_true_iff_forall_mem]
  intro v hv
  simp [St.cells] at hv
  rcases hv with rfl | rfl | rfl | rfl | rfl | rfl | rfl | rfl <;> rfl

/-- The state behind k rounds. -/
def Upto (K W : List Int) (s : St) (k : Nat) (a b c d e f g h : Int) : Prop := stepsTo K W s k = ⟨a, b, c, d, e, f, g, h⟩

set_option maxHeartbeats 600000 in
theorem after25 (a b c d e f g h : Int) (B : List UInt8) (K : List Int) (hB : B.length = 64) (w : World) (hK : KeysAt w K) (hs2 : 2 ≤ w.heap.size) :
    Calls Tryz.prog 143 #[.agg (st8 a b c d e f g h), .agg (bytesV B).toArray] w fun x w' => x = .returned (.agg (afterM K ⟨a, b, c, d, e, f, g, h⟩ B).cells) ∧ Below w.heap.size w w' := by
  have hsz : (bytesV B).length = 64 := by simp [bytesV, hB]
  have HC : Hid (∀ W, Calls Tryz.prog 175 #[.agg (bytesV B).toArray] W fun e w' => e = .returned (.agg (wordsV (wordsTo B 64)).toArray) ∧ Below W.heap.size W w') := words31 B hB
  have hwl := wordsTo_length B 64
  generalize hW : wordsTo B 64 = W at HC hwl
  have HWE := Lib.hid hW
  clear hW
  obtain ⟨R, hR⟩ : ∃ R, (afterM K ⟨a, b, c, d, e, f, g, h⟩ B).cells = R := ⟨_, rfl⟩
  rw [hR]
  have HR := Lib.hid hR
  clear hR
  have hws : (wordsV W).length = 64 := by simp [wordsV, hwl]
  have H1 := Lib.hid (words_oneCell W)
  have hi41 : (Tryz.prog.info? 215).map (·.size) = some 64 := by kernel_rfl
  have HI41 := Lib.hid hi41
  clear hi41
  have hi55 : (Tryz.prog.info? 221).map (·.size) = some 64 := by kernel_rfl
  have HI55 := Lib.hid hi55
  clear hi55
  have HK := Lib.hid hK
  clear hK
  have HT := Lib.hid (three_blocks w (.cells (st8 a b c d e f g h) 214) (.cells (bytesV B).toArray 215) (.cells (st8 0 0 0 0 0 0 0 0) 214))
  go_enter Tryz.func143, Tryz.ntmps143
  go_wp2_with (refine wpList_load_row rfl 215 _ rfl (w.heap.size + 1) rfl 215 _ (0, 0) _ HT.out.2.1 Tryz.underlying215 rfl (by simpa [hsz] using HI41.out) ?_)
  refine (HC.out _).mono ?_
  rintro e' w1 ⟨rfl, hb1⟩
  have HA := Lib.hid (a25_start (W := W) (K := K) (z := (rowTo []).toArray) HK.out hs2 HT.out.1 HT.out.2.2.1 HT.out.2.2.2.1 HT.out.2.2.2.2 hb1)
  clear hb1 HT HC
  have HZ := Lib.hid cells0
  go_wp2_with (refine wpList_store_row rfl 221 _ _ rfl w1.heap.size _ rfl rfl 221 _ (heap_alloc_new _ _) (by simpa [hws] using HI55.out) (by simp [hws]) H1.out ?_)
  rw [HZ.out]
  generalize (w1.alloc (.cells (rowTo []).toArray 221)).setRow w1.heap.size (wordsV W).toArray = w2 at HA ⊢
  generalize w1.heap.size = p at HA ⊢
  clear HZ
  have s0 : w2.cell? ⟨w.heap.size, 0, none⟩ = some (.int .u32 a) := by rw [cell_of_row _ _ _ _ _ _ HA.out.hs]; rfl
  have s1 : w2.cell? ⟨w.heap.size, 1, none⟩ = some (.int .u32 b) := by rw [cell_of_row _ _ _ _ _ _ HA.out.hs]; rfl
  have s2 : w2.cell? ⟨w.heap.size, 2, none⟩ = some (.int .u32 c) := by rw [cell_of_row _ _ _ _ _ _ HA.out.hs]; rfl
  have s3 : w2.cell? ⟨w.heap.size, 3, none⟩ = some (.int .u32 d) := by rw [cell_of_row _ _ _ _ _ _ HA.out.hs]; rfl
  have s4 : w2.cell? ⟨w.heap.size, 4, none⟩ = some (.int .u32 e) := by rw [cell_of_row _ _ _ _ _ _ HA.out.hs]; rfl
  have s5 : w2.cell? ⟨w.heap.size, 5, none⟩ = some (.int .u32 f) := by rw [cell_of_row _ _ _ _ _ _ HA.out.hs]; rfl
  have s6 : w2.cell? ⟨w.heap.size, 6, none⟩ = some (.int .u32 g) := by rw [cell_of_row _ _ _ _ _ _ HA.out.hs]; rfl
  have s7 : w2.cell? ⟨w.heap.size, 7, none⟩ = some (.int .u32 h) := by rw [cell_of_row _ _ _ _ _ _ HA.out.hs]; rfl
  go_quiet (fail)
  have HA2 := Lib.hid (HA.out.drewN nq)
  clear s0 s1 s2 s3 s4 s5 s6 s7 HA
  generalize w2.drewN nq = w3 at HA2 ⊢
  go_wp2
  go_loopw [6, 7, 8, 9, 10, 11, 12, 13, 39] (fun a6 a7 a8 a9 a10 a11 a12 a13 a39 wr => ∃ (k : Nat) (a' b' c' d' e' f' g' h' : Int), k ≤ 64 ∧ a39 = .int .i64 k ∧ a6 = .int .u32 a' ∧ a7 = .int .u32 b' ∧ a8 = .int .u32 c' ∧ a9 = .int .u32 d' ∧ a10 = .int .u32 e' ∧ a11 = .int .u32 f' ∧ a12 = .int .u32 g' ∧ a13 = .int .u32 h' ∧ Hid (A25 w (st8 a b c d e f g h) p W K wr) ∧ Upto K W ⟨a, b, c, d, e, f, g, h⟩ k a' b' c' d' e' f' g' h') (fun _ _ _ _ _ _ _ _ a39 _ => 64 - (intOf a39).toNat)
  case atStart => exact ⟨0, a, b, c, d, e, f, g, h, by omega, rfl, rfl, rfl, rfl, rfl, rfl, rfl, rfl, rfl, HA2, rfl⟩
  case round =>
    obtain ⟨k, a', b', c', d', e', f', g', h', hk, rfl, rfl, rfl, rfl, rfl, rfl, rfl, rfl, rfl, HA, HS⟩ := hrel
    by_cases hlt : k < 64
    · have bk : (k : Int) < 64 := by omega
      have cw : wr.cell? ⟨p, k, none⟩ = some (.int .u32 (W.getD k 0)) := cell_row HA.out.hw (by simp [wordsV, hwl, hlt])
      have ck := HA.out.hk k hlt
      have HN : Hid (stepsTo K W ⟨a, b, c, d, e, f, g, h⟩ (k + 1) = stepM ⟨a', b', c', d', e', f', g', h'⟩ (K.getD k 0) (W.getD k 0)) := by
        unfold Hid stepsTo
        rw [show stepsTo K W ⟨a, b, c, d, e, f, g, h⟩ k = _ from HS]
      generalize W.getD k 0 = x at cw HN
      generalize K.getD k 0 = y at ck HN
      clear HS HA2 HWE HR
      go_wp2_with (go_at_call 176; refine (rotate32 _ _ (by decide) (by decide) _).mono ?_; rintro e' w' ⟨rfl, m, rfl⟩)
      go_quiet (fail)
      go_wp2_with (go_at_call 176; refine (rotate32 _ _ (by decide) (by decide) _).mono ?_; rintro e' w' ⟨rfl, m, rfl⟩)
      go_roundw
      case rel =>
        exact ⟨k + 1, _, _, _, _, _, _, _, _, by omega, by go_num, rfl, rfl, rfl, rfl, rfl, rfl, rfl, rfl, HA.out.drewN _, HN⟩
      case measure => simp [intOf]; omega
    · have hk64 : k = 64 := by omega
      rw [hk64] at HS
      have s0 : wr.cell? ⟨w.heap.size, 0, none⟩ = some (.int .u32 a) := by rw [cell_of_row _ _ _ _ _ _ HA.out.hs]; rfl
      have s1 : wr.cell? ⟨w.heap.size, 1, none⟩ = some (.int .u32 b) := by rw [cell_of_row _ _ _ _ _ _ HA.out.hs]; rfl
      have s2 : wr.cell? ⟨w.heap.size, 2, none⟩ = some (.int .u32 c) := by rw [cell_of_row _ _ _ _ _ _ HA.out.hs]; rfl
      have s3 : wr.cell? ⟨w.heap.size, 3, none⟩ = some (.int .u32 d) := by rw [cell_of_row _ _ _ _ _ _ HA.out.hs]; rfl
      have s4 : wr.cell? ⟨w.heap.size, 4, none⟩ = some (.int .u32 e) := by rw [cell_of_row _ _ _ _ _ _ HA.out.hs]; rfl
      have s5 : wr.cell? ⟨w.heap.size, 5, none⟩ = some (.int .u32 f) := by rw [cell_of_row _ _ _ _ _ _ HA.out.hs]; rfl
      have s6 : wr.cell? ⟨w.heap.size, 6, none⟩ = some (.int .u32 g) := by rw [cell_of_row _ _ _ _ _ _ HA.out.hs]; rfl
      have s7 : wr.cell? ⟨w.heap.size, 7, none⟩ = some (.int .u32 h) := by rw [cell_of_row _ _ _ _ _ _ HA.out.hs]; rfl
      have HF : Hid (afterM K ⟨a, b, c, d, e, f, g, h⟩ B = addSt ⟨a, b, c, d, e, f, g, h⟩ ⟨a', b', c', d', e', f', g', h'⟩) := by
        unfold Hid afterM
        rw [HWE.out, show stepsTo K W ⟨a, b, c, d, e, f, g, h⟩ 64 = _ from HS]
      have hi39 : (Tryz.prog.info? 214).map (·.size) = some 8 := by kernel_rfl
      have HI39 := Lib.hid hi39
      have hg1 := HA.out.hr
      have HBW := Lib.hid HA.out.below
      clear hi39 hk64 hk HS HA2 HK HWE HA
      go_wp2_with (refine wpList_store_row rfl 214 _ _ rfl (w.heap.size + 1 + 1) (addSt ⟨a, b, c, d, e, f, g, h⟩ ⟨a', b', c', d', e', f', g', h'⟩).cells rfl rfl 214 _ hg1 HI39.out (by rfl) (St.oneCell _) ?_)
      refine bodyPost_ret (results_cell_row (p := 4) (ty := 214) rfl _ _ (w.heap.size + 1 + 1) 214 (addSt ⟨a, b, c, d, e, f, g, h⟩ ⟨a', b', c', d', e', f', g', h'⟩).cells (0, 0) _ ?hp (setRow_heap wr (w.heap.size + 1 + 1) _ _ 214 (0, 0) hg1) Tryz.underlying214 rfl (by exact HI39.out)) rfl ?_
      case hp => simp [Act.put]
      exact ⟨by rw [← HR.out, HF.out], HBW.out.trans ⟨rfl, rfl, rfl, by simp, fun i hi => setRow_other _ _ _ _ (by omega)⟩⟩
end Go.Proofs.YtjanddnlhaionaaGreatDoor.L3
namespace Go.Proofs.YtjanddnlhaionaaGreatDoor.L3
open Go.RowKit

theorem Tryz.info5 : (Tryz.prog.info? 5).map (fun i => (i.zero, i.size, i.bytes)) = some (some (.int .u8 0), 1, 1) := by kernel_rfl
theorem info5 : ∃ i, Tryz.prog.info? 5 = some i ∧ i.zero = some (.int .u8 0) ∧ i.size = 1 ∧ i.bytes = 1 := by
  have h := Tryz.info5
  cases hq : Tryz.prog.info? 5 with
  | none => simp [hq] at h
  | some i =>
    simp [hq] at h
    exact ⟨i, rfl, h.1, h.2.1, h.2.2⟩

theorem strOf_bytes (l : List UInt8) : strOfNums (l.map fun c => (c.toNat : Int)) = ⟨l.toArray⟩ := by
  unfold strOfNums
  congr 1
  rw [List.map_map]
  have : ((fun n : Int => UInt8.ofNat n.toNat) ∘ fun c : UInt8 => (c.toNat : Int)) = id := by
    funext c; simp
  rw [this, List.map_id]

/-- v is a slice of bytes of the call's own, from block B on, that reads l. -/
def Own (B : Nat) (v : Value) (l : List UInt8) (w : World) : Prop := w.ownsRow B 5 1 v l.length (bytesV l)
theorem Own.alloc {B : Nat} {v : Value} {l : List UInt8} {w : World} (h : Own B v l w) (o : Obj) : Own B v l (w.alloc o) := World.ownsRow.alloc h o
theorem bytesV_append (a b : List UInt8) : bytesV (a ++ b) = bytesV a ++ bytesV b := by simp [bytesV]
theorem Own.mk {B : Nat} {v : Value} {l k : List UInt8} {w : World} {n : Nat} (h : w.ownsRow B 5 1 v n (bytesV l ++ bytesV k)) (hn : n = l.length + k.length) : Own B v (l ++ k) w := by
  unfold Own
  rw [List.length_append, bytesV_append, ← hn]
  exact h
theorem bytes_oneCell (l : List UInt8) : ∀ u ∈ bytesV l, u.oneCell' = true := by
  intro u hu
  simp only [bytesV, List.mem_map] at hu
  obtain ⟨c, _, rfl⟩ := hu
  rfl
theorem Own.below {B : Nat} {x y z : World} {v : Value} {l : List UInt8} (h : Below B x y) (ho : Own B v l y) (hg : y.grownBy z v.ownBlock) (hB : B ≤ y.heap.size) : Below B x z :=
  h.grown hg hB (fun k hk => (ho.lt k hk).1)
theorem Own.slice {B : Nat} {v : Value} {l : List UInt8} {w : World} (h : Own B v l w) : ∃ a c, v = .slice a l.length c := by
  rcases h.2 with ⟨e1, e2⟩ | ⟨g, cap', cur, e, _⟩
  · have : l.length = 0 := e2
    exact ⟨none, 0, by rw [e1, this]⟩
  · exact ⟨_, _, e⟩

theorem conv_own (b n cap : Nat) (a : Option Addr) (l : List UInt8) (w : World) (h : Own b (.slice a n cap) l w) (hn : n = l.length) :
    (convert 124 9 (.slice a n cap)).run Tryz.prog w = .ok (.string ⟨l.toArray⟩) w := by
  subst hn
  rcases h.2 with ⟨e1, e2⟩ | ⟨g, cap', cur, e, _, hg, _, _, _, ht⟩
  · have hl : l = [] := List.length_eq_zero_iff.1 e2
    subst hl
    cases e1
    exact run_convert_bytes_nil w 124 5 Tryz.underlying124 Tryz.underlying5 0 0 9 Tryz.underlying9
  · cases e
    rw [← strOf_bytes]
    refine run_convert_bytes_arg w 124 5 Tryz.underlying124 Tryz.underlying5 g 0 _ cap _ (by simp) (fun i hi => ?_) 9 Tryz.underlying9
    have hc := World.ownsRow.cells (g := g) h rfl i (.int .u8 ((l.map fun c => (c.toNat : Int)).getD i 0)) (by simp [bytesV, List.getElem?_eq_getElem (show i < l.length by simpa using hi)])
    have hplain : (⟨g, 0, none⟩ : Addr).add i = ⟨g, i, none⟩ := by unfold Addr.add; split <;> simp_all
    rw [hplain] at hc
    rw [Nat.zero_add]
    exact hc

/-- The cells of a new array of bytes. -/
theorem new_cells (w : World) (l : List UInt8) (cs : Array Value) (h : cs = (bytesV l).toArray) : ∀ j u, (bytesV l)[j]? = some u → (w.alloc (.cells cs 5)).cell? ((⟨w.heap.size, 0, none⟩ : Addr).add j) = some u := by
  intro j u hu
  have hadd : (⟨w.heap.size, 0, none⟩ : Addr).add j = ⟨w.heap.size, j, none⟩ := by unfold Addr.add; split <;> simp_all
  rw [hadd, World.cell?_alloc_at cs 5 _ _ rfl, h]
  simpa using hu

def toB (n : Int) : UInt8 := UInt8.ofNat (n % 256).toNat
theorem toB_toNat (n : Int) : ((toB n).toNat : Int) = n % 256 := by
  unfold toB
  rw [UInt8.toNat_ofNat']
  omega
def by4 (x : Int) : List UInt8 := [toB (x / 16777216), toB (x / 65536), toB (x / 256), toB x]
theorem by4_cells (x : Int) : #[Value.int .u8 (x / 16777216 % 256), .int .u8 (x / 65536 % 256), .int .u8 (x / 256 % 256), .int .u8 (x % 256)] = (bytesV (by4 x)).toArray := by
  simp [bytesV, by4, toB_toNat]

/-- A new array of bytes, of the call's own. -/
theorem Own.new (w : World) (B : Nat) (hB : B ≤ w.heap.size) (l : List UInt8) (cs : Array Value) (h : cs = (bytesV l).toArray) (hl : l.length ≤ 1000) : Own B (.slice (some ⟨w.heap.size, 0, none⟩) l.length l.length) l (w.alloc (.cells cs 5)) := by
  subst h
  refine ⟨by simp [bytesV], .inr ⟨w.heap.size, l.length, (bytesV l).toArray, rfl, hB, heap_alloc_new w _, Nat.le_refl _, by unfold maxLen; omega, by simp [bytesV], ?_⟩⟩
  rw [List.take_of_length_le (by simp [bytesV])]

def St.list (s : St) : List Int := [s.a, s.b, s.c, s.d, s.e, s.f, s.g, s.h]
theorem st_index (s : St) (k : Nat) (hk : k < 8) (w : World) : (Instr.index 214 (.agg s.cells) (.int .i64 k)).run Tryz.prog w = .ok (.int .u32 (s.list.getD k 0)) w := by
  obtain ⟨a, b, c, d, e, f, g, h⟩ := s
  have hn : k = 0 ∨ k = 1 ∨ k = 2 ∨ k = 3 ∨ k = 4 ∨ k = 5 ∨ k = 6 ∨ k = 7 := by omega
  rcases hn with rfl | rfl | rfl | rfl | rfl | rfl | rfl | rfl <;> (show _ = _; kernel_rfl)

theorem make_own (w : World) (B c : Nat) (hB : B ≤ w.heap.size) (hc : c ≤ 1000000) :
    ∃ w', (Instr.makeSlice 124 (.int .i64 0) (.int .i64 (c : Int))).run Tryz.prog w = .ok (.slice (some ⟨w.heap.size, 0, none⟩) 0 c) w' ∧ Own B (.slice (some ⟨w.heap.size, 0, none⟩) 0 c) [] w' ∧ Below w.heap.size w w' := by
  obtain ⟨i0, hi, hz0, hz1, hz2⟩ := info5
  obtain ⟨w', h1, h2, h3⟩ := run_make_own (P := Tryz.prog) w B 124 5 i0 _ 1 Tryz.underlying124 hi hz0 hz1 .i64 .i64 c (by rw [hz2]; omega) (by unfold maxLen; omega) hB
  exact ⟨w', h1, h2, (Below.refl _ _).grown h3 (Nat.le_refl _) (fun k hk => by cases hk)⟩

theorem list_take_succ {α : Type} (l : List Int) (f : Int → List α) (k : Nat) (hk : k < l.length) : (l.take (k + 1)).flatMap f = (l.take k).flatMap f ++ f (l.getD k 0) := by
  rw [List.take_succ_eq_append_getElem hk, List.flatMap_append]
  simp [hk]
theorem by4_length (l : List Int) : (l.flatMap by4).length = 4 * l.length := by
  induction l with
  | nil => rfl
  | cons a l ih => simp only [List.flatMap_cons, List.length_append, List.length_cons, ih]; simp [by4]; omega

set_option maxHeartbeats 800000 in
theorem bytes27 (s : St) (w : World) :
    Calls Tryz.prog 145 #[.agg s.cells] w fun e w' => e = .returned (.string ⟨(s.list.flatMap by4).toArray⟩) ∧ Below w.heap.size w w' := by
  obtain ⟨i0, hi, hz0, hz1, hz2⟩ := info5
  have HIX := Lib.hid (fun k hk w => st_index s k hk w)
  obtain ⟨w1, hm, ho, hb⟩ := make_own (w.alloc (.cells s.cells 214)) w.heap.size 32 (by simp) (by omega)
  have hm' : (Instr.makeSlice 124 (.int .i64 0) (.int .i64 32)).run Tryz.prog (w.alloc (.cells s.cells 214)) = .ok (.slice (some ⟨w.heap.size + 1, 0, none⟩) 0 32) w1 := by simpa using hm
  have HO : Hid (Own w.heap.size (.slice (some ⟨w.heap.size + 1, 0, none⟩) 0 32) [] w1) := by simpa [Hid] using ho
  have HB : Hid (Below w.heap.size w w1) := ((Below.refl _ _).alloc (Nat.le_refl _) _).trans (hb.mono (by simp))
  have hg0 : w1.heap[w.heap.size]? = some (.cells s.cells 214 (0, 0)) := by rw [hb.block _ (by simp), heap_alloc_new]
  have HG0 := Lib.hid hg0
  have hi39 : (Tryz.prog.info? 214).map (·.size) = some 8 := by kernel_rfl
  have HI39 := Lib.hid hi39
  have hsl : s.list.length = 8 := rfl
  generalize s.list = L at HIX hsl ⊢
  have HS := Lib.hid hsl
  clear hm ho hb hsl hg0 hi39
  go_enter Tryz.func145, Tryz.ntmps145
  go_wp2_with (refine wpList_load_row rfl 214 _ rfl w.heap.size rfl 214 _ (0, 0) _ HG0.out Tryz.underlying214 rfl (by exact HI39.out) ?_)
  clear hm' HG0
  go_loopw [3, 8] (fun s3 s8 wr => ∃ k : Nat, k ≤ 8 ∧ s8 = .int .i64 k ∧ Hid (Own w.heap.size s3 ((L.take k).flatMap by4) wr) ∧ Hid (Below w.heap.size w wr)) (fun _ s8 _ => 8 - (intOf s8).toNat)
  case atStart => exact ⟨0, by omega, rfl, HO.out, HB⟩
  case round =>
    obtain ⟨k, hk, rfl, HO, HB⟩ := hrel
    by_cases hlt : k < 8
    · have hix := HIX.out k hlt wr
      have HN : Hid ((L.take (k + 1)).flatMap by4 = (L.take k).flatMap by4 ++ by4 (L.getD k 0)) := list_take_succ L by4 k (by rw [HS.out]; exact hlt)
      have hll : ((L.take k).flatMap by4).length ≤ 32 := by rw [by4_length, List.length_take]; omega
      generalize (L.take k).flatMap by4 = l at HO HN hll
      generalize L.getD k 0 = x at hix HN
      have HC := Lib.hid (by4_cells x)
      have hB1 := HB.out.size
      go_wp2_with (at_builtin; go_must (refine wpList_append_own _ rfl _ _ 124 rfl w.heap.size 5 i0 (.int .u8 0) 1 1 Tryz.underlying124 hi hz0 hz1 hz2 rfl (by omega) _ l.length (bytesV l) rfl (HO.out.alloc _) ⟨wr.heap.size, 0, none⟩ 4 4 (bytesV (by4 x)) rfl (by simp [bytesV, by4]) ?hn (bytes_oneCell _) ?c3 ?c4 ?c5 ?_))
      case hn => exact new_cells wr (by4 x) _ HC.out
      case c3 => unfold maxLen; omega
      case c4 => omega
      case c5 => simp; omega
      intro v' w' ho' hg' _
      have HO' : Hid (Own w.heap.size v' ((L.take (k + 1)).flatMap by4) w') := by unfold Hid; rw [HN.out]; exact Own.mk ho' (by simp [by4])
      have HG := Lib.hid (Own.below (HB.out.alloc hB1 _) (HO.out.alloc _) hg' (by simp; omega))
      clear ho' hg'
      go_wp2
      go_roundw
      case rel => exact ⟨k + 1, by omega, by go_num, HO', HG⟩
      case measure => simp [intOf]; omega
    · have hk8 : k = 8 := by omega
      rw [hk8] at HO
      have ht : L.take 8 = L := List.take_of_length_le (by rw [HS.out]; omega)
      rw [ht] at HO
      generalize hl : L.flatMap by4 = l at HO
      have HL := Lib.hid hl
      clear hl
      obtain ⟨a, c, rfl⟩ := HO.out.slice
      have hcv := conv_own _ _ _ _ _ _ HO.out rfl
      clear hk8 ht HIX
      go_wp2
      go_ret
      exact ⟨by rw [HL.out]; rfl, HB.out⟩
end Go.Proofs.YtjanddnlhaionaaGreatDoor.L3
namespace Go.Proofs.YtjanddnlhaionaaGreatDoor.L3
open Go.RowKit

def padN (n : Nat) : Nat := (119 - n % 64) % 64
def len8To (n k : Nat) : List UInt8 := (List.range k).map fun i : Nat => toB ((n : Int) * 8 / 2 ^ (8 * (7 - i)))
def padL (n : Nat) : List UInt8 := 128 :: List.replicate (padN n) 0 ++ len8To n 8

theorem cellsU (x : Int) : #[Value.int .u8 (x % 256)] = (bytesV [toB x]).toArray := by simp [bytesV, toB_toNat]

theorem Own.new0 (w : World) (B : Nat) (hB : B ≤ w.heap.size) (b : UInt8) (z : Int) (h : (b.toNat : Int) = z) : Own B (.slice (some ⟨w.heap.size, 0, none⟩) 1 1) [b] (w.alloc (.cells #[.int .u8 z] 5)) :=
  Own.new w B hB [b] _ (by subst h; rfl) (by simp)

set_option maxHeartbeats 800000 in
theorem padding26 (n : Nat) (hn : n ≤ 1000000) (w : World) :
    Calls Tryz.prog 144 #[.int .i64 n] w fun e w' => e = .returned (.string ⟨(padL n).toArray⟩) ∧ Below w.heap.size w w' := by
  obtain ⟨i0, hi, hz0, hz1, hz2⟩ := info5
  have HO := Lib.hid (Own.new0 w w.heap.size (Nat.le_refl _) 128 128 rfl)
  have HB : Hid (Below w.heap.size w (w.alloc (.cells #[.int .u8 128] 5))) := (Below.refl _ _).alloc (Nat.le_refl _) _
  obtain ⟨R, hR⟩ : ∃ R, padL n = R := ⟨_, rfl⟩
  rw [hR]
  have HR := Lib.hid hR
  clear hR
  have hp64 : padN n < 64 := by unfold padN; omega
  go_enter Tryz.func144, Tryz.ntmps144
  go_wp2
  go_loopw [3] (fun s3 wr => ∃ k : Nat, k ≤ padN n ∧ Hid (Own w.heap.size s3 (128 :: List.replicate k 0) wr) ∧ (∃ a c, s3 = .slice a (k + 1) c) ∧ Hid (Below w.heap.size w wr)) (fun s3 _ => 64 - (match s3 with | .slice _ l _ => l | _ => 0))
  case atStart => exact ⟨0, by omega, HO.out, ⟨_, _, rfl⟩, HB⟩
  case round =>
    obtain ⟨k, hk, HO, ⟨a, c, rfl⟩, HB⟩ := hrel
    have hB1 := HB.out.size
    by_cases hlt : k < padN n
    · have ht : (((n : Int) + ((k : Int) + 1) + 8) % 64 != 0) = true := by
        have : ((n : Int) + ((k : Int) + 1) + 8) % 64 ≠ 0 := by unfold padN at hlt; omega
        simpa using this
      have HN : Hid ((128 : UInt8) :: List.replicate (k + 1) 0 = (128 :: List.replicate k 0) ++ [0]) := by
        unfold Hid; rw [List.replicate_succ']; rfl
      have hll : ((128 : UInt8) :: List.replicate k 0).length = k + 1 := by simp
      generalize (128 : UInt8) :: List.replicate k 0 = l at HO HN hll
      go_wp2_with (at_builtin; go_must (refine wpList_append_own _ rfl _ _ 124 rfl w.heap.size 5 i0 (.int .u8 0) 1 1 Tryz.underlying124 hi hz0 hz1 hz2 rfl (by omega) _ l.length (bytesV l) rfl (HO.out.alloc _) ⟨wr.heap.size, 0, none⟩ 1 1 (bytesV [0]) rfl rfl ?hn (bytes_oneCell _) ?c3 ?c4 ?c5 ?_))
      case hn => exact new_cells wr [0] _ rfl
      case c3 => unfold maxLen; omega
      case c4 => omega
      case c5 => simp; omega
      intro v' w' ho' hg' _
      have HO' : Hid (Own w.heap.size v' (128 :: List.replicate (k + 1) 0) w') := by unfold Hid; rw [HN.out]; exact Own.mk ho' (by simp; omega)
      have HG := Lib.hid (Own.below (HB.out.alloc hB1 _) (HO.out.alloc _) hg' (by simp; omega))
      obtain ⟨a', c', rfl⟩ := HO'.out.slice
      clear ho' hg' HN hll
      have e2 : ((128 : UInt8) :: List.replicate (k + 1) 0).length = k + 1 + 1 := by simp
      rw [e2] at HO' ⊢
      go_wp2
      go_roundw
      case rel => exact ⟨k + 1, by omega, HO'.out, ⟨_, _, rfl⟩, HG⟩
      case measure => simp; omega
    · have hkp : k = padN n := by omega
      have ht : (((n : Int) + ((k : Int) + 1) + 8) % 64 != 0) = false := by
        have : ((n : Int) + ((k : Int) + 1) + 8) % 64 = 0 := by unfold padN at hkp; omega
        simpa using this
      have hlist : (128 : UInt8) :: List.replicate k 0 = 128 :: List.replicate (padN n) 0 := by rw [hkp]
      rw [hlist] at HO
      clear hlist
      have HP : Hid (R = (128 :: List.replicate (padN n) 0) ++ len8To n 8) := HR.out.symm
      have hll : ((128 : UInt8) :: List.replicate (padN n) 0).length = padN n + 1 := by simp
      generalize (128 : UInt8) :: List.replicate (padN n) 0 = l at HO HP hll
      clear HR
      have hlk : l.length = k + 1 := by omega
      clear hkp hlt hk
      have hll' : l.length ≤ 64 := by omega
      have hk64 : k < 64 := by omega
      clear hlk hll
      go_wp2_with fail
      go_loopw [3, 20] (fun s3 s20 wr => ∃ j : Nat, j ≤ 8 ∧ s20 = .int .i64 j ∧ Hid (Own w.heap.size s3 (l ++ len8To n j) wr) ∧ Hid (Below w.heap.size w wr)) (fun _ s20 _ => 8 - (intOf s20).toNat)
      case atStart => exact ⟨0, by omega, rfl, by simpa [Hid, len8To] using HO.out, HB⟩
      case round =>
        obtain ⟨j, hj, rfl, HO, HB⟩ := hrel
        have hB1 := HB.out.size
        by_cases hlt : j < 8
        · have HN : Hid (l ++ len8To n (j + 1) = (l ++ len8To n j) ++ [toB ((n : Int) * 8 / 2 ^ (8 * (7 - j)))]) := by
            unfold Hid len8To
            rw [List.range_succ, List.map_append, ← List.append_assoc]; rfl
          have hl2 : (l ++ len8To n j).length ≤ 72 := by simp [len8To]; omega
          generalize l ++ len8To n j = q at HO HN hl2
          have HC := Lib.hid (cellsU ((n : Int) * 8 / 2 ^ (8 * (7 - j))))
          generalize toB ((n : Int) * 8 / 2 ^ (8 * (7 - j))) = y at HN HC
          go_wp2_with (at_builtin; go_must (refine wpList_append_own _ rfl _ _ 124 rfl w.heap.size 5 i0 (.int .u8 0) 1 1 Tryz.underlying124 hi hz0 hz1 hz2 rfl (by omega) _ q.length (bytesV q) rfl (HO.out.alloc _) ⟨wr.heap.size, 0, none⟩ 1 1 (bytesV [y]) rfl rfl ?hn (bytes_oneCell _) ?c3 ?c4 ?c5 ?_))
          case hn => exact new_cells wr [y] _ HC.out
          case c3 => unfold maxLen; omega
          case c4 => omega
          case c5 => simp; omega
          intro v' w' ho' hg' _
          have HO' : Hid (Own w.heap.size v' (l ++ len8To n (j + 1)) w') := by unfold Hid; rw [HN.out]; exact Own.mk ho' rfl
          have HG := Lib.hid (Own.below (HB.out.alloc hB1 _) (HO.out.alloc _) hg' (by simp; omega))
          clear ho' hg' HN
          go_wp2
          go_roundw
          case rel => exact ⟨j + 1, by omega, by go_num, HO', HG⟩
          case measure => simp [intOf]; omega
        · have hj8 : j = 8 := by omega
          rw [hj8] at HO
          have HF := HP.out
          rw [← HF] at HO
          clear HF hj8 HP
          obtain ⟨a, c, rfl⟩ := HO.out.slice
          have hcv := conv_own _ _ _ _ _ _ HO.out rfl
          go_wp2
          go_ret
          exact ⟨rfl, HB.out⟩
end Go.Proofs.YtjanddnlhaionaaGreatDoor.L3
namespace Go.Proofs.YtjanddnlhaionaaGreatDoor.L3
open Go

/-- The state behind all whole blocks. -/
def foldB (K : List Int) (s : St) (l : List UInt8) : St :=
  if _h : l.length < 64 then s else foldB K (afterM K s (l.take 64)) (l.drop 64)
termination_by l.length
decreasing_by simp; omega

theorem foldB_small (K : List Int) (s : St) (l : List UInt8) (h : l.length < 64) : foldB K s l = s := by rw [foldB, dif_pos h]
theorem foldB_big (K : List Int) (s : St) (l : List UInt8) (h : ¬ l.length < 64) : foldB K s l = foldB K (afterM K s (l.take 64)) (l.drop 64) := by rw [foldB, dif_neg h]

/-- What is not in the state yet. -/
def tailB (l : List UInt8) : List UInt8 := l.drop (64 * (l.length / 64))
theorem tailB_length (l : List UInt8) : (tailB l).length = l.length % 64 := by simp [tailB]; omega

theorem foldB_append (K : List Int) : ∀ (n : Nat) (s : St) (a b : List UInt8), a.length = 64 * n → foldB K s (a ++ b) = foldB K (foldB K s a) b
  | 0, s, a, b, h => by
    have : a = [] := List.length_eq_zero_iff.1 (by omega)
    subst this
    rw [foldB_small K s [] (by simp)]; rfl
  | n + 1, s, a, b, h => by
    rw [foldB_big K s (a ++ b) (by simp; omega), foldB_big K s a (by omega)]
    rw [List.take_append_of_le_length (by omega), List.drop_append_of_le_length (by omega)]
    exact foldB_append K n _ _ _ (by simp; omega)

theorem split_tail (l : List UInt8) : l.take (64 * (l.length / 64)) ++ tailB l = l := List.take_append_drop _ _

/-- Bytes that do not fill the block. -/
theorem put_less (K : List Int) (s : St) (l x : List UInt8) (h : l.length % 64 + x.length < 64) : foldB K s (l ++ x) = foldB K s l ∧ tailB (l ++ x) = tailB l ++ x := by
  have hd : (l ++ x).length / 64 = l.length / 64 := by simp; omega
  have ht : tailB (l ++ x) = tailB l ++ x := by
    unfold tailB
    rw [hd, List.drop_append_of_le_length (by omega)]
  refine ⟨?_, ht⟩
  have h1 : foldB K s (l ++ x) = foldB K (foldB K s (l.take (64 * (l.length / 64)))) (tailB l ++ x) := by
    rw [← foldB_append K (l.length / 64) s _ _ (by simp; omega), ← List.append_assoc, split_tail]
  have h2 : foldB K s l = foldB K (foldB K s (l.take (64 * (l.length / 64)))) (tailB l) := by
    rw [← foldB_append K (l.length / 64) s _ _ (by simp; omega), split_tail]
  rw [h1, h2, foldB_small _ _ (tailB l ++ x) (by rw [List.length_append, tailB_length]; omega), foldB_small _ _ (tailB l) (by rw [tailB_length]; omega)]

/-- Bytes that fill it. -/
theorem put_full (K : List Int) (s : St) (l x : List UInt8) (h : l.length % 64 + x.length = 64) : foldB K s (l ++ x) = afterM K (foldB K s l) (tailB l ++ x) ∧ tailB (l ++ x) = [] := by
  have ht : tailB (l ++ x) = [] := by
    apply List.length_eq_zero_iff.1
    rw [tailB_length, List.length_append]; omega
  refine ⟨?_, ht⟩
  have h1 : foldB K s (l ++ x) = foldB K (foldB K s (l.take (64 * (l.length / 64)))) (tailB l ++ x) := by
    rw [← foldB_append K (l.length / 64) s _ _ (by simp; omega), ← List.append_assoc, split_tail]
  have h2 : foldB K s l = foldB K s (l.take (64 * (l.length / 64))) := by
    have h2 : foldB K s l = foldB K (foldB K s (l.take (64 * (l.length / 64)))) (tailB l) := by
      rw [← foldB_append K (l.length / 64) s _ _ (by simp; omega), split_tail]
    rw [h2, foldB_small _ _ (tailB l) (by rw [tailB_length]; omega)]
  have hlen : (tailB l ++ x).length = 64 := by rw [List.length_append, tailB_length]; omega
  rw [h1, ← h2, foldB_big _ _ (tailB l ++ x) (by omega), List.take_of_length_le (by omega), List.drop_of_length_le (by omega), foldB_small _ _ [] (by simp)]

theorem hash_full (K : List Int) (I : St) (l x B : List UInt8) (r : Nat) (hr : l.length % 64 = r) (hB : B.length = 64) (hBt : B.take r = tailB l) (hx : r + x.length = 64) :
    foldB K I (l ++ x) = afterM K (foldB K I l) (B.take r ++ x ++ B.drop (r + x.length)) ∧ (B.take r ++ x ++ B.drop (r + x.length)).take ((l ++ x).length % 64) = tailB (l ++ x) := by
  obtain ⟨h1, h2⟩ := put_full K I l x (by omega)
  have h0 : (l ++ x).length % 64 = 0 := by simp; omega
  rw [h2, h0, h1, hBt, hx, List.drop_of_length_le (by omega), List.append_nil]
  exact ⟨rfl, rfl⟩
theorem hash_less (K : List Int) (I : St) (l x B : List UInt8) (r : Nat) (hr : l.length % 64 = r) (hB : B.length = 64) (hBt : B.take r = tailB l) (hx : r + x.length < 64) :
    foldB K I (l ++ x) = foldB K I l ∧ (B.take r ++ x ++ B.drop (r + x.length)).take ((l ++ x).length % 64) = tailB (l ++ x) := by
  obtain ⟨h1, h2⟩ := put_less K I l x (by omega)
  have h0 : (l ++ x).length % 64 = r + x.length := by simp; omega
  have h3 : (B.take r ++ x).length = r + x.length := by simp; omega
  refine ⟨h1, ?_⟩
  rw [h2, h0, ← h3, List.take_left, hBt]

/-- The 74 cells of a hash. -/
def hashRow (m : Bool) (s : St) (B : List UInt8) (n : Nat) : List Value := .bool m :: (s.cells.toList ++ (bytesV B ++ [.int .i64 (n : Int)]))
theorem cells_len (s : St) : s.cells.toList.length = 8 := rfl
theorem bytesV_len (B : List UInt8) : (bytesV B).length = B.length := by simp [bytesV]
theorem hashRow_length (m : Bool) (s : St) (B : List UInt8) (n : Nat) (h : B.length = 64) : (hashRow m s B n).length = 74 := by
  simp [hashRow, bytesV_len, h, St.cells]
theorem hashRow_made (m : Bool) (s : St) (B : List UInt8) (n : Nat) : (hashRow m s B n)[0]? = some (.bool m) := rfl
theorem hashRow_len (m : Bool) (s : St) (B : List UInt8) (n : Nat) (h : B.length = 64) : (hashRow m s B n)[73]? = some (.int .i64 n) := by
  unfold hashRow
  rw [List.getElem?_cons_succ, List.getElem?_append_right (by rw [cells_len]; omega), cells_len, List.getElem?_append_right (by rw [bytesV_len]; omega), bytesV_len, h]
  rfl
theorem hashRow_setLen (m : Bool) (s : St) (B : List UInt8) (n k : Nat) (h : B.length = 64) : (hashRow m s B n).set 73 (.int .i64 (k : Int)) = hashRow m s B k := by
  unfold hashRow
  rw [List.set_cons_succ, List.set_append_right _ _ (by rw [cells_len]; omega), cells_len, List.set_append_right _ _ (by rw [bytesV_len]; omega), bytesV_len, h]
  rfl
theorem hashRow_state (m : Bool) (s t : St) (B : List UInt8) (n : Nat) : (hashRow m s B n).take 1 ++ t.cells.toList ++ (hashRow m s B n).drop (1 + 8) = hashRow m t B n := rfl
theorem hashRow_copy (m : Bool) (s : St) (B C : List UInt8) (n r : Nat) (hr : r + C.length ≤ B.length) :
    (hashRow m s B n).take (9 + r) ++ bytesV C ++ (hashRow m s B n).drop (9 + r + C.length) = hashRow m s (B.take r ++ C ++ B.drop (r + C.length)) n := by
  unfold hashRow
  have e1 : 9 + r = (8 + r) + 1 := by omega
  have e2 : 9 + r + C.length = (8 + (r + C.length)) + 1 := by omega
  rw [e2, e1, List.take_succ_cons, List.drop_succ_cons]
  rw [List.take_append, List.drop_append, cells_len, List.take_of_length_le (by rw [cells_len]; omega), List.drop_of_length_le (by rw [cells_len]; omega)]
  rw [show 8 + r - 8 = r by omega, show 8 + (r + C.length) - 8 = r + C.length by omega]
  rw [List.take_append_of_le_length (by rw [bytesV_len]; omega), List.drop_append_of_le_length (by rw [bytesV_len]; omega)]
  simp [bytesV]
end Go.Proofs.YtjanddnlhaionaaGreatDoor.L3
