/-
  Bytes of the call's own; the contracts of Check, width, appendBase and markAndBase. No condition.
-/
import Derived.Test.YtdmalkkpcggifaaD
import Derived.Laws.BytesString
import Derived.Laws.BytesArg
import Derived.WalkSmall
import Derived.Lib.AppendStr
import Derived.Lib.OthersKept
namespace Go.Proofs.Ytdmalkkpcggifaa
open Go.RowKit

theorem Try.info5 : (Try.prog.info? 5).map (fun i => (i.zero, i.size, i.bytes)) = some (some (.int .u8 0), 1, 1) := by kernel_rfl
theorem info5 : ∃ i, Try.prog.info? 5 = some i ∧ i.zero = some (.int .u8 0) ∧ i.size = 1 ∧ i.bytes = 1 := by
  have h := Try.info5
  cases hq : Try.prog.info? 5 with
  | none => simp [hq] at h
  | some i =>
    simp [hq] at h
    exact ⟨i, rfl, h.1, h.2.1, h.2.2⟩

def bytesV (l : List UInt8) : List Value := l.map fun c => Value.int .u8 c.toNat
/-- v is a slice of bytes of the call's own, from block B on, that reads l. -/
def Own (B : Nat) (v : Value) (l : List UInt8) (w : World) : Prop := w.ownsRow B 5 1 v l.length (bytesV l)
/-- Nothing below B has turned, and no block that is not a row of bytes. -/
def Gr (B : Nat) (w w' : World) : Prop := Below B w w' ∧ Lib.OthersKept 5 none w w'
theorem Gr.refl (B : Nat) (w : World) : Gr B w w := ⟨Below.refl _ _, Lib.OthersKept.refl _ _ _⟩
theorem Gr.trans {B : Nat} {x y z : World} (h : Gr B x y) (k : Gr B y z) : Gr B x z := ⟨h.1.trans k.1, h.2.trans k.2⟩
theorem Gr.alloc {B : Nat} {x y : World} (h : Gr B x y) (hB : B ≤ y.heap.size) (o : Obj) : Gr B x (y.alloc o) := ⟨h.1.alloc hB o, h.2.alloc o⟩
theorem Gr.grown {B : Nat} {x y z : World} {v : Value} {l : List UInt8} (h : Gr B x y) (ho : Own B v l y) (hg : y.grownBy z v.ownBlock) (hB : B ≤ y.heap.size) : Gr B x z :=
  ⟨h.1.grown hg hB (fun k hk => (ho.lt k hk).1), h.2.grown hg (fun g hk => by
    rcases ho.2 with ⟨e1, _⟩ | ⟨g', cap, cur, e, _, hgg, _⟩
    · rw [e1] at hk; simp [Value.ownBlock] at hk
    · rw [e] at hk; simp [Value.ownBlock] at hk; subst hk; exact ⟨_, _, hgg⟩)⟩
theorem Gr.of_below {B : Nat} {w w' : World} (h : Below w.heap.size w w') (hB : B ≤ w.heap.size) : Gr B w w' :=
  ⟨h.mono hB, fun k o hk _ _ => by rw [h.block k (Array.getElem?_eq_some_iff.1 hk).1]; exact hk⟩
theorem Own.alloc {B : Nat} {v : Value} {l : List UInt8} {w : World} (h : Own B v l w) (o : Obj) : Own B v l (w.alloc o) := World.ownsRow.alloc h o
theorem grown_of_below {a w : World} (h : Below a.heap.size a w) (row : Option Nat) : a.grownBy w row := ⟨h.os, h.tape, h.output, h.size, fun i hi _ => h.block i hi⟩
theorem Own.below {w w' : World} {B : Nat} {v : Value} {l : List UInt8} (h : Own B v l w) (hb : Below w.heap.size w w') : Own B v l w' :=
  World.ownsRow.kept h (grown_of_below hb none) (by cases v.ownBlock <;> simp)
theorem bytesV_append (a b : List UInt8) : bytesV (a ++ b) = bytesV a ++ bytesV b := by simp [bytesV]
theorem Own.mk {B : Nat} {v : Value} {l k : List UInt8} {w : World} {n : Nat} (h : w.ownsRow B 5 1 v n (bytesV l ++ bytesV k)) (hn : n = l.length + k.length) : Own B v (l ++ k) w := by
  unfold Own
  rw [List.length_append, bytesV_append, ← hn]
  exact h
theorem bytes_oneCell (l : List UInt8) : ∀ u ∈ bytesV l, u.oneCell' = true := by
  intro u hu
  simp only [bytesV, List.mem_map] at hu
  obtain ⟨c, _, rfl⟩ := hu
  rfl
theorem strCells_eq (s : ByteArray) : Lib.strCells s = bytesV s.data.toList := rfl
theorem Own.slice {B : Nat} {v : Value} {l : List UInt8} {w : World} (h : Own B v l w) : ∃ a c, v = .slice a l.length c := by
  rcases h.2 with ⟨e1, e2⟩ | ⟨g, cap', cur, e, _⟩
  · have : l.length = 0 := e2
    exact ⟨none, 0, by rw [e1, this]⟩
  · exact ⟨_, _, e⟩

/-- What a call that appends comes to. -/
def AppTo (B : Nat) (w : World) (l : List UInt8) (e : Ending) (w' : World) : Prop := ∃ v', e = .returned v' ∧ Own B v' l w' ∧ Gr B w w'

/-- The cells of a new array of bytes. -/
theorem new_cells (w : World) (l : List UInt8) (cs : Array Value) (h : cs = (bytesV l).toArray) : ∀ j u, (bytesV l)[j]? = some u → (w.alloc (.cells cs 5)).cell? ((⟨w.heap.size, 0, none⟩ : Addr).add j) = some u := by
  intro j u hu
  have hadd : (⟨w.heap.size, 0, none⟩ : Addr).add j = ⟨w.heap.size, j, none⟩ := by unfold Addr.add; split <;> simp_all
  rw [hadd, World.cell?_alloc_at cs 5 _ _ rfl, h]
  simpa using hu
theorem one_cells (n : Int) (dg : UInt8) (h : (dg.toNat : Int) = n) : #[Value.int .u8 n] = (bytesV [dg]).toArray := by subst h; rfl

theorem strOf_bytes (l : List UInt8) : strOfNums (l.map fun c => (c.toNat : Int)) = ⟨l.toArray⟩ := by
  unfold strOfNums
  congr 1
  rw [List.map_map]
  have : ((fun n : Int => UInt8.ofNat n.toNat) ∘ fun c : UInt8 => (c.toNat : Int)) = id := by
    funext c; simp
  rw [this, List.map_id]
theorem conv_own (b n cap : Nat) (a : Option Addr) (l : List UInt8) (w : World) (h : Own b (.slice a n cap) l w) (hn : n = l.length) :
    (convert 53 9 (.slice a n cap)).run Try.prog w = .ok (.string ⟨l.toArray⟩) w := by
  subst hn
  rcases h.2 with ⟨e1, e2⟩ | ⟨g, cap', cur, e, _, hg, _, _, _, ht⟩
  · have hl : l = [] := List.length_eq_zero_iff.1 e2
    subst hl
    cases e1
    exact run_convert_bytes_nil w 53 5 Try.underlying53 Try.underlying5 0 0 9 Try.underlying9
  · cases e
    rw [← strOf_bytes]
    refine run_convert_bytes_arg w 53 5 Try.underlying53 Try.underlying5 g 0 _ cap _ (by simp) (fun i hi => ?_) 9 Try.underlying9
    have hc := World.ownsRow.cells (g := g) h rfl i (.int .u8 ((l.map fun c => (c.toNat : Int)).getD i 0)) (by simp [bytesV, List.getElem?_eq_getElem (show i < l.length by simpa using hi)])
    have hplain : (⟨g, 0, none⟩ : Addr).add i = ⟨g, i, none⟩ := by unfold Addr.add; split <;> simp_all
    rw [hplain] at hc
    rw [Nat.zero_add]
    exact hc

def bytesF : Nat → Nat → List UInt8
  | 0, _ => []
  | f + 1, b => if b = 0 then [] else bytesF f (b / 256) ++ [UInt8.ofNat (b % 256)]
theorem bytesF_succ (f b : Nat) : bytesF (f + 1) b = if b = 0 then [] else bytesF f (b / 256) ++ [UInt8.ofNat (b % 256)] := rfl
theorem bytesF_zero (f : Nat) : bytesF f 0 = [] := by cases f <;> rfl
theorem bytesF_length (f b : Nat) : (bytesF f b).length ≤ f := by
  induction f generalizing b with
  | zero => exact Nat.le_refl _
  | succ f ih =>
    rw [bytesF_succ]
    split
    · exact Nat.zero_le _
    · rw [List.length_append]
      have := ih (b / 256)
      simp only [List.length_singleton]
      omega

set_option maxHeartbeats 400000 in
theorem width34 (b : Nat) (w : World) (hb : b < 9223372036854775808) : Calls Try.prog 34 #[.int .i64 b] w fun e w' => e = .returned (.int .i64 ((bytesF 8 b).length : Int)) ∧ w = w' := by
  obtain ⟨q, hq⟩ : ∃ q, (bytesF 8 b).length = q := ⟨_, rfl⟩
  have hq8 : q ≤ 8 := by rw [← hq]; exact bytesF_length 8 b
  rw [hq]
  have HQ := Lib.hid hq
  clear hq
  go_enter Try.func34, Try.ntmps34
  go_wp2_with fail
  go_loop [0, 3] (fun s0 s3 => ∃ (f m n : Nat), s0 = .int .i64 m ∧ s3 = .int .i64 n ∧ m < 9223372036854775808 ∧ n ≤ 8 ∧ Hid (m < 256 ^ f) ∧ Hid (n + (bytesF f m).length = q)) (fun s0 _ => (intOf s0).toNat)
  case atStart => exact ⟨8, b, 0, rfl, rfl, hb, by omega, by unfold Hid; omega, by unfold Hid; rw [HQ.out]; omega⟩
  case round =>
    obtain ⟨f, m, n, rfl, rfl, hm, hn8, HF, HN⟩ := hrel
    by_cases h0 : (0 : Int) < m
    · cases f with
      | zero => exfalso; have := HF.out; simp at this; omega
      | succ f =>
        have HF' : Hid (m / 256 < 256 ^ f) := by have := HF.out; unfold Hid; rw [Nat.pow_succ] at this; exact Nat.div_lt_of_lt_mul (by omega)
        have HN' : Hid (n + 1 + (bytesF f (m / 256)).length = q) := by
          have := HN.out
          rw [bytesF_succ, if_neg (by omega), List.length_append, List.length_singleton] at this
          unfold Hid; omega
        have hn9 : n < 8 := by have := HN'.out; omega
        go_wp2_with fail
        go_round
        case rel => exact ⟨f, m / 256, n + 1, by simp, by simp, by omega, by omega, HF'.out, HN'.out⟩
        case measure => simp [intOf]; omega
    · have hm0 : m = 0 := by omega
      subst hm0
      have hq : n = q := by have := HN.out; rw [bytesF_zero] at this; simpa using this
      subst hq
      go_wp2_with fail
      go_ret
      exact ⟨rfl, rfl⟩

set_option maxHeartbeats 400000 in
theorem appendBase35 (f : Nat) : ∀ (b B : Nat) (v : Value) (l : List UInt8) (w : World), Own B v l w → B ≤ w.heap.size → b < 256 ^ f → b < 9223372036854775808 → l.length + f ≤ 2000000 →
    Calls Try.prog 35 #[v, .int .i64 b] w (AppTo B w (l ++ bytesF f b)) := by
  induction f with
  | zero =>
    intro b B v l w ho hB hb hb2 hl
    have h0 : b = 0 := by simpa using hb
    subst h0
    have HO := Lib.hid ho; clear ho
    go_enter Try.func35, Try.ntmps35
    go_wp2_with fail
    go_ret
    exact ⟨v, rfl, by rw [bytesF_zero, List.append_nil]; exact HO.out, Gr.refl _ _⟩
  | succ f ih =>
    intro b B v l w ho hB hb hb2 hl
    obtain ⟨i0, hi, hz0, hz1, hz2⟩ := info5
    by_cases h0 : b = 0
    · subst h0
      have HO := Lib.hid ho; clear ho
      go_enter Try.func35, Try.ntmps35
      go_wp2_with fail
      go_ret
      exact ⟨v, rfl, by rw [bytesF_zero, List.append_nil]; exact HO.out, Gr.refl _ _⟩
    · rw [bytesF_succ, if_neg h0]
      have h0' : ((b : Int) == 0) = false := beq_eq_false_iff_ne.2 (by omega)
      have hrec := ih (b / 256) B v l w ho hB (by rw [Nat.pow_succ] at hb; exact Nat.div_lt_of_lt_mul (by omega)) (by omega) (by omega)
      have hfl := bytesF_length f (b / 256)
      generalize bytesF f (b / 256) = dl at hrec hfl ⊢
      rw [show (((b / 256 : Nat) : Int)) = (b : Int) / 256 by omega] at hrec
      obtain ⟨dg, hdg⟩ : ∃ dg, UInt8.ofNat (b % 256) = dg := ⟨_, rfl⟩
      have hdn : (dg.toNat : Int) = (b : Int) % 256 := by rw [← hdg, UInt8.toNat_ofNat']; omega
      rw [hdg]
      have HR := Lib.hid hrec
      have HD := Lib.hid hdn
      clear hrec ih hdn hdg ho hb
      go_enter Try.func35, Try.ntmps35
      go_wp2_with fail
      refine HR.out.mono ?_
      rintro e w1 ⟨v1, rfl, ho1, hg1⟩
      have hB1 : B ≤ w1.heap.size := Nat.le_trans hB hg1.1.size
      have HO := Lib.hid ho1; clear ho1
      have HG1 := Lib.hid hg1; clear hg1
      go_wp2_with (at_builtin; go_must (refine wpList_append_own _ rfl _ _ 53 rfl B 5 i0 (.int .u8 0) 1 1 Try.underlying53 hi hz0 hz1 hz2 rfl (by omega) _ (l ++ dl).length (bytesV (l ++ dl)) rfl (HO.out.alloc _) ⟨w1.heap.size, 0, none⟩ 1 1 (bytesV [dg]) rfl rfl ?hn (bytes_oneCell _) ?c3 ?c4 ?c5 ?_))
      case hn => exact new_cells w1 [dg] _ (one_cells _ dg HD.out)
      case c3 => unfold maxLen; rw [List.length_append]; omega
      case c4 => rw [List.length_append]; omega
      case c5 => simp; omega
      intro v' w' ho' hg' _
      have HO' := Lib.hid (Own.mk ho' (by simp))
      have HG := Lib.hid (HG1.out.trans (((Gr.refl B w1).alloc hB1 _).grown (HO.out.alloc _) hg' (by simp; omega)))
      clear ho' hg'
      go_wp2_with fail
      go_ret
      exact ⟨v', rfl, by rw [← List.append_assoc]; exact HO'.out, HG.out⟩

def markOf (k n : Int) : Nat := if k = 2 then 48 else if k = 3 then 64 else if n < 0 then 32 else 16
def baseOf (k n : Int) (s : ByteArray) (l : List C) : Nat := if k = 2 then s.size else if k = 3 then l.length else if n < 0 then (-(n + 1)).toNat else n.toNat

set_option maxHeartbeats 400000 in
theorem markAndBase33 (k n : Int) (s : ByteArray) (l : List C) (A : Option Addr) (cap : Nat) (w : World) (hn0 : -9223372036854775808 ≤ n) (hn1 : n ≤ 9223372036854775807) :
    Calls Try.prog 33 #[.agg #[.int .i64 k, .int .i64 n, .string s, .slice A l.length cap]] w fun e w' => e = .returned (.tuple #[.int .u8 (markOf k n), .int .i64 (baseOf k n s l)]) ∧ Below w.heap.size w w' := by
  have HB := Lib.hid (Box.new w (.mk k n s l) (.slice A l.length cap))
  unfold markOf baseOf
  by_cases k2 : k = 2
  · subst k2
    rw [if_pos rfl, if_pos rfl]
    go_enter Try.func33, Try.ntmps33
    go_wp2_with fail
    go_quiet (fail)
    go_wp2_with fail
    go_ret2
    exact ⟨rfl, below_drewN HB.out.old _⟩
  · have k2' : (k == 2) = false := by simpa using k2
    rw [if_neg k2, if_neg k2]
    by_cases k3 : k = 3
    · subst k3
      rw [if_pos rfl, if_pos rfl]
      go_enter Try.func33, Try.ntmps33
      go_wp2_with fail
      go_quiet (fail)
      go_wp2_with fail
      go_ret2
      exact ⟨rfl, below_drewN HB.out.old _⟩
    · have k3' : (k == 3) = false := by simpa using k3
      rw [if_neg k3, if_neg k3]
      by_cases hn : n < 0
      · rw [if_pos hn, if_pos hn]
        have e : (((-(n + 1)).toNat : Nat) : Int) = -(n + 1) := by omega
        rw [e]
        clear e
        go_enter Try.func33, Try.ntmps33
        go_wp2_with fail
        go_quiet (fail)
        go_wp2_with fail
        go_ret2
        exact ⟨rfl, below_drewN HB.out.old _⟩
      · rw [if_neg hn, if_neg hn]
        have e : ((n.toNat : Nat) : Int) = n := by omega
        rw [e]
        clear e
        go_enter Try.func33, Try.ntmps33
        go_wp2_with fail
        go_quiet (fail)
        go_wp2_with fail
        go_ret2
        exact ⟨rfl, below_drewN HB.out.old _⟩

set_option maxHeartbeats 400000 in
theorem check11 (d : Nat) (ck cn : Int) (cs : ByteArray) (cl : List C) (u : Value) (w : World) (h : LAt w w.heap.size d u cl) :
    Calls Try.prog 11 #[.agg #[.int .i64 ck, .int .i64 cn, .string cs, u]] w fun e w' => e = .returned (.int .i64 (if okC 16 (.mk ck cn cs cl) then 0 else 2)) ∧ Below w.heap.size w w' := by
  have HB := Lib.hid (Box.new w (.mk ck cn cs cl) u)
  have HC := Lib.hid (valid27 d 16 1 ck cn cs cl u (w.alloc (.cells #[.int .i64 ck, .int .i64 cn, .string cs, u] 25)) (h.step HB.out.old) (by omega))
  generalize okC 16 (.mk ck cn cs cl) = t at HC ⊢
  clear h
  cases t with
  | true =>
    go_enter Try.func11, Try.ntmps11
    go_wp2_with (go_at_call 27; refine (HC.out).mono ?_; rintro e w' ⟨rfl, hbel⟩)
    have HX := Lib.hid (HB.out.step hbel)
    clear hbel
    go_wp2_with fail
    go_ret
    exact ⟨rfl, HX.out.old⟩
  | false =>
    go_enter Try.func11, Try.ntmps11
    go_wp2_with (go_at_call 27; refine (HC.out).mono ?_; rintro e w' ⟨rfl, hbel⟩)
    have HX := Lib.hid (HB.out.step hbel)
    clear hbel
    go_wp2_with fail
    go_ret
    exact ⟨rfl, HX.out.old⟩
end Go.Proofs.Ytdmalkkpcggifaa
