/-
  Slices of bytes of the call's own; state.bytes. No condition.
-/
import Derived.Test.YtpabggcjmaobhaaDoorA
import Derived.Laws.BytesString
import Derived.Laws.BytesArg
import Derived.WalkSmall
namespace Go.Proofs.YtpabggcjmaobhaaDoor
open Go.RowKit

theorem Tryd.info5 : (Tryd.prog.info? 5).map (fun i => (i.zero, i.size, i.bytes)) = some (some (.int .u8 0), 1, 1) := by kernel_rfl
theorem info5 : ∃ i, Tryd.prog.info? 5 = some i ∧ i.zero = some (.int .u8 0) ∧ i.size = 1 ∧ i.bytes = 1 := by
  have h := Tryd.info5
  cases hq : Tryd.prog.info? 5 with
  | none => simp [hq] at h
  | some i =>
    simp [hq] at h
    exact ⟨i, rfl, h.1, h.2.1, h.2.2⟩

theorem strOf_bytes (l : List UInt8) : strOfNums (l.map fun c => (c.toNat : Int)) = ⟨l.toArray⟩ := by
  unfold strOfNums
  congr 1
  rw [List.map_map]
  have : ((fun n : Int => UInt8.ofNat n.toNat) ∘ fun c : UInt8 => (c.toNat : Int)) = id := by
    funext c; simp
  rw [this, List.map_id]

/-- v is a slice of bytes of the call's own, from block B on, that reads l. -/
def Own (B : Nat) (v : Value) (l : List UInt8) (w : World) : Prop := w.ownsRow B 5 1 v l.length (bytesV l)
theorem Own.alloc {B : Nat} {v : Value} {l : List UInt8} {w : World} (h : Own B v l w) (o : Obj) : Own B v l (w.alloc o) := World.ownsRow.alloc h o
theorem bytesV_append (a b : List UInt8) : bytesV (a ++ b) = bytesV a ++ bytesV b := by simp [bytesV]
theorem Own.mk {B : Nat} {v : Value} {l k : List UInt8} {w : World} {n : Nat} (h : w.ownsRow B 5 1 v n (bytesV l ++ bytesV k)) (hn : n = l.length + k.length) : Own B v (l ++ k) w := by
  unfold Own
  rw [List.length_append, bytesV_append, ← hn]
  exact h
theorem bytes_oneCell (l : List UInt8) : ∀ u ∈ bytesV l, u.oneCell' = true := by
  intro u hu
  simp only [bytesV, List.mem_map] at hu
  obtain ⟨c, _, rfl⟩ := hu
  rfl
theorem Own.below {B : Nat} {x y z : World} {v : Value} {l : List UInt8} (h : Below B x y) (ho : Own B v l y) (hg : y.grownBy z v.ownBlock) (hB : B ≤ y.heap.size) : Below B x z :=
  h.grown hg hB (fun k hk => (ho.lt k hk).1)
theorem Own.slice {B : Nat} {v : Value} {l : List UInt8} {w : World} (h : Own B v l w) : ∃ a c, v = .slice a l.length c := by
  rcases h.2 with ⟨e1, e2⟩ | ⟨g, cap', cur, e, _⟩
  · have : l.length = 0 := e2
    exact ⟨none, 0, by rw [e1, this]⟩
  · exact ⟨_, _, e⟩

theorem conv_own (b n cap : Nat) (a : Option Addr) (l : List UInt8) (w : World) (h : Own b (.slice a n cap) l w) (hn : n = l.length) :
    (convert 47 9 (.slice a n cap)).run Tryd.prog w = .ok (.string ⟨l.toArray⟩) w := by
  subst hn
  rcases h.2 with ⟨e1, e2⟩ | ⟨g, cap', cur, e, _, hg, _, _, _, ht⟩
  · have hl : l = [] := List.length_eq_zero_iff.1 e2
    subst hl
    cases e1
    exact run_convert_bytes_nil w 47 5 Tryd.underlying47 Tryd.underlying5 0 0 9 Tryd.underlying9
  · cases e
    rw [← strOf_bytes]
    refine run_convert_bytes_arg w 47 5 Tryd.underlying47 Tryd.underlying5 g 0 _ cap _ (by simp) (fun i hi => ?_) 9 Tryd.underlying9
    have hc := World.ownsRow.cells (g := g) h rfl i (.int .u8 ((l.map fun c => (c.toNat : Int)).getD i 0)) (by simp [bytesV, List.getElem?_eq_getElem (show i < l.length by simpa using hi)])
    have hplain : (⟨g, 0, none⟩ : Addr).add i = ⟨g, i, none⟩ := by unfold Addr.add; split <;> simp_all
    rw [hplain] at hc
    rw [Nat.zero_add]
    exact hc

/-- The cells of a new array of bytes. -/
theorem new_cells (w : World) (l : List UInt8) (cs : Array Value) (h : cs = (bytesV l).toArray) : ∀ j u, (bytesV l)[j]? = some u → (w.alloc (.cells cs 5)).cell? ((⟨w.heap.size, 0, none⟩ : Addr).add j) = some u := by
  intro j u hu
  have hadd : (⟨w.heap.size, 0, none⟩ : Addr).add j = ⟨w.heap.size, j, none⟩ := by unfold Addr.add; split <;> simp_all
  rw [hadd, World.cell?_alloc_at cs 5 _ _ rfl, h]
  simpa using hu

def toB (n : Int) : UInt8 := UInt8.ofNat (n % 256).toNat
theorem toB_toNat (n : Int) : ((toB n).toNat : Int) = n % 256 := by
  unfold toB
  rw [UInt8.toNat_ofNat']
  omega
def by4 (x : Int) : List UInt8 := [toB (x / 16777216), toB (x / 65536), toB (x / 256), toB x]
theorem by4_cells (x : Int) : #[Value.int .u8 (x / 16777216 % 256), .int .u8 (x / 65536 % 256), .int .u8 (x / 256 % 256), .int .u8 (x % 256)] = (bytesV (by4 x)).toArray := by
  simp [bytesV, by4, toB_toNat]

/-- A new array of bytes, of the call's own. -/
theorem Own.new (w : World) (B : Nat) (hB : B ≤ w.heap.size) (l : List UInt8) (cs : Array Value) (h : cs = (bytesV l).toArray) (hl : l.length ≤ 1000) : Own B (.slice (some ⟨w.heap.size, 0, none⟩) l.length l.length) l (w.alloc (.cells cs 5)) := by
  subst h
  refine ⟨by simp [bytesV], .inr ⟨w.heap.size, l.length, (bytesV l).toArray, rfl, hB, heap_alloc_new w _, Nat.le_refl _, by unfold maxLen; omega, by simp [bytesV], ?_⟩⟩
  rw [List.take_of_length_le (by simp [bytesV])]

set_option maxHeartbeats 400000 in
theorem bytes21 (x : Int) (w : World) :
    Calls Tryd.prog 21 #[.int .u32 x] w fun e w' => e = .returned (.string ⟨(by4 x).toArray⟩) ∧ Below w.heap.size w w' := by
  have hc := conv_own w.heap.size 4 4 (some ⟨w.heap.size, 0, none⟩) (by4 x) _ (Own.new w w.heap.size (Nat.le_refl _) (by4 x) _ (by4_cells x) (by simp [by4])) rfl
  generalize by4 x = l at hc ⊢
  go_enter Tryd.func21, Tryd.ntmps21
  go_wp2
  go_ret
  exact ⟨rfl, (Below.refl _ _).alloc (Nat.le_refl _) _⟩

def St.list (s : St) : List Int := [s.a, s.b, s.c, s.d, s.e, s.f, s.g, s.h]
theorem st_index (s : St) (k : Nat) (hk : k < 8) (w : World) : (Instr.index 39 (.agg s.cells) (.int .i64 k)).run Tryd.prog w = .ok (.int .u32 (s.list.getD k 0)) w := by
  obtain ⟨a, b, c, d, e, f, g, h⟩ := s
  have hn : k = 0 ∨ k = 1 ∨ k = 2 ∨ k = 3 ∨ k = 4 ∨ k = 5 ∨ k = 6 ∨ k = 7 := by omega
  rcases hn with rfl | rfl | rfl | rfl | rfl | rfl | rfl | rfl <;> (show _ = _; kernel_rfl)

theorem make_own (w : World) (B c : Nat) (hB : B ≤ w.heap.size) (hc : c ≤ 1000000) :
    ∃ w', (Instr.makeSlice 47 (.int .i64 0) (.int .i64 (c : Int))).run Tryd.prog w = .ok (.slice (some ⟨w.heap.size, 0, none⟩) 0 c) w' ∧ Own B (.slice (some ⟨w.heap.size, 0, none⟩) 0 c) [] w' ∧ Below w.heap.size w w' := by
  obtain ⟨i0, hi, hz0, hz1, hz2⟩ := info5
  obtain ⟨w', h1, h2, h3⟩ := run_make_own (P := Tryd.prog) w B 47 5 i0 _ 1 Tryd.underlying47 hi hz0 hz1 .i64 .i64 c (by rw [hz2]; omega) (by unfold maxLen; omega) hB
  exact ⟨w', h1, h2, (Below.refl _ _).grown h3 (Nat.le_refl _) (fun k hk => by cases hk)⟩

theorem list_take_succ {α : Type} (l : List Int) (f : Int → List α) (k : Nat) (hk : k < l.length) : (l.take (k + 1)).flatMap f = (l.take k).flatMap f ++ f (l.getD k 0) := by
  rw [List.take_succ_eq_append_getElem hk, List.flatMap_append]
  simp [hk]
theorem by4_length (l : List Int) : (l.flatMap by4).length = 4 * l.length := by
  induction l with
  | nil => rfl
  | cons a l ih => simp only [List.flatMap_cons, List.length_append, List.length_cons, ih]; simp [by4]; omega

set_option maxHeartbeats 800000 in
theorem bytes27 (s : St) (w : World) :
    Calls Tryd.prog 27 #[.agg s.cells] w fun e w' => e = .returned (.string ⟨(s.list.flatMap by4).toArray⟩) ∧ Below w.heap.size w w' := by
  obtain ⟨i0, hi, hz0, hz1, hz2⟩ := info5
  have HIX := Lib.hid (fun k hk w => st_index s k hk w)
  obtain ⟨w1, hm, ho, hb⟩ := make_own (w.alloc (.cells s.cells 39)) w.heap.size 32 (by simp) (by omega)
  have hm' : (Instr.makeSlice 47 (.int .i64 0) (.int .i64 32)).run Tryd.prog (w.alloc (.cells s.cells 39)) = .ok (.slice (some ⟨w.heap.size + 1, 0, none⟩) 0 32) w1 := by simpa using hm
  have HO : Hid (Own w.heap.size (.slice (some ⟨w.heap.size + 1, 0, none⟩) 0 32) [] w1) := by simpa [Hid] using ho
  have HB : Hid (Below w.heap.size w w1) := ((Below.refl _ _).alloc (Nat.le_refl _) _).trans (hb.mono (by simp))
  have hg0 : w1.heap[w.heap.size]? = some (.cells s.cells 39 (0, 0)) := by rw [hb.block _ (by simp), heap_alloc_new]
  have HG0 := Lib.hid hg0
  have hi39 : (Tryd.prog.info? 39).map (·.size) = some 8 := by kernel_rfl
  have HI39 := Lib.hid hi39
  have hsl : s.list.length = 8 := rfl
  generalize s.list = L at HIX hsl ⊢
  have HS := Lib.hid hsl
  clear hm ho hb hsl hg0 hi39
  go_enter Tryd.func27, Tryd.ntmps27
  go_wp2_with (refine wpList_load_row rfl 39 _ rfl w.heap.size rfl 39 _ (0, 0) _ HG0.out Tryd.underlying39 rfl (by exact HI39.out) ?_)
  clear hm' HG0
  go_loopw [3, 8] (fun s3 s8 wr => ∃ k : Nat, k ≤ 8 ∧ s8 = .int .i64 k ∧ Hid (Own w.heap.size s3 ((L.take k).flatMap by4) wr) ∧ Hid (Below w.heap.size w wr)) (fun _ s8 _ => 8 - (intOf s8).toNat)
  case atStart => exact ⟨0, by omega, rfl, HO.out, HB⟩
  case round =>
    obtain ⟨k, hk, rfl, HO, HB⟩ := hrel
    by_cases hlt : k < 8
    · have hix := HIX.out k hlt wr
      have HN : Hid ((L.take (k + 1)).flatMap by4 = (L.take k).flatMap by4 ++ by4 (L.getD k 0)) := list_take_succ L by4 k (by rw [HS.out]; exact hlt)
      have hll : ((L.take k).flatMap by4).length ≤ 32 := by rw [by4_length, List.length_take]; omega
      generalize (L.take k).flatMap by4 = l at HO HN hll
      generalize L.getD k 0 = x at hix HN
      have HC := Lib.hid (by4_cells x)
      have hB1 := HB.out.size
      go_wp2_with (at_builtin; go_must (refine wpList_append_own _ rfl _ _ 47 rfl w.heap.size 5 i0 (.int .u8 0) 1 1 Tryd.underlying47 hi hz0 hz1 hz2 rfl (by omega) _ l.length (bytesV l) rfl (HO.out.alloc _) ⟨wr.heap.size, 0, none⟩ 4 4 (bytesV (by4 x)) rfl (by simp [bytesV, by4]) ?hn (bytes_oneCell _) ?c3 ?c4 ?c5 ?_))
      case hn => exact new_cells wr (by4 x) _ HC.out
      case c3 => unfold maxLen; omega
      case c4 => omega
      case c5 => simp; omega
      intro v' w' ho' hg' _
      have HO' : Hid (Own w.heap.size v' ((L.take (k + 1)).flatMap by4) w') := by unfold Hid; rw [HN.out]; exact Own.mk ho' (by simp [by4])
      have HG := Lib.hid (Own.below (HB.out.alloc hB1 _) (HO.out.alloc _) hg' (by simp; omega))
      clear ho' hg'
      go_wp2
      go_roundw
      case rel => exact ⟨k + 1, by omega, by go_num, HO', HG⟩
      case measure => simp [intOf]; omega
    · have hk8 : k = 8 := by omega
      rw [hk8] at HO
      have ht : L.take 8 = L := List.take_of_length_le (by rw [HS.out]; omega)
      rw [ht] at HO
      generalize hl : L.flatMap by4 = l at HO
      have HL := Lib.hid hl
      clear hl
      obtain ⟨a, c, rfl⟩ := HO.out.slice
      have hcv := conv_own _ _ _ _ _ _ HO.out rfl
      clear hk8 ht HIX
      go_wp2
      go_ret
      exact ⟨by rw [HL.out]; rfl, HB.out⟩
end Go.Proofs.YtpabggcjmaobhaaDoor
