/-
  The document's padded message.
-/
import Derived.Test.YtpabggcjmaobhaaDoorRA
import Derived.Test.YtpabggcjmaobhaaDoorE
import Derived.Deep.RegionLaw
import Derived.Laws.MakeOwn
namespace Go.Proofs.YtpabggcjmaobhaaDoor
open Go.RowKit

theorem conv_row (W : World) (g n : Nat) (q : List UInt8) (hn : q.length = n) (cs : Array Value) (hcs : cs = (bytesV q).toArray) (h : W.heap[g]? = some (.cells cs 5 (0, 0))) (hm : n ≤ 100000) :
    (convert 47 9 (.slice (some ⟨g, 0, none⟩) n n)).run Tryd.prog W = .ok (.string ⟨q.toArray⟩) W := by
  subst hn hcs
  refine conv_own g q.length q.length (some ⟨g, 0, none⟩) q W ⟨by simp [bytesV], .inr ⟨g, q.length, (bytesV q).toArray, rfl, Nat.le_refl _, h, Nat.le_refl _, by unfold maxLen; omega, by simp [bytesV], ?_⟩⟩ rfl
  rw [List.take_of_length_le (by simp [bytesV])]

theorem hp10 (w : World) (O0 : Obj) : (w.alloc O0).drew.heap[w.heap.size]? = some O0 := by
  show (w.alloc O0).heap[w.heap.size]? = some O0
  have := heap_alloc_new w O0
  simpa using this
theorem hp20 (w : World) (O0 O1 : Obj) : ((w.alloc O0).alloc O1).drew.heap[w.heap.size]? = some O0 := by
  show ((w.alloc O0).alloc O1).heap[w.heap.size]? = some O0
  rw [Below.heap_alloc _ _ _ (by simp <;> omega)]
  have := heap_alloc_new w O0
  simpa using this
theorem hp21 (w : World) (O0 O1 : Obj) : ((w.alloc O0).alloc O1).drew.heap[w.heap.size + 1]? = some O1 := by
  show ((w.alloc O0).alloc O1).heap[w.heap.size + 1]? = some O1
  have := heap_alloc_new (w.alloc O0) O1
  simpa using this
theorem hp30 (w : World) (O0 O1 O2 : Obj) : (((w.alloc O0).alloc O1).alloc O2).drew.heap[w.heap.size]? = some O0 := by
  show (((w.alloc O0).alloc O1).alloc O2).heap[w.heap.size]? = some O0
  rw [Below.heap_alloc _ _ _ (by simp <;> omega)]
  rw [Below.heap_alloc _ _ _ (by simp <;> omega)]
  have := heap_alloc_new w O0
  simpa using this
theorem hp31 (w : World) (O0 O1 O2 : Obj) : (((w.alloc O0).alloc O1).alloc O2).drew.heap[w.heap.size + 1]? = some O1 := by
  show (((w.alloc O0).alloc O1).alloc O2).heap[w.heap.size + 1]? = some O1
  rw [Below.heap_alloc _ _ _ (by simp <;> omega)]
  have := heap_alloc_new (w.alloc O0) O1
  simpa using this
theorem hp32 (w : World) (O0 O1 O2 : Obj) : (((w.alloc O0).alloc O1).alloc O2).drew.heap[w.heap.size + 1 + 1]? = some O2 := by
  show (((w.alloc O0).alloc O1).alloc O2).heap[w.heap.size + 1 + 1]? = some O2
  have := heap_alloc_new ((w.alloc O0).alloc O1) O2
  simpa using this
theorem hp40 (w : World) (O0 O1 O2 O3 : Obj) : ((((w.alloc O0).alloc O1).alloc O2).alloc O3).drew.heap[w.heap.size]? = some O0 := by
  show ((((w.alloc O0).alloc O1).alloc O2).alloc O3).heap[w.heap.size]? = some O0
  rw [Below.heap_alloc _ _ _ (by simp <;> omega)]
  rw [Below.heap_alloc _ _ _ (by simp <;> omega)]
  rw [Below.heap_alloc _ _ _ (by simp <;> omega)]
  have := heap_alloc_new w O0
  simpa using this
theorem hp41 (w : World) (O0 O1 O2 O3 : Obj) : ((((w.alloc O0).alloc O1).alloc O2).alloc O3).drew.heap[w.heap.size + 1]? = some O1 := by
  show ((((w.alloc O0).alloc O1).alloc O2).alloc O3).heap[w.heap.size + 1]? = some O1
  rw [Below.heap_alloc _ _ _ (by simp <;> omega)]
  rw [Below.heap_alloc _ _ _ (by simp <;> omega)]
  have := heap_alloc_new (w.alloc O0) O1
  simpa using this
theorem hp42 (w : World) (O0 O1 O2 O3 : Obj) : ((((w.alloc O0).alloc O1).alloc O2).alloc O3).drew.heap[w.heap.size + 1 + 1]? = some O2 := by
  show ((((w.alloc O0).alloc O1).alloc O2).alloc O3).heap[w.heap.size + 1 + 1]? = some O2
  rw [Below.heap_alloc _ _ _ (by simp <;> omega)]
  have := heap_alloc_new ((w.alloc O0).alloc O1) O2
  simpa using this
theorem hp43 (w : World) (O0 O1 O2 O3 : Obj) : ((((w.alloc O0).alloc O1).alloc O2).alloc O3).drew.heap[w.heap.size + 1 + 1 + 1]? = some O3 := by
  show ((((w.alloc O0).alloc O1).alloc O2).alloc O3).heap[w.heap.size + 1 + 1 + 1]? = some O3
  have := heap_alloc_new (((w.alloc O0).alloc O1).alloc O2) O3
  simpa using this

theorem made_row (n : Nat) (hn : n ≤ 64) : ∃ ZC : Array Value, ZC = (bytesV (List.replicate n 0)).toArray ∧ ∀ W : World, (Instr.makeSlice 47 (.int .i64 (n : Int)) (.int .i64 (n : Int))).run Tryd.prog W = .ok (.slice (some ⟨W.heap.size, 0, none⟩) n n) (W.alloc (.cells ZC 5)) := by
  obtain ⟨i0, hi, hz0, hz1, hz2⟩ := info5
  refine ⟨_, rfl, fun W => ?_⟩
  have := run_make (P := Tryd.prog) W 47 5 i0 _ Tryd.underlying47 hi hz0 .i64 .i64 (n : Int) (n : Int) (by omega) (Int.le_refl _) (by rw [hz2]; omega) (by omega)
  rw [this, hz1]
  have e : madeCells (Value.int .u8 0).cells ((n : Int).toNat * 1) = (bytesV (List.replicate n 0)).toArray := by
    apply Array.ext'
    simp [madeCells, bytesV, Value.cells]
    rw [List.eq_replicate_iff]
    refine ⟨by simp, fun b hb => ?_⟩
    obtain ⟨x, -, rfl⟩ := List.mem_map.1 hb
    rw [Nat.mod_one]
    rfl
  rw [e]
  simp
theorem bytes21x (x : Int) (w : World) :
    Calls Tryd.prog 21 #[.int .u32 x] w fun e w' => e = .returned (.string ⟨(by4 x).toArray⟩) ∧ w' = w.alloc (.cells (bytesV (by4 x)).toArray 5) := by
  have hc := conv_own w.heap.size 4 4 (some ⟨w.heap.size, 0, none⟩) (by4 x) _ (Own.new w w.heap.size (Nat.le_refl _) (by4 x) _ (by4_cells x) (by simp [by4])) rfl
  have HE := Lib.hid (by4_cells x)
  generalize by4 x = l at hc HE ⊢
  go_enter Tryd.func21, Tryd.ntmps21
  go_wp2
  go_ret
  exact ⟨rfl, by rw [HE.out]⟩

theorem len8_eq (N : Nat) (hN : N ≤ 3000) : by4 (IntKind.u32.wrap (IntKind.u64.wrap (N : Int) / 536870912)) ++ by4 (IntKind.u32.wrap (IntKind.u64.wrap (IntKind.u64.wrap (N : Int) * 8))) = len8To N 8 := by
  have e1 : IntKind.u64.wrap (N : Int) = (N : Int) := by rw [IntKind.wrap_u64]; omega
  have e2 : IntKind.u64.wrap ((N : Int) * 8) = (N : Int) * 8 := by rw [IntKind.wrap_u64]; omega
  have e3 : IntKind.u32.wrap ((N : Int) / 536870912) = 0 := by rw [IntKind.wrap_u32']; omega
  have e4 : IntKind.u32.wrap ((N : Int) * 8) = (N : Int) * 8 := by rw [IntKind.wrap_u32']; omega
  rw [e1, e2, e3, e4]
  have r8 : List.range 8 = [0, 1, 2, 3, 4, 5, 6, 7] := rfl
  unfold len8To by4
  rw [r8]
  simp only [List.map_cons, List.map_nil, List.cons_append, List.nil_append]
  have z0 : (N : Int) * 8 / 2 ^ (8 * (7 - 0)) = 0 := by show (N : Int) * 8 / 72057594037927936 = 0; omega
  have z1 : (N : Int) * 8 / 2 ^ (8 * (7 - 1)) = 0 := by show (N : Int) * 8 / 281474976710656 = 0; omega
  have z2 : (N : Int) * 8 / 2 ^ (8 * (7 - 2)) = 0 := by show (N : Int) * 8 / 1099511627776 = 0; omega
  have z3 : (N : Int) * 8 / 2 ^ (8 * (7 - 3)) = 0 := by show (N : Int) * 8 / 4294967296 = 0; omega
  have z4 : (N : Int) * 8 / 2 ^ (8 * (7 - 4)) = (N : Int) * 8 / 16777216 := rfl
  have z5 : (N : Int) * 8 / 2 ^ (8 * (7 - 5)) = (N : Int) * 8 / 65536 := rfl
  have z6 : (N : Int) * 8 / 2 ^ (8 * (7 - 6)) = (N : Int) * 8 / 256 := rfl
  have z7 : (N : Int) * 8 / 2 ^ (8 * (7 - 7)) = (N : Int) * 8 := by show (N : Int) * 8 / 1 = _; omega
  rw [z0, z1, z2, z3, z4, z5, z6, z7]
  rfl

set_option maxRecDepth 100000 in
set_option maxHeartbeats 20000000 in
theorem refPadded19_core (l l1 l2 l3 l4 q1 q2 zs : List UInt8) (n : Nat) (ZC cs1 cs2 : Array Value) (w : World) (hl : l.length ≤ 3000) (_hn : n ≤ 64)
    (e : (119 - (l.length : Int) % 64) % 64 = (n : Int)) (e' : (119 - (l.length : Int)) % 64 = (n : Int))
    (hM : ∀ W : World, (Instr.makeSlice 47 (.int .i64 (n : Int)) (.int .i64 (n : Int))).run Tryd.prog W = .ok (.slice (some ⟨W.heap.size, 0, none⟩) n n) (W.alloc (.cells ZC 5)))
    (cvA : ∀ (W : World) (g : Nat), W.heap[g]? = some (.cells #[.int .u8 128] 5 (0, 0)) → (convert 47 9 (.slice (some ⟨g, 0, none⟩) 1 1)).run Tryd.prog W = .ok (.string ⟨#[128]⟩) W)
    (cvZ : ∀ (W : World) (g : Nat), W.heap[g]? = some (.cells ZC 5 (0, 0)) → (convert 47 9 (.slice (some ⟨g, 0, none⟩) n n)).run Tryd.prog W = .ok (.string ⟨zs.toArray⟩) W)
    (h1 : (⟨l.toArray⟩ : ByteArray) ++ ⟨#[128]⟩ = ⟨l1.toArray⟩) (h2 : (⟨l1.toArray⟩ : ByteArray) ++ ⟨zs.toArray⟩ = ⟨l2.toArray⟩) (h3 : (⟨l2.toArray⟩ : ByteArray) ++ ⟨q1.toArray⟩ = ⟨l3.toArray⟩) (h4 : (⟨l3.toArray⟩ : ByteArray) ++ ⟨q2.toArray⟩ = ⟨l4.toArray⟩)
    (b1 : l1.length ≤ 4000) (b2 : l2.length ≤ 4000) (b3 : l3.length ≤ 4000) (bz : zs.length ≤ 4000) (bq1 : q1.length ≤ 4000) (bq2 : q2.length ≤ 4000)
    (HB1 : Hid (∀ W, Calls Tryd.prog 21 #[.int .u32 (IntKind.u32.wrap (IntKind.u64.wrap (l.length : Int) / 536870912))] W fun e w' => e = .returned (.string ⟨q1.toArray⟩) ∧ w' = W.alloc (.cells cs1 5)))
    (HB2 : Hid (∀ W, Calls Tryd.prog 21 #[.int .u32 (IntKind.u32.wrap (IntKind.u64.wrap (IntKind.u64.wrap (l.length : Int) * 8)))] W fun e w' => e = .returned (.string ⟨q2.toArray⟩) ∧ w' = W.alloc (.cells cs2 5))) :
    Calls Tryd.prog 19 #[.string ⟨l.toArray⟩] w fun e w' => e = .returned (.string ⟨l4.toArray⟩) ∧ Below w.heap.size w w' := by
  have fa0 := cvA (w.alloc (.cells #[.int .u8 128] 5)).drew (w.heap.size) (hp10 w (.cells #[.int .u8 128] 5))
  have fa1 := cvA ((w.alloc (.cells #[.int .u8 128] 5)).alloc (.cells ZC 5)).drew (w.heap.size) (hp20 w (.cells #[.int .u8 128] 5) (.cells ZC 5))
  have fa2 := cvA (((w.alloc (.cells #[.int .u8 128] 5)).alloc (.cells ZC 5)).alloc (.cells cs1 5)).drew (w.heap.size) (hp30 w (.cells #[.int .u8 128] 5) (.cells ZC 5) (.cells cs1 5))
  have fa3 := cvA ((((w.alloc (.cells #[.int .u8 128] 5)).alloc (.cells ZC 5)).alloc (.cells cs1 5)).alloc (.cells cs2 5)).drew (w.heap.size) (hp40 w (.cells #[.int .u8 128] 5) (.cells ZC 5) (.cells cs1 5) (.cells cs2 5))
  have fa4 := cvA ((w.alloc (.cells #[.int .u8 128] 5)).alloc (.cells cs1 5)).drew (w.heap.size) (hp20 w (.cells #[.int .u8 128] 5) (.cells cs1 5))
  have fa5 := cvA (((w.alloc (.cells #[.int .u8 128] 5)).alloc (.cells cs1 5)).alloc (.cells ZC 5)).drew (w.heap.size) (hp30 w (.cells #[.int .u8 128] 5) (.cells cs1 5) (.cells ZC 5))
  have fa6 := cvA ((((w.alloc (.cells #[.int .u8 128] 5)).alloc (.cells cs1 5)).alloc (.cells ZC 5)).alloc (.cells cs2 5)).drew (w.heap.size) (hp40 w (.cells #[.int .u8 128] 5) (.cells cs1 5) (.cells ZC 5) (.cells cs2 5))
  have fa7 := cvA (((w.alloc (.cells #[.int .u8 128] 5)).alloc (.cells cs1 5)).alloc (.cells cs2 5)).drew (w.heap.size) (hp30 w (.cells #[.int .u8 128] 5) (.cells cs1 5) (.cells cs2 5))
  have fa8 := cvA ((((w.alloc (.cells #[.int .u8 128] 5)).alloc (.cells cs1 5)).alloc (.cells cs2 5)).alloc (.cells ZC 5)).drew (w.heap.size) (hp40 w (.cells #[.int .u8 128] 5) (.cells cs1 5) (.cells cs2 5) (.cells ZC 5))
  have fa9 := cvA ((w.alloc (.cells ZC 5)).alloc (.cells #[.int .u8 128] 5)).drew (w.heap.size + 1) (hp21 w (.cells ZC 5) (.cells #[.int .u8 128] 5))
  have fa10 := cvA (((w.alloc (.cells ZC 5)).alloc (.cells #[.int .u8 128] 5)).alloc (.cells cs1 5)).drew (w.heap.size + 1) (hp31 w (.cells ZC 5) (.cells #[.int .u8 128] 5) (.cells cs1 5))
  have fa11 := cvA ((((w.alloc (.cells ZC 5)).alloc (.cells #[.int .u8 128] 5)).alloc (.cells cs1 5)).alloc (.cells cs2 5)).drew (w.heap.size + 1) (hp41 w (.cells ZC 5) (.cells #[.int .u8 128] 5) (.cells cs1 5) (.cells cs2 5))
  have fa12 := cvA (((w.alloc (.cells ZC 5)).alloc (.cells cs1 5)).alloc (.cells #[.int .u8 128] 5)).drew (w.heap.size + 1 + 1) (hp32 w (.cells ZC 5) (.cells cs1 5) (.cells #[.int .u8 128] 5))
  have fa13 := cvA ((((w.alloc (.cells ZC 5)).alloc (.cells cs1 5)).alloc (.cells #[.int .u8 128] 5)).alloc (.cells cs2 5)).drew (w.heap.size + 1 + 1) (hp42 w (.cells ZC 5) (.cells cs1 5) (.cells #[.int .u8 128] 5) (.cells cs2 5))
  have fa14 := cvA ((((w.alloc (.cells ZC 5)).alloc (.cells cs1 5)).alloc (.cells cs2 5)).alloc (.cells #[.int .u8 128] 5)).drew (w.heap.size + 1 + 1 + 1) (hp43 w (.cells ZC 5) (.cells cs1 5) (.cells cs2 5) (.cells #[.int .u8 128] 5))
  have fa15 := cvA ((w.alloc (.cells cs1 5)).alloc (.cells #[.int .u8 128] 5)).drew (w.heap.size + 1) (hp21 w (.cells cs1 5) (.cells #[.int .u8 128] 5))
  have fa16 := cvA (((w.alloc (.cells cs1 5)).alloc (.cells #[.int .u8 128] 5)).alloc (.cells ZC 5)).drew (w.heap.size + 1) (hp31 w (.cells cs1 5) (.cells #[.int .u8 128] 5) (.cells ZC 5))
  have fa17 := cvA ((((w.alloc (.cells cs1 5)).alloc (.cells #[.int .u8 128] 5)).alloc (.cells ZC 5)).alloc (.cells cs2 5)).drew (w.heap.size + 1) (hp41 w (.cells cs1 5) (.cells #[.int .u8 128] 5) (.cells ZC 5) (.cells cs2 5))
  have fa18 := cvA (((w.alloc (.cells cs1 5)).alloc (.cells #[.int .u8 128] 5)).alloc (.cells cs2 5)).drew (w.heap.size + 1) (hp31 w (.cells cs1 5) (.cells #[.int .u8 128] 5) (.cells cs2 5))
  have fa19 := cvA ((((w.alloc (.cells cs1 5)).alloc (.cells #[.int .u8 128] 5)).alloc (.cells cs2 5)).alloc (.cells ZC 5)).drew (w.heap.size + 1) (hp41 w (.cells cs1 5) (.cells #[.int .u8 128] 5) (.cells cs2 5) (.cells ZC 5))
  have fa20 := cvA (((w.alloc (.cells cs1 5)).alloc (.cells ZC 5)).alloc (.cells #[.int .u8 128] 5)).drew (w.heap.size + 1 + 1) (hp32 w (.cells cs1 5) (.cells ZC 5) (.cells #[.int .u8 128] 5))
  have fa21 := cvA ((((w.alloc (.cells cs1 5)).alloc (.cells ZC 5)).alloc (.cells #[.int .u8 128] 5)).alloc (.cells cs2 5)).drew (w.heap.size + 1 + 1) (hp42 w (.cells cs1 5) (.cells ZC 5) (.cells #[.int .u8 128] 5) (.cells cs2 5))
  have fa22 := cvA ((((w.alloc (.cells cs1 5)).alloc (.cells ZC 5)).alloc (.cells cs2 5)).alloc (.cells #[.int .u8 128] 5)).drew (w.heap.size + 1 + 1 + 1) (hp43 w (.cells cs1 5) (.cells ZC 5) (.cells cs2 5) (.cells #[.int .u8 128] 5))
  have fa23 := cvA (((w.alloc (.cells cs1 5)).alloc (.cells cs2 5)).alloc (.cells #[.int .u8 128] 5)).drew (w.heap.size + 1 + 1) (hp32 w (.cells cs1 5) (.cells cs2 5) (.cells #[.int .u8 128] 5))
  have fa24 := cvA ((((w.alloc (.cells cs1 5)).alloc (.cells cs2 5)).alloc (.cells #[.int .u8 128] 5)).alloc (.cells ZC 5)).drew (w.heap.size + 1 + 1) (hp42 w (.cells cs1 5) (.cells cs2 5) (.cells #[.int .u8 128] 5) (.cells ZC 5))
  have fa25 := cvA ((((w.alloc (.cells cs1 5)).alloc (.cells cs2 5)).alloc (.cells ZC 5)).alloc (.cells #[.int .u8 128] 5)).drew (w.heap.size + 1 + 1 + 1) (hp43 w (.cells cs1 5) (.cells cs2 5) (.cells ZC 5) (.cells #[.int .u8 128] 5))
  have fz26 := cvZ ((w.alloc (.cells #[.int .u8 128] 5)).alloc (.cells ZC 5)).drew (w.heap.size + 1) (hp21 w (.cells #[.int .u8 128] 5) (.cells ZC 5))
  have fz27 := cvZ (((w.alloc (.cells #[.int .u8 128] 5)).alloc (.cells ZC 5)).alloc (.cells cs1 5)).drew (w.heap.size + 1) (hp31 w (.cells #[.int .u8 128] 5) (.cells ZC 5) (.cells cs1 5))
  have fz28 := cvZ ((((w.alloc (.cells #[.int .u8 128] 5)).alloc (.cells ZC 5)).alloc (.cells cs1 5)).alloc (.cells cs2 5)).drew (w.heap.size + 1) (hp41 w (.cells #[.int .u8 128] 5) (.cells ZC 5) (.cells cs1 5) (.cells cs2 5))
  have fz29 := cvZ (((w.alloc (.cells #[.int .u8 128] 5)).alloc (.cells cs1 5)).alloc (.cells ZC 5)).drew (w.heap.size + 1 + 1) (hp32 w (.cells #[.int .u8 128] 5) (.cells cs1 5) (.cells ZC 5))
  have fz30 := cvZ ((((w.alloc (.cells #[.int .u8 128] 5)).alloc (.cells cs1 5)).alloc (.cells ZC 5)).alloc (.cells cs2 5)).drew (w.heap.size + 1 + 1) (hp42 w (.cells #[.int .u8 128] 5) (.cells cs1 5) (.cells ZC 5) (.cells cs2 5))
  have fz31 := cvZ ((((w.alloc (.cells #[.int .u8 128] 5)).alloc (.cells cs1 5)).alloc (.cells cs2 5)).alloc (.cells ZC 5)).drew (w.heap.size + 1 + 1 + 1) (hp43 w (.cells #[.int .u8 128] 5) (.cells cs1 5) (.cells cs2 5) (.cells ZC 5))
  have fz32 := cvZ (w.alloc (.cells ZC 5)).drew (w.heap.size) (hp10 w (.cells ZC 5))
  have fz33 := cvZ ((w.alloc (.cells ZC 5)).alloc (.cells #[.int .u8 128] 5)).drew (w.heap.size) (hp20 w (.cells ZC 5) (.cells #[.int .u8 128] 5))
  have fz34 := cvZ (((w.alloc (.cells ZC 5)).alloc (.cells #[.int .u8 128] 5)).alloc (.cells cs1 5)).drew (w.heap.size) (hp30 w (.cells ZC 5) (.cells #[.int .u8 128] 5) (.cells cs1 5))
  have fz35 := cvZ ((((w.alloc (.cells ZC 5)).alloc (.cells #[.int .u8 128] 5)).alloc (.cells cs1 5)).alloc (.cells cs2 5)).drew (w.heap.size) (hp40 w (.cells ZC 5) (.cells #[.int .u8 128] 5) (.cells cs1 5) (.cells cs2 5))
  have fz36 := cvZ ((w.alloc (.cells ZC 5)).alloc (.cells cs1 5)).drew (w.heap.size) (hp20 w (.cells ZC 5) (.cells cs1 5))
  have fz37 := cvZ (((w.alloc (.cells ZC 5)).alloc (.cells cs1 5)).alloc (.cells #[.int .u8 128] 5)).drew (w.heap.size) (hp30 w (.cells ZC 5) (.cells cs1 5) (.cells #[.int .u8 128] 5))
  have fz38 := cvZ ((((w.alloc (.cells ZC 5)).alloc (.cells cs1 5)).alloc (.cells #[.int .u8 128] 5)).alloc (.cells cs2 5)).drew (w.heap.size) (hp40 w (.cells ZC 5) (.cells cs1 5) (.cells #[.int .u8 128] 5) (.cells cs2 5))
  have fz39 := cvZ (((w.alloc (.cells ZC 5)).alloc (.cells cs1 5)).alloc (.cells cs2 5)).drew (w.heap.size) (hp30 w (.cells ZC 5) (.cells cs1 5) (.cells cs2 5))
  have fz40 := cvZ ((((w.alloc (.cells ZC 5)).alloc (.cells cs1 5)).alloc (.cells cs2 5)).alloc (.cells #[.int .u8 128] 5)).drew (w.heap.size) (hp40 w (.cells ZC 5) (.cells cs1 5) (.cells cs2 5) (.cells #[.int .u8 128] 5))
  have fz41 := cvZ (((w.alloc (.cells cs1 5)).alloc (.cells #[.int .u8 128] 5)).alloc (.cells ZC 5)).drew (w.heap.size + 1 + 1) (hp32 w (.cells cs1 5) (.cells #[.int .u8 128] 5) (.cells ZC 5))
  have fz42 := cvZ ((((w.alloc (.cells cs1 5)).alloc (.cells #[.int .u8 128] 5)).alloc (.cells ZC 5)).alloc (.cells cs2 5)).drew (w.heap.size + 1 + 1) (hp42 w (.cells cs1 5) (.cells #[.int .u8 128] 5) (.cells ZC 5) (.cells cs2 5))
  have fz43 := cvZ ((((w.alloc (.cells cs1 5)).alloc (.cells #[.int .u8 128] 5)).alloc (.cells cs2 5)).alloc (.cells ZC 5)).drew (w.heap.size + 1 + 1 + 1) (hp43 w (.cells cs1 5) (.cells #[.int .u8 128] 5) (.cells cs2 5) (.cells ZC 5))
  have fz44 := cvZ ((w.alloc (.cells cs1 5)).alloc (.cells ZC 5)).drew (w.heap.size + 1) (hp21 w (.cells cs1 5) (.cells ZC 5))
  have fz45 := cvZ (((w.alloc (.cells cs1 5)).alloc (.cells ZC 5)).alloc (.cells #[.int .u8 128] 5)).drew (w.heap.size + 1) (hp31 w (.cells cs1 5) (.cells ZC 5) (.cells #[.int .u8 128] 5))
  have fz46 := cvZ ((((w.alloc (.cells cs1 5)).alloc (.cells ZC 5)).alloc (.cells #[.int .u8 128] 5)).alloc (.cells cs2 5)).drew (w.heap.size + 1) (hp41 w (.cells cs1 5) (.cells ZC 5) (.cells #[.int .u8 128] 5) (.cells cs2 5))
  have fz47 := cvZ (((w.alloc (.cells cs1 5)).alloc (.cells ZC 5)).alloc (.cells cs2 5)).drew (w.heap.size + 1) (hp31 w (.cells cs1 5) (.cells ZC 5) (.cells cs2 5))
  have fz48 := cvZ ((((w.alloc (.cells cs1 5)).alloc (.cells ZC 5)).alloc (.cells cs2 5)).alloc (.cells #[.int .u8 128] 5)).drew (w.heap.size + 1) (hp41 w (.cells cs1 5) (.cells ZC 5) (.cells cs2 5) (.cells #[.int .u8 128] 5))
  have fz49 := cvZ ((((w.alloc (.cells cs1 5)).alloc (.cells cs2 5)).alloc (.cells #[.int .u8 128] 5)).alloc (.cells ZC 5)).drew (w.heap.size + 1 + 1 + 1) (hp43 w (.cells cs1 5) (.cells cs2 5) (.cells #[.int .u8 128] 5) (.cells ZC 5))
  have fz50 := cvZ (((w.alloc (.cells cs1 5)).alloc (.cells cs2 5)).alloc (.cells ZC 5)).drew (w.heap.size + 1 + 1) (hp32 w (.cells cs1 5) (.cells cs2 5) (.cells ZC 5))
  have fz51 := cvZ ((((w.alloc (.cells cs1 5)).alloc (.cells cs2 5)).alloc (.cells ZC 5)).alloc (.cells #[.int .u8 128] 5)).drew (w.heap.size + 1 + 1) (hp42 w (.cells cs1 5) (.cells cs2 5) (.cells ZC 5) (.cells #[.int .u8 128] 5))
  clear cvA cvZ
  have k1 : ¬ 9223372036854775807 < l.length + 1 := by omega
  have k2 : ¬ 9223372036854775807 < l1.length + zs.length := by omega
  have k3 : ¬ 9223372036854775807 < l2.length + q1.length := by omega
  have k4 : ¬ 9223372036854775807 < l3.length + q2.length := by omega
  go_enter Tryd.func19, Tryd.ntmps19
  go_wp2
  clear e
  go_region_law (first | (go_simp; go_at_call 21; (with_reducible refine (HB1.out _).mono ?_); rintro e w' ⟨rfl, rfl⟩) | (go_simp; go_at_call 21; (with_reducible refine (HB2.out _).mono ?_); rintro e w' ⟨rfl, rfl⟩))
  all_goals
    clear fa0 fa1 fa2 fa3 fa4 fa5 fa6 fa7 fa8 fa9 fa10 fa11 fa12 fa13 fa14 fa15 fa16 fa17 fa18 fa19 fa20 fa21 fa22 fa23 fa24 fa25 fz26 fz27 fz28 fz29 fz30 fz31 fz32 fz33 fz34 fz35 fz36 fz37 fz38 fz39 fz40 fz41 fz42 fz43 fz44 fz45 fz46 fz47 fz48 fz49 fz50 fz51 hM HB1 HB2
    go_wp2
    go_ret
    refine ⟨rfl, ?_⟩
    repeat (first | exact Below.refl _ _ | refine Below.drew ?_ | refine Below.alloc ?_ (by simp <;> omega) _)
end Go.Proofs.YtpabggcjmaobhaaDoor
