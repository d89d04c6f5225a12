/-
  A drum of the program in memory; what a call may turn. No condition.
-/
import Derived.Test.YtjanddnlhaionaaGreatDoorL6P
import Derived.Lib.Hide
import Derived.Laws.BytesString
import Derived.Laws.BytesArg
import Derived.Laws.CopyOwn
import Derived.WalkSmall
import Derived.Deep.MidRow
import Derived.Deep.WholeRow
import Derived.Deep.RegionHeld3
import Derived.Deep.AppendLies
import Derived.StillTailTactics
import Derived.BigQuiet
import Derived.Deep.QuietTactic
namespace Go.Proofs.YtjanddnlhaionaaGreatDoor.L6
open Go.RowKit

def bytesV (l : List UInt8) : List Value := l.map fun c => Value.int .u8 c.toNat
set_option maxRecDepth 100000 in
theorem bytesV_len (B : List UInt8) : (bytesV B).length = B.length := by simp [bytesV]
set_option maxRecDepth 100000 in
theorem bytes_oneCell (l : List UInt8) : ∀ u ∈ bytesV l, u.oneCell' = true := by
  intro u hu
  simp only [bytesV, List.mem_map] at hu
  obtain ⟨c, _, rfl⟩ := hu
  rfl
def secC (s : ByteArray) : List Value := bytesV s.data.toList
set_option maxRecDepth 100000 in
theorem secC_len (s : ByteArray) : (secC s).length = s.size := by simp [secC, bytesV_len]
def secCells (S : List ByteArray) : List Value := S.flatMap secC
def penC (p : Nat × ByteArray) : List Value := .int .i64 (p.1 : Int) :: secC p.2
def penCells (W : List (Nat × ByteArray)) : List Value := W.flatMap penC

/-! ### Rows of a fixed width -/
set_option maxRecDepth 100000 in
theorem fm_len {α : Type} (f : α → List Value) (m : Nat) : ∀ (l : List α), (∀ x ∈ l, (f x).length = m) → (l.flatMap f).length = l.length * m
  | [], _ => by simp
  | a :: l, h => by
    rw [List.flatMap_cons, List.length_append, h a List.mem_cons_self, fm_len f m l (fun x hx => h x (List.mem_cons_of_mem _ hx)), List.length_cons, Nat.succ_mul]
    omega
set_option maxRecDepth 100000 in
theorem fm_get {α : Type} (f : α → List Value) (m : Nat) : ∀ (l : List α), (∀ x ∈ l, (f x).length = m) → ∀ (k : Nat) (x : α), l[k]? = some x → ∀ j, j < m → (l.flatMap f)[k * m + j]? = (f x)[j]?
  | [], _, k, x, hk, j, _ => by simp at hk
  | a :: l, h, 0, x, hk, j, hj => by
    have : a = x := by simpa using hk
    subst this
    rw [List.flatMap_cons, Nat.zero_mul, Nat.zero_add, List.getElem?_append_left (by rw [h a List.mem_cons_self]; exact hj)]
  | a :: l, h, k + 1, x, hk, j, hj => by
    have hk' : l[k]? = some x := by simpa using hk
    have ih := fm_get f m l (fun x hx => h x (List.mem_cons_of_mem _ hx)) k x hk' j hj
    rw [List.flatMap_cons, List.getElem?_append_right (by rw [h a List.mem_cons_self, Nat.succ_mul]; omega), h a List.mem_cons_self, Nat.succ_mul, show k * m + m + j - m = k * m + j by omega]
    exact ih
set_option maxRecDepth 100000 in
theorem fm_set {α : Type} (f : α → List Value) (m : Nat) : ∀ (l : List α), (∀ x ∈ l, (f x).length = m) → ∀ (k : Nat) (y : α), k < l.length → (f y).length = m →
    (l.set k y).flatMap f = (l.flatMap f).take (k * m) ++ f y ++ (l.flatMap f).drop (k * m + m)
  | [], _, k, y, hk, _ => by simp at hk
  | a :: l, h, 0, y, _, hy => by
    have ha := h a List.mem_cons_self
    rw [List.set_cons_zero, List.flatMap_cons, List.flatMap_cons, Nat.zero_mul, Nat.zero_add, List.take_zero, List.nil_append, ← ha, List.drop_left]
  | a :: l, h, k + 1, y, hk, hy => by
    have ha := h a List.mem_cons_self
    have ih := fm_set f m l (fun x hx => h x (List.mem_cons_of_mem _ hx)) k y (by simpa using hk) hy
    rw [List.set_cons_succ, List.flatMap_cons, List.flatMap_cons, ih, Nat.succ_mul]
    have e1 : ((f a ++ l.flatMap f).take (k * m + m)) = f a ++ (l.flatMap f).take (k * m) := by
      rw [List.take_append, ha, List.take_of_length_le (by omega), show k * m + m - m = k * m by omega]
    have e2 : ((f a ++ l.flatMap f).drop (k * m + m + m)) = (l.flatMap f).drop (k * m + m) := by
      rw [List.drop_append, ha, List.drop_of_length_le (by omega), List.nil_append, show k * m + m + m - m = k * m + m by omega]
    rw [e1, e2]
    simp [List.append_assoc]

/-! ### What a call may turn -/
structure Turn (F : Nat → Prop) (w w' : World) : Prop where
  os : w'.os = w.os
  tape : w'.tape = w.tape
  output : w'.output = w.output
  size : w.heap.size ≤ w'.heap.size
  block : ∀ k, k < w.heap.size → ¬ F k → w'.heap[k]? = w.heap[k]?
/-- F, and what is new. -/
def Up (F : Nat → Prop) (w w' : World) : Nat → Prop := fun k => F k ∨ (w.heap.size ≤ k ∧ k < w'.heap.size)

set_option maxRecDepth 100000 in
theorem Turn.refl (F : Nat → Prop) (w : World) : Turn F w w := ⟨rfl, rfl, rfl, Nat.le_refl _, fun _ _ _ => rfl⟩
set_option maxRecDepth 100000 in
theorem Turn.trans {F G : Nat → Prop} {a b c : World} (h : Turn F a b) (k : Turn G b c) (hG : ∀ i, G i → F i ∨ a.heap.size ≤ i) : Turn F a c :=
  ⟨k.os.trans h.os, k.tape.trans h.tape, k.output.trans h.output, Nat.le_trans h.size k.size, fun i hi hn =>
    (k.block i (Nat.lt_of_lt_of_le hi h.size) (fun hg => by rcases hG i hg with h1 | h1; exact hn h1; omega)).trans (h.block i hi hn)⟩
set_option maxRecDepth 100000 in
theorem Turn.mono {F G : Nat → Prop} {a b : World} (h : Turn F a b) (hG : ∀ i, F i → G i) : Turn G a b :=
  ⟨h.os, h.tape, h.output, h.size, fun i hi hn => h.block i hi (fun hf => hn (hG i hf))⟩
set_option maxRecDepth 100000 in
theorem Turn.of_below {F : Nat → Prop} {a b : World} (h : Below a.heap.size a b) : Turn F a b := ⟨h.os, h.tape, h.output, h.size, fun i hi _ => h.block i hi⟩
set_option maxRecDepth 100000 in
theorem Turn.below {F : Nat → Prop} {a b : World} (h : Turn F a b) (B : Nat) (hB : B ≤ a.heap.size) (hF : ∀ k, F k → B ≤ k) : Below B a b :=
  ⟨h.os, h.tape, h.output, h.size, fun i hi => h.block i (by omega) (fun hf => by have := hF i hf; omega)⟩
set_option maxRecDepth 100000 in
theorem Turn.of_grown {F : Nat → Prop} {a b : World} {row : Option Nat} (h : a.grownBy b row) (hF : ∀ k, row = some k → F k) : Turn F a b :=
  ⟨h.os, h.tape, h.output, h.size, fun i hi hn => h.block i hi (fun e => hn (hF i e.symm))⟩
set_option maxRecDepth 100000 in
theorem Turn.setCell {F : Nat → Prop} {a b : World} (h : Turn F a b) (p : Addr) (u : Value) (hp : F p.block ∨ a.heap.size ≤ p.block) : Turn F a (b.setCell p u) :=
  ⟨h.os, h.tape, h.output, by simpa [World.setCell] using h.size, fun i hi hn => by
    rw [Below.heap_setCell _ _ _ _ (fun e => by rcases hp with h1 | h1; exact hn (e ▸ h1); omega)]
    exact h.block i hi hn⟩
set_option maxRecDepth 100000 in
theorem Turn.alloc {F : Nat → Prop} {a b : World} (h : Turn F a b) (o : Obj) : Turn F a (b.alloc o) :=
  ⟨h.os, h.tape, h.output, by simp; exact Nat.le_succ_of_le h.size, fun i hi hn => by
    rw [Below.heap_alloc _ _ _ (Nat.lt_of_lt_of_le hi h.size)]; exact h.block i hi hn⟩
set_option maxRecDepth 100000 in
theorem Turn.drew {F : Nat → Prop} {a b : World} (h : Turn F a b) : Turn F a b.drew := ⟨h.os, h.tape, h.output, h.size, h.block⟩
set_option maxRecDepth 100000 in
theorem Turn.drewN {F : Nat → Prop} {a b : World} (h : Turn F a b) (n : Nat) : Turn F a (b.drewN n) := ⟨h.os, h.tape, h.output, h.size, h.block⟩

set_option maxRecDepth 100000 in
theorem cell_row {w : World} {g j : Nat} {cs : Array Value} {t : TypeId} {v : Value} (h : w.heap[g]? = some (.cells cs t (0, 0))) (hv : cs[j]? = some v) : w.cell? ⟨g, j, none⟩ = some v := by
  rw [cell_of_row w g j cs t (0, 0) h]; exact hv

set_option maxRecDepth 100000 in
/-- A row of one's own stays where nothing of it is turned. -/
theorem row_keep {w w' : World} {B : Nat} {e : TypeId} {m : Nat} {v : Value} {n : Nat} {xs : List Value} (h : w.ownsRow B e m v n xs) (hk : ∀ k, v.ownBlock = some k → w'.heap[k]? = w.heap[k]?) : w'.ownsRow B e m v n xs := by
  refine ⟨h.1, ?_⟩
  rcases h.2 with h0 | ⟨g, cap, cur, hv, hb, hg, r⟩
  · exact .inl h0
  · refine .inr ⟨g, cap, cur, hv, hb, ?_, r⟩
    rw [hk g (by rw [hv]; rfl)]; exact hg
set_option maxRecDepth 100000 in
theorem row_slice {w : World} {B : Nat} {e : TypeId} {m : Nat} {v : Value} {n : Nat} {xs : List Value} (h : w.ownsRow B e m v n xs) : ∃ a c, v = .slice a n c := by
  rcases h.2 with ⟨e1, e2⟩ | ⟨g, cap', cur, e, _⟩
  · exact ⟨none, 0, by rw [e1, e2]⟩
  · exact ⟨_, _, e⟩
set_option maxRecDepth 100000 in
theorem row_some {w : World} {B : Nat} {e : TypeId} {m : Nat} {v : Value} {n : Nat} {xs : List Value} (h : w.ownsRow B e m v n xs) (hn : 0 < n) : ∃ g c, v = .slice (some ⟨g, 0, none⟩) n c := by
  rcases h.2 with ⟨e1, e2⟩ | ⟨g, cap', cur, e, _⟩
  · omega
  · exact ⟨_, _, e⟩
set_option maxRecDepth 100000 in
theorem row_lt {w : World} {B : Nat} {e : TypeId} {m : Nat} {v : Value} {n : Nat} {xs : List Value} (h : w.ownsRow B e m v n xs) {k : Nat} (hk : v.ownBlock = some k) : k < w.heap.size := (h.lt k hk).2
set_option maxRecDepth 100000 in
/-- The cells of element k. -/
theorem row_range {α : Type} {w : World} {B : Nat} {e : TypeId} {m : Nat} {g n c : Nat} {f : α → List Value} {l : List α} (h : w.ownsRow B e m (.slice (some ⟨g, 0, none⟩) n c) n (l.flatMap f)) (hf : ∀ x ∈ l, (f x).length = m) (hn : n = l.length) (k : Nat) (x : α) (hx : l[k]? = some x) : w.rangeAt g (k * m) (f x) := by
  intro j v hv
  have hk : k < l.length := (List.getElem?_eq_some_iff.1 hx).1
  have hj : j < m := by
    have := (List.getElem?_eq_some_iff.1 hv).1
    rw [hf x (List.mem_of_getElem? hx)] at this
    exact this
  rw [h.cellAt (k * m + j) (by
    have : (k + 1) * m ≤ n * m := Nat.mul_le_mul_right _ (by omega)
    rw [Nat.succ_mul] at this
    omega), fm_get f m l hf k x hx j hj]
  exact hv
set_option maxRecDepth 100000 in
/-- Element k stored whole. -/
theorem row_store {α : Type} {P : Program} {w : World} {B : Nat} {e : TypeId} {m : Nat} {g n c : Nat} {f : α → List Value} {l : List α} (ty : TypeId) (h : w.ownsRow B e m (.slice (some ⟨g, 0, none⟩) n c) n (l.flatMap f)) (hf : ∀ x ∈ l, (f x).length = m) (hn : n = l.length) (k : Nat) (y : α) (hk : k < l.length) (hy : (f y).length = m) (h1 : ∀ u ∈ f y, u.oneCell' = true)
    (hi : (P.info? ty).map (·.size) = some m) :
    ∃ w', (Instr.storeAt ty (.pointer (some ⟨g, k * m, none⟩)) (.agg (f y).toArray)).run P w = .ok () w' ∧ w'.ownsRow B e m (.slice (some ⟨g, 0, none⟩) n c) n ((l.set k y).flatMap f) ∧ w.grownBy w' (some g) ∧ w'.heap.size = w.heap.size := by
  rcases h.2 with ⟨h', _⟩ | ⟨g', cap', cur, h', hb, hg, hnc, hcm, hcs, htake⟩
  · simp at h'
  · simp only [Value.slice.injEq, Option.some.injEq, Addr.mk.injEq, and_true, true_and] at h'
    obtain ⟨rfl, rfl⟩ := h'
    have hkm : k * m + m ≤ n * m := by
      have : (k + 1) * m ≤ n * m := Nat.mul_le_mul_right _ (by omega)
      rw [Nat.succ_mul] at this
      exact this
    have hcm' : n * m ≤ c * m := Nat.mul_le_mul_right _ hnc
    have hst := run_storeCells_at P g (k * m) e (f y) 0 cur w hg (by rw [hy, hcs]; omega) h1
    simp only [Nat.add_zero, hy] at hst
    refine ⟨w.setRow g (cur.toList.take (k * m) ++ f y ++ cur.toList.drop (k * m + m)).toArray, ?_, ⟨?_, .inr ⟨g, c, _, rfl, hb, setRow_heap w g cur _ e (0, 0) hg, hnc, hcm, ?_, ?_⟩⟩, ⟨rfl, rfl, rfl, by simp, fun i _ hi => setRow_other w g i _ (fun e => hi (by rw [e]))⟩, by simp⟩
    · cases hq : P.info? ty with
      | none => simp [hq] at hi
      | some i =>
        have hs : i.size = m := by simpa [hq] using hi
        simp [Instr.storeAt, Instr.sureAddr, storeVar, sizeOf, typeInfo, hq, Value.cells, hs, hy, hst]
    · rw [fm_len f m _ (fun x hx => by rcases List.mem_or_eq_of_mem_set hx with h2 | h2; exact hf x h2; rw [h2]; exact hy), List.length_set, hn]
    · simp only [List.size_toArray, List.length_append, List.length_take, List.length_drop, Array.length_toList, hy, hcs]
      omega
    · have hL : cur.toList.length = c * m := by rw [Array.length_toList, hcs]
      show ((cur.toList.take (k * m) ++ f y ++ cur.toList.drop (k * m + m))).take (n * m) = _
      rw [fm_set f m l hf k y hk hy, ← htake, List.take_take, Nat.min_eq_left (by omega)]
      have e1 : (cur.toList.take (k * m) ++ f y).length = k * m + m := by rw [List.length_append, List.length_take, hy, hL]; omega
      rw [List.take_append, e1, List.take_of_length_le (by rw [e1]; exact hkm), List.drop_take]

/-! ### A drum of the program -/
def secs : List ByteArray → List Value := secCells
structure PIs (w : World) (F : Nat → Prop) (b : Nat) (d : D) (g c : Nat) (v : Value) : Prop where
  row : w.heap[b]? = some (.cells #[.slice (some ⟨g, 0, none⟩) d.S.length c, v, .int .i64 d.fuse, .bool d.gone] 120 (0, 0))
  o1 : w.ownsRow 0 144 64 (.slice (some ⟨g, 0, none⟩) d.S.length c) d.S.length (secCells d.S)
  o2 : w.ownsRow 0 146 65 v d.W.length (penCells d.W)
  n1 : g ≠ b
  n2 : v.ownBlock ≠ some b
  n12 : v.ownBlock ≠ some g
  fb : F b
  f1 : F g
  f2 : ∀ k, v.ownBlock = some k → F k
structure PAt (w : World) (F : Nat → Prop) (b : Nat) (d : D) : Prop where
  is : ∃ g c v, PIs w F b d g c v
  ok : Ok d
  lt : ∀ k, F k → k < w.heap.size

set_option maxRecDepth 100000 in
theorem own_some {g n c k : Nat} (h : (Value.slice (some ⟨g, 0, none⟩) n c).ownBlock = some k) : g = k := by simpa [Value.ownBlock] using h
set_option maxRecDepth 100000 in
theorem PIs.keep {w w' : World} {F : Nat → Prop} {b : Nat} {d : D} {g c : Nat} {v : Value} (h : PIs w F b d g c v) (hk : ∀ k, F k → w'.heap[k]? = w.heap[k]?) : PIs w' F b d g c v :=
  ⟨by rw [hk b h.fb]; exact h.row, row_keep h.o1 (fun k hk' => hk k (own_some hk' ▸ h.f1)), row_keep h.o2 (fun k hk' => hk k (h.f2 k hk')), h.n1, h.n2, h.n12, h.fb, h.f1, h.f2⟩
set_option maxRecDepth 100000 in
theorem PIs.more {w : World} {F G : Nat → Prop} {b : Nat} {d : D} {g c : Nat} {v : Value} (h : PIs w F b d g c v) (hk : ∀ k, F k → G k) : PIs w G b d g c v :=
  ⟨h.row, h.o1, h.o2, h.n1, h.n2, h.n12, hk _ h.fb, hk _ h.f1, fun k hk' => hk k (h.f2 k hk')⟩
set_option maxRecDepth 100000 in
theorem PAt.keep {w w' : World} {F G : Nat → Prop} {b : Nat} {d : D} (h : PAt w F b d) (ht : Turn G w w') (hd : ∀ k, F k → ¬ G k) : PAt w' F b d := by
  obtain ⟨g, c, v, hi⟩ := h.is
  exact ⟨⟨g, c, v, hi.keep (fun k hk => ht.block k (h.lt k hk) (hd k hk))⟩, h.ok, fun k hk => Nat.lt_of_lt_of_le (h.lt k hk) ht.size⟩
set_option maxRecDepth 100000 in
theorem PAt.below {w w' : World} {F : Nat → Prop} {b : Nat} {d : D} (h : PAt w F b d) (ht : Below w.heap.size w w') : PAt w' F b d :=
  h.keep (G := fun _ => False) (Turn.of_below ht) (fun _ _ h => h)
set_option maxRecDepth 100000 in
theorem PAt.up {w' : World} {F : Nat → Prop} {b : Nat} {d : D} (h : PAt w' F b d) (w0 : World) : PAt w' (Up F w0 w') b d := by
  obtain ⟨g, c, v, hi⟩ := h.is
  exact ⟨⟨g, c, v, hi.more (fun k hk => .inl hk)⟩, h.ok, fun k hk => by rcases hk with h1 | h1; exact h.lt k h1; exact h1.2⟩
set_option maxRecDepth 100000 in
theorem PIs.lt {w : World} {F : Nat → Prop} {b : Nat} {d : D} {g c : Nat} {v : Value} (h : PIs w F b d g c v) : b < w.heap.size := (Array.getElem?_eq_some_iff.1 h.row).1
set_option maxRecDepth 100000 in
theorem PIs.c0 {w : World} {F : Nat → Prop} {b : Nat} {d : D} {g c : Nat} {v : Value} (h : PIs w F b d g c v) : w.cell? ⟨b, 0, none⟩ = some (.slice (some ⟨g, 0, none⟩) d.S.length c) := cell_row h.row rfl
set_option maxRecDepth 100000 in
theorem PIs.c1 {w : World} {F : Nat → Prop} {b : Nat} {d : D} {g c : Nat} {v : Value} (h : PIs w F b d g c v) : w.cell? ⟨b, 1, none⟩ = some v := cell_row h.row rfl
set_option maxRecDepth 100000 in
theorem PIs.c2 {w : World} {F : Nat → Prop} {b : Nat} {d : D} {g c : Nat} {v : Value} (h : PIs w F b d g c v) : w.cell? ⟨b, 2, none⟩ = some (.int .i64 d.fuse) := cell_row h.row rfl
set_option maxRecDepth 100000 in
theorem PIs.c3 {w : World} {F : Nat → Prop} {b : Nat} {d : D} {g c : Nat} {v : Value} (h : PIs w F b d g c v) : w.cell? ⟨b, 3, none⟩ = some (.bool d.gone) := cell_row h.row rfl
set_option maxRecDepth 100000 in
theorem PIs.fr {w : World} {F : Nat → Prop} {b : Nat} {d : D} {g c : Nat} {v : Value} (h : PIs w F b d g c v) (j : Nat) : w.frozen? ⟨b, j, none⟩ = false := frozen_of_row w b j _ _ h.row
end Go.Proofs.YtjanddnlhaionaaGreatDoor.L6
