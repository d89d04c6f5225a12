/-
  Contract of store. No condition.
-/
import Derived.Test.YtjanddnlhaionaaGreatDoorL6C
namespace Go.Proofs.YtjanddnlhaionaaGreatDoor.L6
open Go.RowKit

set_option maxRecDepth 100000 in
/-- Element k stored whole, as the walk writes it. -/
theorem row_set {α : Type} {P : Program} {w : World} {B : Nat} {e : TypeId} {m : Nat} {g n c : Nat} {f : α → List Value} {l : List α} (ty : TypeId) (h : w.ownsRow B e m (.slice (some ⟨g, 0, none⟩) n c) n (l.flatMap f)) (hf : ∀ x ∈ l, (f x).length = m) (hn : n = l.length) (k : Nat) (y : α) (hk : k < l.length) (hy : (f y).length = m) (h1 : ∀ u ∈ f y, u.oneCell' = true)
    (hi : (P.info? ty).map (·.size) = some m) :
    w.there g (k * m) m ∧ (w.setCells g (k * m) (f y)).ownsRow B e m (.slice (some ⟨g, 0, none⟩) n c) n ((l.set k y).flatMap f) ∧ w.grownBy (w.setCells g (k * m) (f y)) (some g) ∧ (w.setCells g (k * m) (f y)).heap.size = w.heap.size := by
  obtain ⟨w', hrun, hrest⟩ := row_store (P := P) ty h hf hn k y hk hy h1 hi
  have ht : w.there g (k * m) m := by
    intro j hj
    refine ⟨?_, h.frozenAt _⟩
    have hlt : k * m + j < n * m := by
      have : (k + 1) * m ≤ n * m := Nat.mul_le_mul_right _ (by omega)
      rw [Nat.succ_mul] at this
      omega
    rw [h.cellAt _ hlt, List.getElem?_eq_getElem (by rw [h.1]; exact hlt)]
    rfl
  have hr2 := run_storeAt_mid (P := P) w g (k * m) ty (f y).toArray (by simpa [hy] using ht) (by simpa [hy] using hi) (by
    rw [Array.all_eq_true_iff_forall_mem]
    intro v hv
    exact h1 v (by simpa using hv))
  rw [hrun] at hr2
  injection hr2 with _ he
  have he : w' = w.setCells g (k * m) (f y) := by simpa using he
  rw [he] at hrest
  exact ⟨ht, hrest⟩

set_option maxRecDepth 100000 in
theorem secs_len {S : List ByteArray} (h : ∀ s ∈ S, s.size = 64) : ∀ s ∈ S, (secC s).length = 64 := fun s hs => by rw [secC_len]; exact h s hs
set_option maxRecDepth 100000 in
theorem pens_len {W : List (Nat × ByteArray)} {n : Nat} (h : ∀ p ∈ W, p.1 < n ∧ p.2.size = 64) : ∀ p ∈ W, (penC p).length = 65 := fun p hp => by
  simp [penC, secC_len, (h p hp).2]

set_option maxRecDepth 100000 in
/-- A sector set. -/
theorem PIs.setS {w w' : World} {F : Nat → Prop} {b : Nat} {d : D} {g c : Nat} {v : Value} (h : PIs w F b d g c v) (k : Nat) (s : ByteArray)
    (ho : w'.ownsRow 0 144 64 (.slice (some ⟨g, 0, none⟩) d.S.length c) d.S.length (secCells (d.S.set k s))) (hk : ∀ i, i < w.heap.size → i ≠ g → w'.heap[i]? = w.heap[i]?) : PIs w' F b { d with S := d.S.set k s } g c v := by
  have hl : ({ d with S := d.S.set k s } : D).S.length = d.S.length := by simp
  refine ⟨?_, ?_, row_keep h.o2 (fun i hi => hk i (row_lt h.o2 hi) (fun e => h.n12 (e ▸ hi))), h.n1, h.n2, h.n12, h.fb, h.f1, h.f2⟩
  · rw [hl, hk b h.lt (fun e => h.n1 e.symm)]; exact h.row
  · rw [hl]; exact ho

structure PW (w : World) (F : Nat → Prop) (b : Nat) (d : D) (g c : Nat) (v : Value) : Prop where
  is : PIs w F b d g c v
  ok : Ok d
  lt : ∀ k, F k → k < w.heap.size
set_option maxRecDepth 100000 in
theorem PW.at {w : World} {F : Nat → Prop} {b : Nat} {d : D} {g c : Nat} {v : Value} (h : PW w F b d g c v) : PAt w F b d := ⟨⟨g, c, v, h.is⟩, h.ok, h.lt⟩
set_option maxRecDepth 100000 in
theorem PAt.pw {w : World} {F : Nat → Prop} {b : Nat} {d : D} (h : PAt w F b d) : ∃ g c v, PW w F b d g c v := by
  obtain ⟨g, c, v, hi⟩ := h.is
  exact ⟨g, c, v, hi, h.ok, h.lt⟩
set_option maxRecDepth 100000 in
theorem PW.below {w w' : World} {F : Nat → Prop} {b : Nat} {d : D} {g c : Nat} {v : Value} (h : PW w F b d g c v) (ht : Below w.heap.size w w') : PW w' F b d g c v :=
  ⟨h.is.keep (fun k hk => ht.block k (h.lt k hk)), h.ok, fun k hk => Nat.lt_of_lt_of_le (h.lt k hk) ht.size⟩
set_option maxRecDepth 100000 in
theorem PIs.sub {w : World} {F : Nat → Prop} {b : Nat} {d : D} {g c : Nat} {v : Value} (h : PIs w F b d g c v) : g < w.heap.size := row_lt h.o1 rfl

set_option maxRecDepth 100000 in
set_option maxHeartbeats 1000000 in
theorem store34 {F : Nat → Prop} {b : Nat} {d : D} {w : World} {g c : Nat} {v : Value} (h : PW w F b d g c v) (p : Nat × ByteArray) (hp : p.1 < d.S.length) (hs : p.2.size = 64) :
    Calls Tryz.prog 82 #[.pointer (some ⟨b, 0, none⟩), .agg (penC p).toArray] w fun e w' => e = .returned (.tuple #[]) ∧ PW w' F b { d with S := d.S.set p.1 p.2 } g c v ∧ Turn F w w' := by
  obtain ⟨k, s⟩ := p
  have hp : k < d.S.length := hp
  have hs : s.size = 64 := hs
  have hi := h.is
  have hblt := hi.lt
  have hglt := hi.sub
  have hn2 := h.ok.n2
  -- the world with the box, drawn
  obtain ⟨w1, hw1⟩ : ∃ w1, w.alloc (.cells (penC (k, s)).toArray 146) = w1 := ⟨_, rfl⟩
  have hb1 : Below w.heap.size w w1 := by rw [← hw1]; exact (Below.refl _ _).alloc (Nat.le_refl _) _
  have hi1 : PIs w1 F b d g c v := hi.keep (fun i hi => hb1.block i (h.lt i hi))
  have hx1 : w1.heap[w.heap.size]? = some (.cells (penC (k, s)).toArray 146 (0, 0)) := by rw [← hw1]; exact heap_alloc_new _ _
  have q0 := hi1.c0
  have q1 : w1.cell? ⟨w.heap.size, 0, none⟩ = some (.int .i64 (k : Int)) := cell_row hx1 rfl
  have q2 : w1.rangeAt w.heap.size 1 (secC s) := fun j u hu => cell_row hx1 (by
    rw [show 1 + j = j + 1 by omega]
    simpa [penC] using hu)
  have hset := row_set (P := Tryz.prog) (w := w1.drew) 144 hi1.o1 (secs_len h.ok.s64) rfl k s hp (by rw [secC_len]; exact hs) (bytes_oneCell _) size72
  have q3 : w1.there g (k * 64) 64 := hset.1
  have HFIN : Hid (PW (w1.drew.setCells g (k * 64) (secC s)) F b { d with S := d.S.set k s } g c v ∧ Turn F w (w1.drew.setCells g (k * 64) (secC s))) := by
    refine ⟨⟨hi1.setS k s hset.2.1 (fun i hi hne => hset.2.2.1.block i hi (fun e => hne (by simpa using e))), ?_, fun i hi => ?_⟩, ?_⟩
    · refine ⟨by simpa using h.ok.n1, by simpa using h.ok.n2, fun x hx => ?_, fun x hx => by simpa using h.ok.w64 x hx, h.ok.f1, h.ok.f2, h.ok.g⟩
      rcases List.mem_or_eq_of_mem_set hx with h2 | h2
      · exact h.ok.s64 x h2
      · rw [h2]; exact hs
    · rw [hset.2.2.2]
      exact Nat.lt_of_lt_of_le (h.lt i hi) hb1.size
    · exact (Turn.of_below hb1 : Turn F w w1).trans (G := F) ⟨hset.2.2.1.os, hset.2.2.1.tape, hset.2.2.1.output, hset.2.2.1.size, fun i hi' hn => hset.2.2.1.block i hi' (fun e => hn (by cases e; exact hi.f1))⟩ (fun i h => .inl h)
  have r0 := hset.2.2.1.cell (a := ⟨b, 0, none⟩) q0 (by simp; exact fun e => hi.n1 e.symm)
  have r1 := hset.2.2.1.cell (a := ⟨w.heap.size, 0, none⟩) q1 (by simp; omega)
  have r2 : (w1.drew.setCells g (k * 64) (secC s)).rangeAt w.heap.size 1 (secC s) := fun j u hu => hset.2.2.1.cell (a := ⟨w.heap.size, 1 + j, none⟩) (q2 j u hu) (by simp; omega)
  have r3 : (w1.drew.setCells g (k * 64) (secC s)).there g (k * 64) 64 := (row_set (P := Tryz.prog) (w := w1.drew.setCells g (k * 64) (secC s)) 144 hset.2.1 (by
      intro x hx
      rcases List.mem_or_eq_of_mem_set hx with h2 | h2
      · exact secs_len h.ok.s64 x h2
      · rw [h2, secC_len]; exact hs) (by simp) k s (by simpa using hp) (by rw [secC_len]; exact hs) (bytes_oneCell _) size72).1
  have HS2 := Lib.hid (And.intro r0 (And.intro r1 (And.intro r2 r3)))
  have hl : (secC s).length = 64 := by rw [secC_len]; exact hs
  have h1 := bytes_oneCell s.data.toList
  have h1 : ∀ v ∈ secC s, v.oneCell' = true := h1
  have HB1 := Lib.hid hb1
  have HW1 := Lib.hid hw1
  have hw1s : w.heap.size < w1.heap.size := by rw [← hw1]; simp
  have hX : (penC (k, s)).toArray = (penC (k, s)).toArray := rfl
  generalize hY : (penC (k, s)).toArray = Y at HW1
  generalize secC s = X at q2 HFIN hl h1 HS2
  have hk0 : (0 : Int) ≤ (k : Int) := Int.natCast_nonneg _
  generalize hn : d.S.length = n at q0 hp hn2 HS2
  have HN := Lib.hid hn
  have hkn : (k : Int) < (n : Int) := by omega
  have hu := Tryz.underlying144
  have hinf : (Tryz.prog.info? 144).map (·.size) = some X.length := by rw [size72, hl]
  have S1 : Hid (w1.cell? ⟨b, 0, none⟩ = some (.slice (some ⟨g, 0, none⟩) n c) ∧ w1.cell? ⟨w.heap.size, 0, none⟩ = some (.int .i64 (k : Int)) ∧ w1.rangeAt w.heap.size 1 X ∧ w1.there g (k * 64) 64) := ⟨q0, q1, q2, q3⟩
  clear r0 r1 r2 r3 hi hi1 h hset hb1 hx1 hw1 hX hY hn
  go_enter Tryz.func82, Tryz.ntmps82
  go_wp2_with fail
  rw [HW1.out]
  go_region_held3 (fun w' => w'.cell? ⟨b, 0, none⟩ = some (.slice (some ⟨g, 0, none⟩) n c) ∧ w'.cell? ⟨w.heap.size, 0, none⟩ = some (.int .i64 (k : Int)) ∧ w'.rangeAt w.heap.size 1 X ∧ w'.there g (k * 64) 64) (first | exact HS2.out | go_keep_ranges) (fail)
  go_end0
  exact ⟨rfl, HFIN.out.1, HFIN.out.2⟩
end Go.Proofs.YtjanddnlhaionaaGreatDoor.L6
