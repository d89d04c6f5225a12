/-
  The reader in memory; contracts of expects, take, visit. No condition.
-/
import Derived.Test.YtjanddnlhaionaaGreatDoorL6YB
import Derived.Test.YtjanddnlhaionaaGreatDoorL6RA
import Derived.Lib.AppendStr
namespace Go.Proofs.YtjanddnlhaionaaGreatDoor.L6
open Go.RowKit

set_option maxRecDepth 100000 in
theorem row_ty {w : World} {B : Nat} {e : TypeId} {m : Nat} {v : Value} {n : Nat} {xs : List Value} (h : w.ownsRow B e m v n xs) {k : Nat} (hk : v.ownBlock = some k) : ∃ cs, w.heap[k]? = some (.cells cs e (0, 0)) := by
  rcases h.2 with ⟨e1, e2⟩ | ⟨g, cap, cur, hv, hb, hg, r⟩
  · rw [e1] at hk; cases hk
  · rw [hv] at hk
    have : g = k := by simpa [Value.ownBlock] using hk
    subst this
    exact ⟨_, hg⟩
set_option maxRecDepth 100000 in
theorem ty_ne {w : World} {j k : Nat} {a b : Array Value} {t u : TypeId} {f g : Nat × Nat} (h1 : w.heap[j]? = some (.cells a t f)) (h2 : w.heap[k]? = some (.cells b u g)) (h : t ≠ u) : j ≠ k := by
  intro e
  subst e
  rw [h1] at h2
  injection h2 with h2
  injection h2 with _ h2
  exact h h2

def rdRow (rd : Rd) (v1 v2 : Value) : Array Value := #[v1, .int .i64 (rd.occ : Int), .int .i64 (rd.great : Int), .int .i64 (rd.vis : Int), .bool rd.ended, .int .i64 (rd.life : Int), .int .i64 (rd.parts : Int), v2]
structure QIs (w : World) (B r : Nat) (rd : Rd) (v1 v2 : Value) : Prop where
  row : w.heap[r]? = some (.cells (rdRow rd v1 v2) 248 (0, 0))
  o1 : w.ownsRow B 9 1 v1 rd.recs.length (strs rd.recs)
  o2 : w.ownsRow B 5 1 v2 rd.data.length (bytesV rd.data)
  br : B ≤ r
def RF (r : Nat) (v1 v2 : Value) (k : Nat) : Prop := k = r ∨ v1.ownBlock = some k ∨ v2.ownBlock = some k
set_option maxRecDepth 100000 in
theorem QIs.ne1 {w : World} {B r : Nat} {rd : Rd} {v1 v2 : Value} (h : QIs w B r rd v1 v2) {k : Nat} (hk : v1.ownBlock = some k) : k ≠ r := by
  obtain ⟨cs, hc⟩ := row_ty h.o1 hk
  exact ty_ne hc h.row (by decide)
set_option maxRecDepth 100000 in
theorem QIs.ne2 {w : World} {B r : Nat} {rd : Rd} {v1 v2 : Value} (h : QIs w B r rd v1 v2) {k : Nat} (hk : v2.ownBlock = some k) : k ≠ r := by
  obtain ⟨cs, hc⟩ := row_ty h.o2 hk
  exact ty_ne hc h.row (by decide)
set_option maxRecDepth 100000 in
theorem QIs.ne12 {w : World} {B r : Nat} {rd : Rd} {v1 v2 : Value} (h : QIs w B r rd v1 v2) {j k : Nat} (hj : v1.ownBlock = some j) (hk : v2.ownBlock = some k) : j ≠ k := by
  obtain ⟨cs, hc⟩ := row_ty h.o1 hj
  obtain ⟨ds, hd⟩ := row_ty h.o2 hk
  exact ty_ne hc hd (by decide)
set_option maxRecDepth 100000 in
theorem QIs.cells {w : World} {B r : Nat} {rd : Rd} {v1 v2 : Value} (h : QIs w B r rd v1 v2) {k : Nat} (hk : RF r v1 v2 k) : ∃ cs t, w.heap[k]? = some (.cells cs t (0, 0)) ∧ (t = 248 ∨ t = 9 ∨ t = 5) := by
  rcases hk with rfl | hk | hk
  · exact ⟨_, _, h.row, .inl rfl⟩
  · obtain ⟨cs, hc⟩ := row_ty h.o1 hk; exact ⟨_, _, hc, .inr (.inl rfl)⟩
  · obtain ⟨cs, hc⟩ := row_ty h.o2 hk; exact ⟨_, _, hc, .inr (.inr rfl)⟩
set_option maxRecDepth 100000 in
theorem QIs.ge {w : World} {B r : Nat} {rd : Rd} {v1 v2 : Value} (h : QIs w B r rd v1 v2) {k : Nat} (hk : RF r v1 v2 k) : B ≤ k := by
  rcases hk with rfl | hk | hk
  · exact h.br
  · exact row_ge h.o1 hk
  · exact row_ge h.o2 hk
set_option maxRecDepth 100000 in
theorem QIs.lt {w : World} {B r : Nat} {rd : Rd} {v1 v2 : Value} (h : QIs w B r rd v1 v2) {k : Nat} (hk : RF r v1 v2 k) : k < w.heap.size := by
  obtain ⟨cs, t, hc, -⟩ := h.cells hk
  exact (Array.getElem?_eq_some_iff.1 hc).1
set_option maxRecDepth 100000 in
/-- The row of the reader turned. -/
theorem QIs.turn {w w' : World} {B r : Nat} {rd rd' : Rd} {v1 v2 : Value} (h : QIs w B r rd v1 v2) (hr : rd'.recs = rd.recs) (hd : rd'.data = rd.data)
    (row : w'.heap[r]? = some (.cells (rdRow rd' v1 v2) 248 (0, 0))) (hk : ∀ k, k ≠ r → w'.heap[k]? = w.heap[k]?) : QIs w' B r rd' v1 v2 :=
  ⟨row, by rw [hr]; exact row_keep h.o1 (fun k e => hk k (h.ne1 e)), by rw [hd]; exact row_keep h.o2 (fun k e => hk k (h.ne2 e)), h.br⟩
set_option maxRecDepth 100000 in
theorem QIs.keep {w w' : World} {B r : Nat} {rd : Rd} {v1 v2 : Value} (h : QIs w B r rd v1 v2) (hk : ∀ k, RF r v1 v2 k → w'.heap[k]? = w.heap[k]?) : QIs w' B r rd v1 v2 :=
  ⟨by rw [hk r (.inl rfl)]; exact h.row, row_keep h.o1 (fun k e => hk k (.inr (.inl e))), row_keep h.o2 (fun k e => hk k (.inr (.inr e))), h.br⟩
set_option maxRecDepth 100000 in
theorem QIs.below {w w' : World} {B r : Nat} {rd : Rd} {v1 v2 : Value} (h : QIs w B r rd v1 v2) (hb : Below w.heap.size w w') : QIs w' B r rd v1 v2 := h.keep fun k hk => hb.block k (h.lt hk)

set_option maxRecDepth 100000 in
/-- One of the reader's own cells set. -/
theorem QIs.set {w : World} {B r : Nat} {rd rd' : Rd} {v1 v2 : Value} (h : QIs w B r rd v1 v2) (j : Nat) (u : Value) (hr : rd'.recs = rd.recs) (hd : rd'.data = rd.data) (hu : (rdRow rd v1 v2).setIfInBounds j u = rdRow rd' v1 v2) : QIs (w.setCell ⟨r, j, none⟩ u) B r rd' v1 v2 :=
  h.turn hr hd (by rw [setCell_eq_setRow w r j _ _ _ u h.row, hu]; exact setRow_heap w r _ _ _ _ h.row) (fun k hk => Below.heap_setCell _ _ _ _ hk)
set_option maxRecDepth 100000 in
/-- The data's row, and the cell that holds it. -/
theorem QIs.data' {w w4 : World} {B r : Nat} {rd rd' : Rd} {v1 v2 u2 : Value} (h : QIs w B r rd v1 v2) (hg : w.grownBy w4 v2.ownBlock) (ho : w4.ownsRow B 5 1 u2 rd'.data.length (bytesV rd'.data)) (hr : rd'.recs = rd.recs) (hu : (rdRow rd v1 v2).setIfInBounds 7 u2 = rdRow rd' v1 u2) : QIs (w4.setCell ⟨r, 7, none⟩ u2) B r rd' v1 u2 := by
  have hlt : r < w.heap.size := h.lt (.inl rfl)
  have hrow : w4.heap[r]? = some (.cells (rdRow rd v1 v2) 248 (0, 0)) := by rw [hg.block r hlt (fun e => h.ne2 e.symm rfl)]; exact h.row
  refine ⟨by rw [setCell_eq_setRow w4 r 7 _ _ _ u2 hrow, hu]; exact setRow_heap w4 r _ _ _ _ hrow, ?_, ?_, h.br⟩
  · rw [hr]
    refine row_keep h.o1 fun k e => ?_
    rw [Below.heap_setCell _ _ _ _ (h.ne1 e), hg.block k (row_lt h.o1 e) (fun e2 => h.ne12 e e2.symm rfl)]
  · refine row_keep ho fun k e => Below.heap_setCell _ _ _ _ ?_
    obtain ⟨cs, hc⟩ := row_ty ho e
    exact ty_ne hc hrow (by decide)
set_option maxRecDepth 100000 in
theorem QIs.recs' {w w4 : World} {B r : Nat} {rd rd' : Rd} {v1 v2 u1 : Value} (h : QIs w B r rd v1 v2) (hg : w.grownBy w4 v1.ownBlock) (ho : w4.ownsRow B 9 1 u1 rd'.recs.length (strs rd'.recs)) (hd : rd'.data = rd.data) (hu : (rdRow rd v1 v2).setIfInBounds 0 u1 = rdRow rd' u1 v2) : QIs (w4.setCell ⟨r, 0, none⟩ u1) B r rd' u1 v2 := by
  have hlt : r < w.heap.size := h.lt (.inl rfl)
  have hrow : w4.heap[r]? = some (.cells (rdRow rd v1 v2) 248 (0, 0)) := by rw [hg.block r hlt (fun e => h.ne1 e.symm rfl)]; exact h.row
  refine ⟨by rw [setCell_eq_setRow w4 r 0 _ _ _ u1 hrow, hu]; exact setRow_heap w4 r _ _ _ _ hrow, ?_, ?_, h.br⟩
  · refine row_keep ho fun k e => Below.heap_setCell _ _ _ _ ?_
    obtain ⟨cs, hc⟩ := row_ty ho e
    exact ty_ne hc hrow (by decide)
  · rw [hd]
    refine row_keep h.o2 fun k e => ?_
    rw [Below.heap_setCell _ _ _ _ (h.ne2 e), hg.block k (row_lt h.o2 e) (fun e2 => h.ne12 e2.symm e rfl)]

set_option maxRecDepth 100000 in
theorem Tryz.under9 : Tryz.prog.underlying 9 = some .string := by kernel_rfl

set_option maxRecDepth 100000 in
theorem rd_cells {W : World} {r : Nat} {rd : Rd} {v1 v2 : Value} (h : W.heap[r]? = some (.cells (rdRow rd v1 v2) 248 (0, 0))) :
    W.cell? ⟨r, 0, none⟩ = some v1 ∧ W.cell? ⟨r, 1, none⟩ = some (.int .i64 (rd.occ : Int)) ∧ W.cell? ⟨r, 2, none⟩ = some (.int .i64 (rd.great : Int)) ∧ W.cell? ⟨r, 3, none⟩ = some (.int .i64 (rd.vis : Int)) ∧
    W.cell? ⟨r, 4, none⟩ = some (.bool rd.ended) ∧ W.cell? ⟨r, 5, none⟩ = some (.int .i64 (rd.life : Int)) ∧ W.cell? ⟨r, 6, none⟩ = some (.int .i64 (rd.parts : Int)) ∧ W.cell? ⟨r, 7, none⟩ = some v2 ∧ ∀ j, W.frozen? ⟨r, j, none⟩ = false :=
  ⟨cell_row h rfl, cell_row h rfl, cell_row h rfl, cell_row h rfl, cell_row h rfl, cell_row h rfl, cell_row h rfl, cell_row h rfl, fun j => frozen_of_row W r j _ _ h⟩
set_option maxRecDepth 100000 in
theorem sec_cells {W : World} {k : Nat} {s : Sec} (h : W.heap[k]? = some (.cells (secV s) 289 (0, 0))) :
    W.cell? ⟨k, 0, none⟩ = some (.int .i64 (s.life : Int)) ∧ W.cell? ⟨k, 1, none⟩ = some (.int .i64 (s.record : Int)) ∧ W.cell? ⟨k, 2, none⟩ = some (.int .i64 (s.part : Int)) ∧ W.cell? ⟨k, 3, none⟩ = some (.bool s.last) ∧ W.cell? ⟨k, 4, none⟩ = some (.string (mkB s.data)) :=
  ⟨cell_row h rfl, cell_row h rfl, cell_row h rfl, cell_row h rfl, cell_row h rfl⟩

structure OkRd (rd : Rd) : Prop where
  r : rd.recs.length ≤ 1000000
  d : rd.data.length ≤ 1000000000
  p : rd.parts ≤ 1000000
  v : rd.vis ≤ 1000000

set_option maxRecDepth 100000 in
set_option maxHeartbeats 1000000 in
theorem expects60 {w : World} {B r : Nat} {rd : Rd} {v1 v2 : Value} (h : QIs w B r rd v1 v2) (hok : OkRd rd) (s : Sec) :
    Calls Tryz.prog 195 #[.pointer (some ⟨r, 0, none⟩), .agg (secV s)] w fun e w' => e = .returned (.bool (expects rd s)) ∧ Below w.heap.size w w' := by
  obtain ⟨ans, hans⟩ : ∃ ans, expects rd s = ans := ⟨_, rfl⟩
  rw [hans]
  unfold expects at hans
  obtain ⟨sl, sr, sp, sla, sd⟩ := s
  have hrr := hok.r
  have hrlt : r < w.heap.size := h.lt (.inl rfl)
  obtain ⟨a, c, rfl⟩ := row_slice h.o1
  obtain ⟨n, hn⟩ : ∃ n, rd.recs.length = n := ⟨_, rfl⟩
  have hb : Below w.heap.size w (w.alloc (.cells (secV ⟨sl, sr, sp, sla, sd⟩) 289)) := (Below.refl _ _).alloc (Nat.le_refl _) _
  have hr1 : (w.alloc (.cells (secV ⟨sl, sr, sp, sla, sd⟩) 289)).heap[r]? = _ := (hb.block r hrlt).trans h.row
  have hs1 := heap_alloc_new w (.cells (secV ⟨sl, sr, sp, sla, sd⟩) 289)
  have HB := Lib.hid hb
  obtain ⟨a0, -, -, -, -, a5, a6, -, -⟩ := rd_cells hr1
  obtain ⟨b0, b1, b2, -, -⟩ := sec_cells hs1
  obtain ⟨pl, hpl⟩ : ∃ pl, rd.life = pl := ⟨_, rfl⟩
  obtain ⟨pp, hpp⟩ : ∃ pp, rd.parts = pp := ⟨_, rfl⟩
  rw [hn] at a0 hans hrr
  rw [hpl] at a5 hans
  rw [hpp] at a6 hans
  simp only at b0 b1 b2 hans
  have hw1 : IntKind.i64.wrap ((n : Int) + 1) = (n : Int) + 1 := by rw [IntKind.wrap_i64]; omega
  generalize hX : secV ⟨sl, sr, sp, sla, sd⟩ = X at a0 a5 a6 b0 b1 b2 HB ⊢
  clear h hok hb hr1 hs1 hX hn hpl hpp
  have HA := Lib.hid hans
  clear hans
  by_cases h1 : sr = n + 1
  · have e1 : ((sr : Int) != (n : Int) + 1) = false := by rw [h1]; simp
    by_cases h2 : sp = pp
    · have e2 : ((sp : Int) != (pp : Int)) = false := by rw [h2]; simp
      by_cases h3 : sl = pl
      · have e3 : ((sl : Int) == (pl : Int)) = true := by rw [h3]; simp
        have e : ans = true := by rw [← HA.out]; simp [h1, h2, h3]
        subst e
        clear HA h1 h2 h3
        go_enter Tryz.func195, Tryz.ntmps195
        go_wp2_with fail
        go_quiet (fail)
        go_wp2
        go_quiet (fail)
        go_wp2
        go_ret
        exact ⟨rfl, below_drewN (below_drewN HB.out _) _⟩
      · have e3 : ((sl : Int) == (pl : Int)) = false := by rw [beq_eq_false_iff_ne]; omega
        by_cases h4 : pl < sl
        · have e4 : decide ((pl : Int) < (sl : Int)) = true := decide_eq_true (by omega)
          have e4' : decide (pl < sl) = true := decide_eq_true h4
          by_cases h0 : sp = 0
          · have e5 : ((sp : Int) == 0) = true := by rw [h0]; rfl
            have e : ans = true := by rw [← HA.out, ← h1, ← h2]; simp [h4, h0]
            subst e
            clear HA h1 h2 h3 h4 h0
            go_enter Tryz.func195, Tryz.ntmps195
            go_wp2_with fail
            go_quiet (fail)
            go_wp2
            go_quiet (fail)
            go_wp2
            go_ret
            exact ⟨rfl, below_drewN (below_drewN HB.out _) _⟩
          · have e5 : ((sp : Int) == 0) = false := by rw [beq_eq_false_iff_ne]; omega
            have e : ans = false := by rw [← HA.out]; simp [h3, h0]
            subst e
            clear HA h1 h2 h3 h4 h0
            go_enter Tryz.func195, Tryz.ntmps195
            go_wp2_with fail
            go_quiet (fail)
            go_wp2
            go_quiet (fail)
            go_wp2
            go_ret
            exact ⟨rfl, below_drewN (below_drewN HB.out _) _⟩
        · have e4 : decide ((pl : Int) < (sl : Int)) = false := decide_eq_false (by omega)
          have e4' : decide (pl < sl) = false := decide_eq_false h4
          have e : ans = false := by rw [← HA.out]; simp [h3, h4]
          subst e
          clear HA h1 h2 h3 h4
          go_enter Tryz.func195, Tryz.ntmps195
          go_wp2_with fail
          go_quiet (fail)
          go_wp2
          go_quiet (fail)
          go_wp2
          go_ret
          exact ⟨rfl, below_drewN (below_drewN HB.out _) _⟩
    · have e2 : ((sp : Int) != (pp : Int)) = true := by rw [bne, Bool.not_eq_true', beq_eq_false_iff_ne]; omega
      have e : ans = false := by rw [← HA.out]; simp [h2]
      subst e
      clear HA h1 h2
      go_enter Tryz.func195, Tryz.ntmps195
      go_wp2_with fail
      go_quiet (fail)
      go_wp2
      go_ret
      exact ⟨rfl, below_drewN HB.out _⟩
  · have e1 : ((sr : Int) != (n : Int) + 1) = true := by rw [bne, Bool.not_eq_true', beq_eq_false_iff_ne]; omega
    have e : ans = false := by rw [← HA.out]; simp [h1]
    subst e
    clear HA h1
    go_enter Tryz.func195, Tryz.ntmps195
    go_wp2_with fail
    go_quiet (fail)
    go_wp2
    go_ret
    exact ⟨rfl, below_drewN HB.out _⟩
end Go.Proofs.YtjanddnlhaionaaGreatDoor.L6
