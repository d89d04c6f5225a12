/-
  The contract of List at cells without cells in them. No condition but bounds on lengths.
-/
import Derived.Test.YtdmalkkpcggifaaO
namespace Go.Proofs.Ytdmalkkpcggifaa
open Go.RowKit

/-- Cells without cells, as they lie. -/
def flatV (D : List C) : List Value := rcells (D.map fun c => (c, .slice none 0 0))
theorem flatV_length (D : List C) : (flatV D).length = D.length * 4 := by
  unfold flatV
  induction D with
  | nil => rfl
  | cons c D ih => rw [List.map_cons, rcells_cons, List.length_append, ih, List.length_cons]; show 4 + _ = _; omega
theorem flatV_three (D : List C) (i : Nat) (h : i < D.length) : (flatV D)[i * 4 + 3]? = some (.slice none 0 0) := by
  unfold flatV
  rw [rcells_get _ i 3 (by simpa using h) (by omega)]
  simp [rowC]
theorem flat_one (D : List C) : ∀ u ∈ flatV D, u.oneCell' = true := by
  intro u hu
  unfold flatV rcells at hu
  obtain ⟨r, hr, hu⟩ := List.mem_flatMap.1 hu
  obtain ⟨c, _, rfl⟩ := List.mem_map.1 hr
  simp only [rowC, List.mem_cons, List.not_mem_nil, or_false] at hu
  rcases hu with rfl | rfl | rfl | rfl <;> rfl

/-- A store of what lies there already. -/
theorem set_same {w : World} {g : Nat} {cs : Array Value} {ty : TypeId} {j : Nat} {v : Value} (h : w.heap[g]? = some (.cells cs ty (0, 0))) (hv : cs[j]? = some v) : (w.setCell ⟨g, j, none⟩ v).heap[g]? = some (.cells cs ty (0, 0)) := by
  rw [set_row h j v]
  congr 2
  obtain ⟨hj, hv⟩ := Array.getElem?_eq_some_iff.1 hv
  subst hv
  apply Array.ext
  · simp
  · intro i h1 h2
    rw [Array.getElem_setIfInBounds]
    split
    · rename_i e; subst e; rfl
    · rfl

set_option maxRecDepth 100000 in
set_option maxHeartbeats 1600000 in
theorem separate39_flat (G b o cap : Nat) (D : List C) (w : World) (hG : w.heap[G]? = some (.cells #[.slice (some ⟨b, o, none⟩) D.length cap] 23 (0, 0))) (hD : 0 < D.length) (hD2 : D.length ≤ 4095)
    (hc : ∀ j u, (flatV D)[j]? = some u → w.cell? ((⟨b, o, none⟩ : Addr).add j) = some u) :
    Calls Try.prog 39 #[.agg #[.pointer (some ⟨G, 0, none⟩), .int .i64 0, .pointer none]] w fun e w' => e = .returned (.tuple #[.slice none 0 0, .bool false]) ∧ w.grownBy w' (some G) ∧
      ∃ g c, w'.heap[G]? = some (.cells #[.slice (some ⟨g, 0, none⟩) D.length c] 23 (0, 0)) ∧ w'.ownsRow (w.heap.size + 1) 25 4 (.slice (some ⟨g, 0, none⟩) D.length c) D.length (flatV D) := by
  obtain ⟨i0, hi, hz0, hz1, hz2⟩ := info25
  have g0 : w.cell? ⟨G, 0, none⟩ = some (.slice (some ⟨b, o, none⟩) D.length cap) := cell_of_row w G 0 _ 23 (0, 0) hG
  have HG := Lib.hid hG
  have hGl := (Array.getElem?_eq_some_iff.1 hG).1
  have HC := Lib.hid hc
  clear hc hG
  go_enter Try.func39, Try.ntmps39
  go_wp2_with (at_builtin; go_must (refine wpList_append_lies _ rfl _ _ 23 rfl (w.heap.size + 1) 25 i0 _ 4 56 Try.underlying23 hi hz0 hz1 hz2 rfl (by omega) _ 0 [] rfl ?own ⟨b, o, none⟩ D.length cap (flatV D) rfl ?len ?news (flat_one D) hD ?c3 ?c4 ?c5 _ rfl ?_))
  case own => exact World.ownsRow_nil _ _ _ _
  case len => exact flatV_length D
  case news =>
    intro j u hu
    have := HC.out j u hu
    exact (World.grownBy_alloc w _ none).cell this (by simp)
  case c3 => unfold maxLen; omega
  case c4 => omega
  case c5 => simp
  rintro g c w2 ho hg hgl hlt
  have hgn : g = w.heap.size + 1 := by
    rcases hgl with h | h
    · simp [Value.ownBlock] at h
    · exact h
  subst hgn
  have hw1 : (w.alloc (.cells #[.pointer (some ⟨G, 0, none⟩), .int .i64 0, .pointer none] 73)).heap.size = w.heap.size + 1 := by simp
  have hgo : ∀ k, k < w.heap.size + 1 → w2.heap[k]? = (w.alloc (.cells #[.pointer (some ⟨G, 0, none⟩), .int .i64 0, .pointer none] 73)).heap[k]? := fun k hk => hg.block k (by omega) (by simp [Value.ownBlock])
  have hbox : w2.heap[w.heap.size]? = some (.cells #[.pointer (some ⟨G, 0, none⟩), .int .i64 0, .pointer none] 73 (0, 0)) := (hgo _ (by omega)).trans (heap_alloc_new w _)
  have hG2 : w2.heap[G]? = some (.cells #[.slice (some ⟨b, o, none⟩) D.length cap] 23 (0, 0)) := by rw [hgo G (by omega), Below.heap_alloc _ _ _ hGl]; exact HG.out
  obtain ⟨cur, hcur, hDc, hcm, hcz, htk⟩ : ∃ cur, w2.heap[w.heap.size + 1]? = some (.cells cur 25 (0, 0)) ∧ D.length ≤ c ∧ c ≤ maxLen ∧ cur.size = c * 4 ∧ cur.toList.take (D.length * 4) = flatV D := by
    rcases ho.2 with ⟨h, _⟩ | ⟨g', c', cur, h, _, h1, h2, h3, h4, h5⟩
    · cases h
    · cases h; exact ⟨cur, h1, h2, h3, h4, h5⟩
  have hGW : w.grownBy (w2.setCell ⟨G, 0, none⟩ (.slice (some ⟨w.heap.size + 1, 0, none⟩) D.length c)) (some G) :=
    grown_trans ⟨hg.os, hg.tape, hg.output, by have := hg.size; omega, fun k hk _ => (hgo k (by omega)).trans (Below.heap_alloc _ _ _ hk)⟩ (grown_set w2 G 0 _)
  have hb1 : (w2.setCell ⟨G, 0, none⟩ (.slice (some ⟨w.heap.size + 1, 0, none⟩) D.length c)).heap[w.heap.size]? = some (.cells #[.pointer (some ⟨G, 0, none⟩), .int .i64 0, .pointer none] 73 (0, 0)) := (Below.heap_setCell _ _ _ _ (by simp only; omega)).trans hbox
  have hb2 : (w2.setCell ⟨G, 0, none⟩ (.slice (some ⟨w.heap.size + 1, 0, none⟩) D.length c)).heap[w.heap.size + 1]? = some (.cells cur 25 (0, 0)) := (Below.heap_setCell _ _ _ _ (by simp only; omega)).trans hcur
  have hb3 := set_row hG2 0 (.slice (some ⟨w.heap.size + 1, 0, none⟩) D.length c)
  have x0 : w2.cell? ⟨w.heap.size, 0, none⟩ = some (.pointer (some ⟨G, 0, none⟩)) := cell_of_row w2 _ 0 _ 73 (0, 0) hbox
  have x1 : w2.cell? ⟨G, 0, none⟩ = some (.slice (some ⟨b, o, none⟩) D.length cap) := cell_of_row w2 _ 0 _ 23 (0, 0) hG2
  have x2 : w2.frozen? ⟨G, 0, none⟩ = false := by simp [World.frozen?, hG2]
  unfold maxLen at hcm
  have HIN : Hid (w.grownBy (w2.setCell ⟨G, 0, none⟩ (.slice (some ⟨w.heap.size + 1, 0, none⟩) D.length c)) (some G) ∧ (w2.setCell ⟨G, 0, none⟩ (.slice (some ⟨w.heap.size + 1, 0, none⟩) D.length c)).heap[w.heap.size]? = some (.cells #[.pointer (some ⟨G, 0, none⟩), .int .i64 0, .pointer none] 73 (0, 0)) ∧ (w2.setCell ⟨G, 0, none⟩ (.slice (some ⟨w.heap.size + 1, 0, none⟩) D.length c)).heap[w.heap.size + 1]? = some (.cells cur 25 (0, 0)) ∧ (w2.setCell ⟨G, 0, none⟩ (.slice (some ⟨w.heap.size + 1, 0, none⟩) D.length c)).heap[G]? = some (.cells #[.slice (some ⟨w.heap.size + 1, 0, none⟩) D.length c] 23 (0, 0))) := ⟨hGW, hb1, hb2, hb3⟩
  have HTK := Lib.hid htk
  have HCZ := Lib.hid hcz
  clear ho hg hgl hgo hbox hG2 hcur hGW hb1 hb2 hb3 htk hcz HG HC hw1
  go_wp2_with fail
  go_loopw [2, 20] (fun s2 s20 wr => ∃ (k : Nat), k ≤ D.length ∧ s2 = .slice none 0 0 ∧ s20 = .int .i64 k ∧ Hid (w.grownBy wr (some G) ∧ wr.heap[w.heap.size]? = some (.cells #[.pointer (some ⟨G, 0, none⟩), .int .i64 0, .pointer none] 73 (0, 0)) ∧ wr.heap[w.heap.size + 1]? = some (.cells cur 25 (0, 0)) ∧ wr.heap[G]? = some (.cells #[.slice (some ⟨w.heap.size + 1, 0, none⟩) D.length c] 23 (0, 0)))) (fun _ s20 _ => D.length - (intOf s20).toNat)
  case atStart => exact ⟨0, Nat.zero_le _, rfl, rfl, HIN.out⟩
  case round =>
    obtain ⟨k, hk, rfl, rfl, HR⟩ := hrel
    clear x0 x1 x2 HIN
    obtain ⟨r1, r2, r3, r4⟩ := HR.out
    have y2 : wr.cell? ⟨w.heap.size, 2, none⟩ = some (.pointer none) := cell_of_row wr _ 2 _ 73 (0, 0) r2
    by_cases hlt : k < D.length
    · have h3 : cur[k * 4 + 3]? = some (.slice none 0 0) := by
        have := flatV_three D k hlt
        rw [← HTK.out, List.getElem?_take, if_pos (by omega), Array.getElem?_toList] at this
        exact this
      have y3 : wr.cell? ⟨w.heap.size + 1, k * 4 + 3, none⟩ = some (.slice none 0 0) := by rw [cell_of_row wr (w.heap.size + 1) _ cur 25 (0, 0) r3]; exact h3
      have z3 : wr.frozen? ⟨w.heap.size + 1, k * 4 + 3, none⟩ = false := by simp [World.frozen?, r3]
      have HN : Hid (∀ nq, w.grownBy ((wr.drewN nq).setCell ⟨w.heap.size + 1, k * 4 + 3, none⟩ (.slice none 0 0)) (some G) ∧ ((wr.drewN nq).setCell ⟨w.heap.size + 1, k * 4 + 3, none⟩ (.slice none 0 0)).heap[w.heap.size]? = some (.cells #[.pointer (some ⟨G, 0, none⟩), .int .i64 0, .pointer none] 73 (0, 0)) ∧ ((wr.drewN nq).setCell ⟨w.heap.size + 1, k * 4 + 3, none⟩ (.slice none 0 0)).heap[w.heap.size + 1]? = some (.cells cur 25 (0, 0)) ∧ ((wr.drewN nq).setCell ⟨w.heap.size + 1, k * 4 + 3, none⟩ (.slice none 0 0)).heap[G]? = some (.cells #[.slice (some ⟨w.heap.size + 1, 0, none⟩) D.length c] 23 (0, 0))) :=
        fun nq => ⟨grown_past (grown_trans r1 (grown_drewN wr nq _)) (grown_set (wr.drewN nq) _ _ _) (fun i e => by injection e with e; omega), (Below.heap_setCell _ _ _ _ (by simp only; omega)).trans r2, set_same (w := wr.drewN nq) r3 h3, (Below.heap_setCell _ _ _ _ (by simp only; omega)).trans r4⟩
      clear r1 r2 r3 r4 h3 HR
      go_wp2_with fail
      go_quiet (fail)
      go_wp2_with fail
      go_roundw
      case rel => exact ⟨k + 1, by omega, rfl, by go_num, HN.out _⟩
      case measure => simp [intOf]; omega
    · clear r1 r2 r3 r4
      go_wp2_with fail
      go_ret2
      obtain ⟨r1, r2, r3, r4⟩ := HR.out
      exact ⟨rfl, r1, w.heap.size + 1, c, r4, flatV_length D, .inr ⟨w.heap.size + 1, c, cur, rfl, Nat.le_refl _, r3, hDc, hcm, HCZ.out, HTK.out⟩⟩
end Go.Proofs.Ytdmalkkpcggifaa
