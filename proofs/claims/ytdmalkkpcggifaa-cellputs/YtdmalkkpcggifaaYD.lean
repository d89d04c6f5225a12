/-
  The contracts of copyOf and List. No condition but bounds on lengths.
-/
import Derived.Test.YtdmalkkpcggifaaYC
import Derived.Deep.LoopGhost
namespace Go.Proofs.Ytdmalkkpcggifaa
open Go.RowKit

/-- A list that is still to be copied. -/
structure PI where
  qb : Nat
  qo : Nat
  dep : Nat
  ab : Option Addr
  l : List C
def piC (x : PI) : List Value := [.pointer (some ⟨x.qb, x.qo, none⟩), .int .i64 x.dep, .pointer x.ab]
structure PIok (B : Nat) (w0 wr : World) (tot : Nat) (x : PI) : Prop where
  ge : w0.heap.size ≤ x.qb
  place : ∃ row T v d, wr.heap[x.qb]? = some (.cells row T (0, 0)) ∧ (T = 23 ∨ T = 25) ∧ row[x.qo]? = some v ∧ LNF w0 B d v x.l
  above : ∀ a, x.ab = some a → a.block < w0.heap.size ∧ ∃ cs t fr, w0.heap[a.block]? = some (.cells cs t fr)
  deep : x.dep + 1 + cntL x.l ≤ tot
structure CopyK (B : Nat) (w0 : World) (l0 : List C) (gk : Nat) (s4 : Value) (wr : World) : Prop where
  below : Below w0.heap.size w0 wr
  items : ∃ its : List PI, (∀ x ∈ its, PIok B w0 wr (1 + cntL l0) x) ∧ its.Pairwise (fun x y => ¬ (x.qb = y.qb ∧ x.qo = y.qo)) ∧ wr.ownsRow (w0.heap.size + 1) 73 3 s4 its.length (its.flatMap piC) ∧ (its.map (fun x => 1 + cntL x.l)).sum = gk
  small : gk ≤ 1 + cntL l0
  out : ∃ v D, wr.heap[w0.heap.size]? = some (.cells #[v] 23 (0, 0)) ∧ LIn wr (SS B w0 wr) D v l0

theorem sum_length (its : List PI) : its.length ≤ (its.map (fun x => 1 + cntL x.l)).sum := by
  induction its with
  | nil => simp
  | cons x its ih => simp only [List.length_cons, List.map_cons, List.sum_cons]; omega

theorem PIok.keep {B : Nat} {w0 wr w' : World} {tot : Nat} {x : PI} (h : PIok B w0 wr tot x) (hk : w'.heap[x.qb]? = wr.heap[x.qb]?) : PIok B w0 w' tot x := by
  obtain ⟨row, T, v, d, h1, h2, h3, h4⟩ := h.place
  exact ⟨h.ge, ⟨row, T, v, d, hk.trans h1, h2, h3, h4⟩, h.above, h.deep⟩
theorem PIok.lt {B : Nat} {w0 wr : World} {tot : Nat} {x : PI} (h : PIok B w0 wr tot x) : x.qb < wr.heap.size := by
  obtain ⟨row, T, v, d, h1, h2, h3, h4⟩ := h.place
  exact (Array.getElem?_eq_some_iff.1 h1).1

/-- The block of the work is none that is copied. -/
theorem own73 {w : World} {base : Nat} {v : Value} {n : Nat} {xs : List Value} (h : w.ownsRow base 73 3 v n xs) {g : Nat} (hg : v.ownBlock = some g) : ∃ cs, w.heap[g]? = some (.cells cs 73 (0, 0)) := by
  rcases h.2 with ⟨rfl, _⟩ | ⟨g', cap, cur, rfl, _, h1, _⟩
  · simp [Value.ownBlock] at hg
  · simp [Value.ownBlock] at hg
    subst hg
    exact ⟨cur, h1⟩

theorem ownsRow_cut {w : World} {base g cap n : Nat} {e : TypeId} {size : Nat} {xs ys : List Value} (h : w.ownsRow base e size (.slice (some ⟨g, 0, none⟩) (n + 1) cap) (n + 1) (xs ++ ys)) (hx : xs.length = n * size) : w.ownsRow base e size (.slice (some ⟨g, 0, none⟩) n cap) n xs := by
  refine ⟨hx, .inr ?_⟩
  rcases h.2 with ⟨h1, _⟩ | ⟨g', cap', cur, h1, hb, h2, h3, h4, h5, h6⟩
  · cases h1
  · cases h1
    refine ⟨g, cap, cur, rfl, hb, h2, by omega, h4, h5, ?_⟩
    have h7 : List.take (n * size) (xs ++ ys) = xs := by rw [← hx, List.take_left]
    have := congrArg (List.take (n * size)) h6
    rw [List.take_take, Nat.min_eq_left (Nat.mul_le_mul_right _ (Nat.le_succ _)), h7] at this
    exact this
theorem pic_length (its : List PI) : (its.flatMap piC).length = its.length * 3 := by
  induction its with
  | nil => rfl
  | cons x its ih => rw [List.flatMap_cons, List.length_append, ih, List.length_cons]; show 3 + _ = _; omega

/-- What came out of separate, as lists that are still to be copied. -/
def newPI (g dep : Nat) (D : List (C × Value)) (x : Nat × Option Addr) : PI := ⟨g, x.1 * 4 + 3, dep + 1, x.2, ((D.map (fun p : C × Value => p.1)).getD x.1 (C.mk 0 0 ⟨#[]⟩ [])).l⟩
theorem newPI_cells (g dep : Nat) (D : List (C × Value)) (its : List (Nat × Option Addr)) : (its.map (newPI g dep D)).flatMap piC = icells g dep its := by
  induction its with
  | nil => rfl
  | cons x its ih => rw [List.map_cons, List.flatMap_cons, ih]; rfl
theorem newPI_sum (g dep : Nat) (D : List (C × Value)) (its : List (Nat × Option Addr)) : ((its.map (newPI g dep D)).map (fun x => 1 + cntL x.l)).sum = (its.map (fun x => cntC ((D.map (·.1)).getD x.1 (.mk 0 0 ⟨#[]⟩ [])))).sum := by
  induction its with
  | nil => rfl
  | cons x its ih =>
    simp only [List.map_cons, List.sum_cons]
    rw [ih, cntC_l]
    rfl

/-- The work behind separate. -/
theorem CopyK.next {B : Nat} {w0 wc w' : World} {l0 : List C} {init : List PI} {x : PI} {T : TypeId} {row : Array Value} {D : List (C × Value)} {b o c d : Nat} {ins : Value}
    (hb : Below w0.heap.size w0 wc) (hit : ∀ y ∈ init ++ [x], PIok B w0 wc (1 + cntL l0) y) (hpw : (init ++ [x]).Pairwise (fun x y => ¬ (x.qb = y.qb ∧ x.qo = y.qo)))
    (hS : SepK wc x.qb x.qo T row x.dep x.ab D b o c D.length ins w') (hQ : wc.heap[x.qb]? = some (.cells row T (0, 0))) (hT : T = 23 ∨ T = 25) (hDl : D.map (·.1) = x.l) (hbl : b < w0.heap.size)
    (hD : ∀ i (h : i < D.length), RowAt w0 b (o + i * 4) D[i].1 D[i].2 ∧ LNF w0 B (d + 1) D[i].2 D[i].1.l) :
    ∃ its, Its D b o x.ab D.length its ∧ w'.ownsRow (wc.heap.size + 2) 73 3 ins its.length (icells (wc.heap.size + 1) x.dep its) ∧ (its = [] → ins = .slice none 0 0) ∧
      (∀ y ∈ init ++ its.map (newPI (wc.heap.size + 1) x.dep D), PIok B w0 w' (1 + cntL l0) y) ∧ (init ++ its.map (newPI (wc.heap.size + 1) x.dep D)).Pairwise (fun x y => ¬ (x.qb = y.qb ∧ x.qo = y.qo)) ∧
      ((init ++ its.map (newPI (wc.heap.size + 1) x.dep D)).map (fun x => 1 + cntL x.l)).sum < ((init ++ [x]).map (fun x => 1 + cntL x.l)).sum := by
  obtain ⟨its, hi, ho, hn⟩ := hS.its
  obtain ⟨cur, hcur, hok⟩ := hS.own
  have hx := hit x (by simp)
  have hz := hb.size
  rw [List.pairwise_append] at hpw
  refine ⟨its, hi, ho, hn, ?_, ?_, ?_⟩
  · intro y hy
    rcases List.mem_append.1 hy with hy | hy
    · have hy' := hit y (List.mem_append_left _ hy)
      by_cases e : y.qb = x.qb
      · obtain ⟨row', T', v, d', h1, h2, h3, h4⟩ := hy'.place
        rw [e, hQ] at h1
        injection h1 with h1
        injection h1 with e1 e2
        subst e1 e2
        have hne : x.qo ≠ y.qo := fun e2 => hpw.2.2 y hy x (by simp) ⟨e, e2.symm⟩
        exact ⟨hy'.ge, ⟨_, T, v, d', by rw [e]; exact hS.q, hT, by rw [Array.getElem?_setIfInBounds_ne hne]; exact h3, h4⟩, hy'.above, hy'.deep⟩
      · exact hy'.keep (hS.grown.block _ hy'.lt (fun h => e (by injection h)))
    · obtain ⟨⟨i, a⟩, hia, rfl⟩ := List.mem_map.1 hy
      obtain ⟨h1, h2, h3, h4⟩ := hi.lt _ hia
      simp only at h1 h2 h3 h4
      have hg : (D.map (·.1)).getD i (.mk 0 0 ⟨#[]⟩ []) = D[i].1 := by
        rw [List.getD_eq_getElem?_getD, List.getElem?_eq_getElem (by simpa using h1)]
        simp
      have hc3 := (hok.cells i h1).2.2.2
      rw [if_pos h2] at hc3
      unfold fixU at hc3
      rw [if_neg h3] at hc3
      refine ⟨by show w0.heap.size ≤ wc.heap.size + 1; omega, ⟨cur, 25, D[i].2, d + 1, hcur, .inr rfl, hc3, by show LNF _ _ _ _ ((D.map (fun p : C × Value => p.1)).getD i (C.mk 0 0 ⟨#[]⟩ [])).l; rw [hg]; exact (hD i h1).2⟩, ?_, ?_⟩
      · intro aa ha
        rcases h4 with h4 | h4
        · exact hx.above aa (by rw [← h4]; exact ha)
        · have : aa = ⟨b, o + i * 4, none⟩ := by
            have h5 : some aa = some ⟨b, o + i * 4, none⟩ := by rw [← h4]; exact ha.symm
            injection h5
          subst this
          exact ⟨hbl, cells_of_cell (hD i h1).1.c0⟩
      · show x.dep + 1 + 1 + cntL ((D.map (fun p : C × Value => p.1)).getD i (C.mk 0 0 ⟨#[]⟩ [])).l ≤ _
        rw [hg]
        have h5 := hx.deep
        have h6 : cntC D[i].1 ≤ cntL x.l := by rw [← hDl]; exact cntL_mem (List.mem_map.2 ⟨D[i], List.getElem_mem h1, rfl⟩)
        rw [cntC_l] at h6
        omega
  · rw [List.pairwise_append]
    refine ⟨hpw.1, ?_, ?_⟩
    · rw [List.pairwise_map]
      refine hi.inc.imp ?_
      rintro ⟨i, a⟩ ⟨j, a'⟩ hij ⟨_, e⟩
      simp only [newPI] at e hij
      omega
    · intro y hy z hz2 e
      obtain ⟨⟨i, a⟩, hia, rfl⟩ := List.mem_map.1 hz2
      have := (hit y (List.mem_append_left _ hy)).lt
      have e1 : y.qb = wc.heap.size + 1 := e.1
      omega
  · rw [List.map_append, List.map_append, List.sum_append, List.sum_append, newPI_sum]
    have h1 := hi.cnt
    rw [hDl] at h1
    have h2 : cntL (x.l.take D.length) ≤ cntL x.l := cntL_take_le _ _
    rw [hDl]
    simp only [List.map_cons, List.map_nil, List.sum_cons, List.sum_nil]
    omega

set_option maxRecDepth 100000 in
set_option maxHeartbeats 800000 in
theorem separate39_nil (Qb Qo dep : Nat) (ab : Option Addr) (T : TypeId) (row : Array Value) (A : Option Addr) (cap : Nat) (w : World) (hQ : w.heap[Qb]? = some (.cells row T (0, 0))) (hQo : row[Qo]? = some (.slice A 0 cap)) :
    Calls Try.prog 39 #[.agg #[.pointer (some ⟨Qb, Qo, none⟩), .int .i64 dep, .pointer ab]] w fun e w' => e = .returned (.tuple #[.slice none 0 0, .bool false]) ∧ w' = (w.setCell ⟨Qb, Qo, none⟩ (.slice none 0 0)).alloc (.cells #[.pointer (some ⟨Qb, Qo, none⟩), .int .i64 dep, .pointer ab] 73) := by
  have hQl := (Array.getElem?_eq_some_iff.1 hQ).1
  have g0 : w.cell? ⟨Qb, Qo, none⟩ = some (.slice A 0 cap) := by rw [cell_of_row w Qb Qo row T (0, 0) hQ]; exact hQo
  have z0 : w.frozen? ⟨Qb, Qo, none⟩ = false := by simp [World.frozen?, hQ]
  clear hQ hQo
  cases A with
  | none =>
    go_enter Try.func39, Try.ntmps39
    go_wp2_with fail
    go_loopw [2, 20] (fun s2 s20 wr => s2 = .slice none 0 0 ∧ s20 = .int .i64 0 ∧ wr = (w.setCell ⟨Qb, Qo, none⟩ (.slice none 0 0)).alloc (.cells #[.pointer (some ⟨Qb, Qo, none⟩), .int .i64 dep, .pointer ab] 73)) (fun _ _ _ => 0)
    case atStart => exact ⟨rfl, rfl, rfl⟩
    case round =>
      obtain ⟨rfl, rfl, rfl⟩ := hrel
      go_wp2_with fail
      go_ret2
      exact ⟨rfl, rfl⟩
  | some a =>
    go_enter Try.func39, Try.ntmps39
    go_wp2_with fail
    go_loopw [2, 20] (fun s2 s20 wr => s2 = .slice none 0 0 ∧ s20 = .int .i64 0 ∧ wr = (w.setCell ⟨Qb, Qo, none⟩ (.slice none 0 0)).alloc (.cells #[.pointer (some ⟨Qb, Qo, none⟩), .int .i64 dep, .pointer ab] 73)) (fun _ _ _ => 0)
    case atStart => exact ⟨rfl, rfl, rfl⟩
    case round =>
      obtain ⟨rfl, rfl, rfl⟩ := hrel
      go_wp2_with fail
      go_ret2
      exact ⟨rfl, rfl⟩

theorem nil_heap {wc : World} {Qb Qo : Nat} {X : Obj} (i : Nat) (hi : i < wc.heap.size) (hn : i ≠ Qb) : ((wc.setCell ⟨Qb, Qo, none⟩ (.slice none 0 0)).alloc X).heap[i]? = wc.heap[i]? := by
  rw [Below.heap_alloc _ _ _ (by simp [World.setCell]; exact hi), Below.heap_setCell _ _ _ _ hn]
theorem nil_row {wc : World} {Qb Qo : Nat} {T : TypeId} {row : Array Value} {X : Obj} (hQ : wc.heap[Qb]? = some (.cells row T (0, 0))) : ((wc.setCell ⟨Qb, Qo, none⟩ (.slice none 0 0)).alloc X).heap[Qb]? = some (.cells (row.setIfInBounds Qo (.slice none 0 0)) T (0, 0)) := by
  rw [Below.heap_alloc _ _ _ (by simp [World.setCell]; exact (Array.getElem?_eq_some_iff.1 hQ).1)]
  exact set_row hQ Qo _
theorem nil_out {B : Nat} {w0 wc : World} {Qb Qo : Nat} {T : TypeId} {row : Array Value} {X : Obj} {A : Option Addr} {cap d0 D0 : Nat} {v0 : Value} {l0 : List C} (hB : B ≤ w0.heap.size) (hb : Below w0.heap.size w0 wc) (hQ : wc.heap[Qb]? = some (.cells row T (0, 0))) (hv : row[Qo]? = some (.slice A 0 cap)) (hl : LNF w0 B d0 (.slice A 0 cap) [])
    (ho : wc.heap[w0.heap.size]? = some (.cells #[v0] 23 (0, 0))) (hr : LIn wc (SS B w0 wc) D0 v0 l0) : ∃ v1 D1, ((wc.setCell ⟨Qb, Qo, none⟩ (.slice none 0 0)).alloc X).heap[w0.heap.size]? = some (.cells #[v1] 23 (0, 0)) ∧ LIn ((wc.setCell ⟨Qb, Qo, none⟩ (.slice none 0 0)).alloc X) (SS B w0 ((wc.setCell ⟨Qb, Qo, none⟩ (.slice none 0 0)).alloc X)) D1 v1 l0 := by
  have hq : wc.cell? ⟨Qb, Qo, none⟩ = some (.slice A 0 cap) := by rw [cell_of_row wc Qb Qo row T (0, 0) hQ]; exact hv
  have hlw : LAt wc wc.heap.size d0 (.slice A 0 cap) [] := (hl.lat.below (hb.mono hB)).more (by have := hb.size; omega)
  have hlt : Qo < row.size := (Array.getElem?_eq_some_iff.1 hv).1
  have hrow := nil_row (Qo := Qo) (X := X) hQ
  have hheap := fun i hi hn => nil_heap (wc := wc) (Qb := Qb) (Qo := Qo) (X := X) i hi hn
  have hQl := (Array.getElem?_eq_some_iff.1 hQ).1
  generalize (wc.setCell ⟨Qb, Qo, none⟩ (.slice none 0 0)).alloc X = w' at hrow hheap
  have hq' : w'.cell? ⟨Qb, Qo, none⟩ = some (.slice none 0 0) := by
    rw [cell_of_row w' Qb Qo _ T (0, 0) hrow, Array.getElem?_setIfInBounds_self_of_lt hlt]
  have hSB : ∀ x, SS B w0 wc x → x < wc.heap.size := fun x hx => hx.lt hB hb.size
  by_cases e : Qb = w0.heap.size
  · rw [e] at hQ hrow
    rw [ho] at hQ
    injection hQ with hQ
    injection hQ with e1 e2
    subst e1 e2
    have hQo : Qo = 0 := by simp at hlt; exact hlt
    subst hQo
    have hv0 : v0 = .slice A 0 cap := by simpa using hv
    subst hv0
    have h1 : l0 = [] := LAt.one (hr.lat hSB) hlw
    subst h1
    exact ⟨_, 1, hrow, LIn.nil _ _ _⟩
  · refine ⟨v0, D0 + 1, (hheap _ (Array.getElem?_eq_some_iff.1 ho).1 (fun h => e h.symm)).trans ho, LIn.turn (fun x hx => ?_) hSB hq hlw hq' (LIn.nil _ _ _) (fun x y hx hn => ?_) hr⟩
    · rcases hx with hx | ⟨h0, cs, hx⟩
      · exact .inl hx
      · right
        refine ⟨h0, ?_⟩
        by_cases e2 : x = Qb
        · subst e2
          rw [hQ] at hx
          injection hx with hx
          injection hx with e3 e4
          subst e4
          exact ⟨_, hrow⟩
        · exact ⟨cs, (hheap x (Array.getElem?_eq_some_iff.1 hx).1 e2).trans hx⟩
    · by_cases e2 : x = Qb
      · subst e2
        rw [cell_of_row w' x y _ T (0, 0) hrow, cell_of_row wc x y _ T (0, 0) hQ, Array.getElem?_setIfInBounds_ne (fun e => hn ⟨rfl, e.symm⟩)]
      · exact cell_same (hheap x (hSB x hx) e2) y
theorem nil_items {B : Nat} {w0 wc : World} {tot : Nat} {init : List PI} {x : PI} {T : TypeId} {row : Array Value} {X : Obj} (hit : ∀ y ∈ init ++ [x], PIok B w0 wc tot y) (hpw : (init ++ [x]).Pairwise (fun x y => ¬ (x.qb = y.qb ∧ x.qo = y.qo))) (hQ : wc.heap[x.qb]? = some (.cells row T (0, 0))) :
    (∀ y ∈ init, PIok B w0 ((wc.setCell ⟨x.qb, x.qo, none⟩ (.slice none 0 0)).alloc X) tot y) ∧ init.Pairwise (fun x y => ¬ (x.qb = y.qb ∧ x.qo = y.qo)) := by
  rw [List.pairwise_append] at hpw
  refine ⟨fun y hy => ?_, hpw.1⟩
  have hy' := hit y (List.mem_append_left _ hy)
  by_cases e : y.qb = x.qb
  · obtain ⟨row', T', v, d', h1, h2, h3, h4⟩ := hy'.place
    rw [e, hQ] at h1
    injection h1 with h1
    injection h1 with e1 e2
    subst e1 e2
    have hne : x.qo ≠ y.qo := fun e2 => hpw.2.2 y hy x (by simp) ⟨e, e2.symm⟩
    exact ⟨hy'.ge, ⟨_, T, v, d', by rw [e]; exact nil_row hQ, h2, by rw [Array.getElem?_setIfInBounds_ne hne]; exact h3, h4⟩, hy'.above, hy'.deep⟩
  · exact hy'.keep (nil_heap _ hy'.lt e)
end Go.Proofs.Ytdmalkkpcggifaa
