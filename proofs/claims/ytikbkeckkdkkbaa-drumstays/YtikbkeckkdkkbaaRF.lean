/-
  Contract of the document's Copy. No condition.
-/
import Derived.Test.YtikbkeckkdkkbaaRE
namespace Go.Proofs.Ytikbkeckkdkkbaa
open Go.RowKit

/-- append to an empty slice without room: a new row, at a place that is known. -/
theorem step_append_fresh {P : Program} {ops : Array Oper} {o : Oper} {a : Act} {w : World} {K : Act → World → Prop} {Q : Exit → Act → World → Prop} {E : Prop} (hgd : o.guard = none) (s x : Operand) (t : TypeId)
    (ho : o.op = .call { callee := .builtin .append, args := #[s, x], argTypes := #[t, t] })
    (e : TypeId) (i : TypeInfo) (z : Value) (size bytes : Nat) (ht : P.underlying t = some (.slice e)) (hi : P.info? e = some i) (hz : i.zero = some z)
    (hsize : i.size = size) (hby : i.bytes = bytes) (hzs : z.cells.size = size) (b : Addr) (hs : a.eval s = .slice (some b) 0 0)
    (ad : Addr) (m c : Nat) (news : List Value) (hx : a.eval x = .slice (some ad) m c) (hl : news.length = m * size) (hnews : ∀ j u, news[j]? = some u → w.cell? (ad.add j) = some u)
    (hm : 0 < m) (h63 : m ≤ maxLen) (hbytes : m * bytes ≤ 140737488355328)
    (h : ∀ (CS : Array Value) (cap : Nat), CS.size = cap * size → CS.toList.take (m * size) = news → m ≤ cap → cap ≤ maxLen → K (a.put o.dst (.slice (some ⟨w.heap.size, 0, none⟩) m cap)) (w.drew.alloc (.cells CS e))) :
    if Region.wanted o (yielded ops a.tmps) = true then Oper.wp P o a w K Q else E := by
  have hw : Region.wanted o (yielded ops a.tmps) = true := by simp [Region.wanted, hgd]
  rw [if_pos hw]
  subst hsize
  subst hby
  have hsmall : m ≤ 9223372036854775807 := by simp only [maxLen] at h63; omega
  have hr := run_append_grow (P := P) w t o.type e i z ht hi hz b 0 0 [] (by simp) (by simp) ad m c news hl hnews (by omega) (by omega) (growslice_fits (by omega) (by rw [Nat.zero_add]; exact hbytes))
  simp only [Nat.zero_add, List.toArray, Array.empty_append] at hr
  unfold Oper.wp execOp
  simp only [ho, resolve, invoke, builtin, Sem.run_bind, Sem.run_pure, Result.andThen_ok, List.map_toArray, List.map_cons, List.map_nil, hs, hx, hr]
  have hge := grownCap_ge w m 0 e
  refine h _ _ ?_ ?_ hge (grownCap_le_maxLen w m 0 e h63)
  · simp only [Array.size_append, List.size_toArray, size_zeroCells, hzs, hl, ← Nat.add_mul]
    congr 1
    omega
  · simp [← hl]

theorem blw_alloc {w W : World} (h : Below w.heap.size w W) (o : Obj) : Below w.heap.size w (W.alloc o) := h.alloc h.size o
theorem blw_fresh {w W : World} (h : Below w.heap.size w W) (o : Obj) : Below w.heap.size w (W.drew.alloc o) := h.drew.alloc h.size o
theorem row_fresh {w W : World} {e : TypeId} {m n cap : Nat} {xs : List Value} (CS : Array Value) (h1 : CS.size = cap * m) (h2 : CS.toList.take (n * m) = xs) (h3 : n ≤ cap) (h4 : cap ≤ maxLen) (g : Nat) (hg : W.heap[g]? = some (.cells CS e (0, 0))) (hb : w.heap.size ≤ g) : W.ownsRow w.heap.size e m (.slice (some ⟨g, 0, none⟩) n cap) n xs := by
  refine ⟨?_, .inr ⟨g, cap, CS, rfl, hb, hg, h3, h4, h1, h2⟩⟩
  rw [← h2, List.length_take, Array.length_toList, h1, Nat.min_eq_left (Nat.mul_le_mul_right _ h3)]

theorem look_new {w : World} {o : Obj} {k : Nat} (h : k = w.heap.size) : (w.alloc o).heap[k]? = some o := by rw [h]; exact heap_alloc_new _ _
theorem look_old {w : World} {o x : Obj} {k : Nat} (h : k < w.heap.size) (hx : w.heap[k]? = some x) : (w.alloc o).heap[k]? = some x := by rw [Below.heap_alloc _ _ _ h]; exact hx
theorem look_drew {w : World} {x : Obj} {k : Nat} (hx : w.heap[k]? = some x) : w.drew.heap[k]? = some x := hx
theorem copy_end {w wF : World} {d : D} {n m g1 g2 b cap1 cap2 : Nat} {x2 : Int} {x3 : Bool} {CS1 CS2 : Array Value} (hok : Ok d) (hn : d.S.length = n) (hm : d.W.length = m) (h2 : d.fuse = x2) (h3 : d.gone = x3)
    (p1 : CS1.size = cap1 * 1) (p2 : CS1.toList.take (n * 1) = strs d.S) (p3 : n ≤ cap1) (p4 : cap1 ≤ maxLen)
    (q1 : CS2.size = cap2 * 2) (q2 : CS2.toList.take (m * 2) = putCells d.W) (q3 : m ≤ cap2) (q4 : cap2 ≤ maxLen)
    (k1 : w.heap.size ≤ g1) (k2 : w.heap.size ≤ g2) (k3 : g1 ≠ g2) (k4 : g1 < b) (k5 : g2 < b)
    (r1 : wF.heap[g1]? = some (.cells CS1 9 (0, 0))) (r2 : wF.heap[g2]? = some (.cells CS2 80 (0, 0))) (r3 : wF.heap[b]? = some (.cells #[.slice (some ⟨g1, 0, none⟩) n cap1, .slice (some ⟨g2, 0, none⟩) m cap2, .int .i64 x2, .bool x3] 62 (0, 0))) : RAt wF (New w wF) b d := by
  subst hn hm h2 h3
  refine RAt.made hok (by omega) r3 (row_fresh CS1 p1 p2 p3 p4 g1 r1 k1) (row_fresh CS2 q1 q2 q3 q4 g2 r2 k2) (fun e => ?_) (fun e => ?_) (fun k e e' => ?_)
  · have := own_some e; omega
  · have := own_some e; omega
  · have := own_some e; have := own_some e'; omega

set_option maxRecDepth 100000 in
set_option maxHeartbeats 2000000 in
theorem refCopy12_some {F : Nat → Prop} {b : Nat} {d : D} {w : World} {g c m gp cp : Nat} (h : RW w F b d (.slice (some ⟨g, 0, none⟩) d.S.length c) (.slice (some ⟨gp, 0, none⟩) m cp)) (hm : d.W.length = m) (h0 : 0 < m) (hw : m ≤ 1000000) :
    Calls Try.prog 12 #[.pointer (some ⟨b, 0, none⟩)] w fun e w' => ∃ b', e = .returned (.pointer (some ⟨b', 0, none⟩)) ∧ RAt w' (New w w') b' d ∧ Below w.heap.size w w' := by
  have hi := h.is
  have hblt := hi.lt
  have HOK := Lib.hid h.ok
  have c0 := hi.c0
  have c1 := hi.c1
  have c2 := hi.c2
  have c3 := hi.c3
  obtain ⟨i9, hi9, hz90, hz91, hz92⟩ := info9
  obtain ⟨i8, hi8, hz80, hz81, hz82⟩ := info80
  have hn1 := h.ok.n1
  have hn2 := h.ok.n2
  generalize hx2 : d.fuse = x2 at c2
  generalize hx3 : d.gone = x3 at c3
  have HX2 := Lib.hid hx2
  have HX3 := Lib.hid hx3
  have HO1 := Lib.hid hi.o1
  have HO2 := Lib.hid hi.o2
  rw [hm] at HO2
  obtain ⟨n, hn⟩ : ∃ n, d.S.length = n := ⟨_, rfl⟩
  rw [hn] at c0 hn1 hn2 HO1
  have HN := Lib.hid hn
  have HM := Lib.hid hm
  have HNS : Hid (∀ W, Below w.heap.size w W → ∀ j u, (strs d.S)[j]? = some u → W.cell? ((⟨g, 0, none⟩ : Addr).add j) = some u) := fun W hb => row_news (row_keep HO1.out (fun k hk => hb.block k (row_lt HO1.out hk)))
  have HNP : Hid (∀ W, Below w.heap.size w W → ∀ j u, (putCells d.W)[j]? = some u → W.cell? ((⟨gp, 0, none⟩ : Addr).add j) = some u) := fun W hb => row_news (row_keep HO2.out (fun k hk => hb.block k (row_lt HO2.out hk)))
  have HSB : Hid (∀ W : World, Below w.heap.size w W → W.cell? ⟨b, 0, none⟩ = some (.slice (some ⟨g, 0, none⟩) n c) ∧ W.cell? ⟨b, 1, none⟩ = some (.slice (some ⟨gp, 0, none⟩) m cp) ∧ W.cell? ⟨b, 2, none⟩ = some (.int .i64 x2) ∧ W.cell? ⟨b, 3, none⟩ = some (.bool x3) ∧ Below w.heap.size w W) := by
    intro W hb
    exact ⟨(hb.cell (p := ⟨b, 0, none⟩) hblt).trans c0, (hb.cell (p := ⟨b, 1, none⟩) hblt).trans c1, (hb.cell (p := ⟨b, 2, none⟩) hblt).trans c2, (hb.cell (p := ⟨b, 3, none⟩) hblt).trans c3, hb⟩
  have HBD : Hid (Below w.heap.size w w.drew) := (Below.refl _ _).drew
  have HL1 : Hid ((strs d.S).length = n * 1) := HO1.out.1
  have HL2 : Hid ((putCells d.W).length = m * 2) := HO2.out.1
  clear hi h hn hm hx2 hx3
  go_enter Try.func12, Try.ntmps12
  go_wp2_with fail
  go_region_held3 (fun W => W.cell? ⟨b, 0, none⟩ = some (.slice (some ⟨g, 0, none⟩) n c) ∧ W.cell? ⟨b, 1, none⟩ = some (.slice (some ⟨gp, 0, none⟩) m cp) ∧ W.cell? ⟨b, 2, none⟩ = some (.int .i64 x2) ∧ W.cell? ⟨b, 3, none⟩ = some (.bool x3) ∧ Below w.heap.size w W)
    ((apply HSB.out; first | exact HBD.out | (go_split_ands; assumption) | exact blw_alloc (by go_split_ands; assumption) _ | exact blw_fresh (by go_split_ands; assumption) _))
    (first | (refine step_append_fresh rfl (.tmp 3) (.tmp 7) 43 rfl 9 i9 _ 1 16 Try.underlying43 hi9 hz90 hz91 hz92 rfl _ rfl ⟨g, 0, none⟩ n c (strs d.S) (by simp [Act.eval]) HL1.out (HNS.out _ (by go_split_ands; assumption)) (by omega) (by unfold maxLen; omega) (by omega) ?_; intro CS1 cap1 p1 p2 p3 p4) | (refine step_append_fresh rfl (.tmp 9) (.tmp 13) 60 rfl 80 i8 _ 2 24 Try.underlying60 hi8 hz80 hz81 hz82 rfl _ rfl ⟨gp, 0, none⟩ m cp (putCells d.W) (by simp [Act.eval]) HL2.out (HNP.out _ (by go_split_ands; assumption)) (by omega) (by unfold maxLen; omega) (by omega) ?_; intro CS2 cap2 q1 q2 q3 q4))
  all_goals
    have HPP := Lib.hid (And.intro p1 (And.intro p2 (And.intro p3 (And.intro p4 (And.intro q1 (And.intro q2 (And.intro q3 q4)))))))
    clear p1 p2 p3 p4 q1 q2 q3 q4
    go_wp2
    go_ret
    obtain ⟨p1, p2, p3, p4, q1, q2, q3, q4⟩ := HPP.out
    refine ⟨_, rfl, ?_, by go_split_ands; assumption⟩
    first
      | (refine copy_end (g1 := w.heap.size + 1) (g2 := w.heap.size + 1 + 1 + 1) HOK.out HN.out HM.out HX2.out HX3.out p1 p2 p3 p4 q1 q2 q3 q4 (by omega) (by omega) (by omega) (by omega) (by omega) ?_ ?_ ?_ <;> (repeat (first | (refine look_new ?_; (simp; done)) | (apply look_drew) | (refine look_old ?_ ?_; · (first | (simp; done) | (simp; omega))))); done)
      | (refine copy_end (g1 := w.heap.size + 1 + 1) (g2 := w.heap.size + 1 + 1 + 1) HOK.out HN.out HM.out HX2.out HX3.out p1 p2 p3 p4 q1 q2 q3 q4 (by omega) (by omega) (by omega) (by omega) (by omega) ?_ ?_ ?_ <;> (repeat (first | (refine look_new ?_; (simp; done)) | (apply look_drew) | (refine look_old ?_ ?_; · (first | (simp; done) | (simp; omega))))); done)
set_option maxRecDepth 100000 in
set_option maxHeartbeats 2000000 in
theorem refCopy12_none {F : Nat → Prop} {b : Nat} {d : D} {w : World} {g c : Nat} {vA : Option Addr} {cp : Nat} (h : RW w F b d (.slice (some ⟨g, 0, none⟩) d.S.length c) (.slice vA 0 cp)) (hm : d.W.length = 0) (hv : (vA = none ∧ cp = 0) ∨ ∃ gp, vA = some ⟨gp, 0, none⟩) :
    Calls Try.prog 12 #[.pointer (some ⟨b, 0, none⟩)] w fun e w' => ∃ b', e = .returned (.pointer (some ⟨b', 0, none⟩)) ∧ RAt w' (New w w') b' d ∧ Below w.heap.size w w' := by
  have hi := h.is
  have hblt := hi.lt
  have HOK := Lib.hid h.ok
  have c0 := hi.c0
  have c1 := hi.c1
  have c2 := hi.c2
  have c3 := hi.c3
  obtain ⟨i9, hi9, hz90, hz91, hz92⟩ := info9
  have hn1 := h.ok.n1
  have hn2 := h.ok.n2
  generalize hx2 : d.fuse = x2 at c2
  generalize hx3 : d.gone = x3 at c3
  have HX2 := Lib.hid hx2
  have HX3 := Lib.hid hx3
  have HO1 := Lib.hid hi.o1
  obtain ⟨n, hn⟩ : ∃ n, d.S.length = n := ⟨_, rfl⟩
  rw [hn] at c0 hn1 hn2 HO1
  have HN := Lib.hid hn
  have HM := Lib.hid hm
  have HQ2 : Hid ((#[] : Array Value).toList.take (0 * 2) = putCells d.W) := by
    unfold Hid
    rw [List.length_eq_zero_iff.1 hm]; rfl
  have HNS : Hid (∀ W, Below w.heap.size w W → ∀ j u, (strs d.S)[j]? = some u → W.cell? ((⟨g, 0, none⟩ : Addr).add j) = some u) := fun W hb => row_news (row_keep HO1.out (fun k hk => hb.block k (row_lt HO1.out hk)))
  have HSB : Hid (∀ W : World, Below w.heap.size w W → W.cell? ⟨b, 0, none⟩ = some (.slice (some ⟨g, 0, none⟩) n c) ∧ W.cell? ⟨b, 1, none⟩ = some (.slice vA 0 cp) ∧ W.cell? ⟨b, 2, none⟩ = some (.int .i64 x2) ∧ W.cell? ⟨b, 3, none⟩ = some (.bool x3) ∧ Below w.heap.size w W) := by
    intro W hb
    exact ⟨(hb.cell (p := ⟨b, 0, none⟩) hblt).trans c0, (hb.cell (p := ⟨b, 1, none⟩) hblt).trans c1, (hb.cell (p := ⟨b, 2, none⟩) hblt).trans c2, (hb.cell (p := ⟨b, 3, none⟩) hblt).trans c3, hb⟩
  have HBD : Hid (Below w.heap.size w w.drew) := (Below.refl _ _).drew
  have HL1 : Hid ((strs d.S).length = n * 1) := HO1.out.1
  clear hi h hn hm hx2 hx3
  rcases hv with ⟨rfl, rfl⟩ | ⟨gp, rfl⟩
  · go_enter Try.func12, Try.ntmps12
    go_wp2_with fail
    go_region_held3 (fun W => W.cell? ⟨b, 0, none⟩ = some (.slice (some ⟨g, 0, none⟩) n c) ∧ W.cell? ⟨b, 1, none⟩ = some (.slice none 0 0) ∧ W.cell? ⟨b, 2, none⟩ = some (.int .i64 x2) ∧ W.cell? ⟨b, 3, none⟩ = some (.bool x3) ∧ Below w.heap.size w W)
      ((apply HSB.out; first | exact HBD.out | (go_split_ands; assumption) | exact blw_alloc (by go_split_ands; assumption) _ | exact blw_fresh (by go_split_ands; assumption) _))
      (first | (refine step_append_fresh rfl (.tmp 3) (.tmp 7) 43 rfl 9 i9 _ 1 16 Try.underlying43 hi9 hz90 hz91 hz92 rfl _ rfl ⟨g, 0, none⟩ n c (strs d.S) (by simp [Act.eval]) HL1.out (HNS.out _ (by go_split_ands; assumption)) (by omega) (by unfold maxLen; omega) (by omega) ?_; intro CS1 cap1 p1 p2 p3 p4))
    all_goals
      have HPP := Lib.hid (And.intro p1 (And.intro p2 (And.intro p3 p4)))
      clear p1 p2 p3 p4
      go_wp2
      go_ret
      obtain ⟨p1, p2, p3, p4⟩ := HPP.out
      refine ⟨_, rfl, ?_, by go_split_ands; assumption⟩
      first
        | (refine copy_end (g1 := w.heap.size + 1) (g2 := w.heap.size + 1 + 1) (CS2 := #[]) HOK.out HN.out HM.out HX2.out HX3.out p1 p2 p3 p4 rfl HQ2.out (Nat.le_refl _) (by unfold maxLen; omega) (by omega) (by omega) (by omega) (by omega) (by omega) ?_ ?_ ?_ <;> (repeat (first | (refine look_new ?_; (simp; done)) | (apply look_drew) | (refine look_old ?_ ?_; · (first | (simp; done) | (simp; omega))))); done)
        | (refine copy_end (g1 := w.heap.size + 1 + 1) (g2 := w.heap.size + 1) (CS2 := #[]) HOK.out HN.out HM.out HX2.out HX3.out p1 p2 p3 p4 rfl HQ2.out (Nat.le_refl _) (by unfold maxLen; omega) (by omega) (by omega) (by omega) (by omega) (by omega) ?_ ?_ ?_ <;> (repeat (first | (refine look_new ?_; (simp; done)) | (apply look_drew) | (refine look_old ?_ ?_; · (first | (simp; done) | (simp; omega))))); done)
        | (refine copy_end (g1 := w.heap.size + 1 + 1) (g2 := w.heap.size) (CS2 := #[]) HOK.out HN.out HM.out HX2.out HX3.out p1 p2 p3 p4 rfl HQ2.out (Nat.le_refl _) (by unfold maxLen; omega) (by omega) (by omega) (by omega) (by omega) (by omega) ?_ ?_ ?_ <;> (repeat (first | (refine look_new ?_; (simp; done)) | (apply look_drew) | (refine look_old ?_ ?_; · (first | (simp; done) | (simp; omega))))); done)
  · go_enter Try.func12, Try.ntmps12
    go_wp2_with fail
    go_region_held3 (fun W => W.cell? ⟨b, 0, none⟩ = some (.slice (some ⟨g, 0, none⟩) n c) ∧ W.cell? ⟨b, 1, none⟩ = some (.slice (some ⟨gp, 0, none⟩) 0 cp) ∧ W.cell? ⟨b, 2, none⟩ = some (.int .i64 x2) ∧ W.cell? ⟨b, 3, none⟩ = some (.bool x3) ∧ Below w.heap.size w W)
      ((apply HSB.out; first | exact HBD.out | (go_split_ands; assumption) | exact blw_alloc (by go_split_ands; assumption) _ | exact blw_fresh (by go_split_ands; assumption) _))
      (first | (refine step_append_fresh rfl (.tmp 3) (.tmp 7) 43 rfl 9 i9 _ 1 16 Try.underlying43 hi9 hz90 hz91 hz92 rfl _ rfl ⟨g, 0, none⟩ n c (strs d.S) (by simp [Act.eval]) HL1.out (HNS.out _ (by go_split_ands; assumption)) (by omega) (by unfold maxLen; omega) (by omega) ?_; intro CS1 cap1 p1 p2 p3 p4))
    all_goals
      have HPP := Lib.hid (And.intro p1 (And.intro p2 (And.intro p3 p4)))
      clear p1 p2 p3 p4
      go_wp2
      go_ret
      obtain ⟨p1, p2, p3, p4⟩ := HPP.out
      refine ⟨_, rfl, ?_, by go_split_ands; assumption⟩
      first
        | (refine copy_end (g1 := w.heap.size + 1) (g2 := w.heap.size + 1 + 1) (CS2 := #[]) HOK.out HN.out HM.out HX2.out HX3.out p1 p2 p3 p4 rfl HQ2.out (Nat.le_refl _) (by unfold maxLen; omega) (by omega) (by omega) (by omega) (by omega) (by omega) ?_ ?_ ?_ <;> (repeat (first | (refine look_new ?_; (simp; done)) | (apply look_drew) | (refine look_old ?_ ?_; · (first | (simp; done) | (simp; omega))))); done)
        | (refine copy_end (g1 := w.heap.size + 1 + 1) (g2 := w.heap.size + 1) (CS2 := #[]) HOK.out HN.out HM.out HX2.out HX3.out p1 p2 p3 p4 rfl HQ2.out (Nat.le_refl _) (by unfold maxLen; omega) (by omega) (by omega) (by omega) (by omega) (by omega) ?_ ?_ ?_ <;> (repeat (first | (refine look_new ?_; (simp; done)) | (apply look_drew) | (refine look_old ?_ ?_; · (first | (simp; done) | (simp; omega))))); done)
        | (refine copy_end (g1 := w.heap.size + 1 + 1) (g2 := w.heap.size) (CS2 := #[]) HOK.out HN.out HM.out HX2.out HX3.out p1 p2 p3 p4 rfl HQ2.out (Nat.le_refl _) (by unfold maxLen; omega) (by omega) (by omega) (by omega) (by omega) (by omega) ?_ ?_ ?_ <;> (repeat (first | (refine look_new ?_; (simp; done)) | (apply look_drew) | (refine look_old ?_ ?_; · (first | (simp; done) | (simp; omega))))); done)

theorem refCopy12 {F : Nat → Prop} {b : Nat} {d : D} {w : World} (h : RAt w F b d) (hw : d.W.length ≤ 1000000) :
    Calls Try.prog 12 #[.pointer (some ⟨b, 0, none⟩)] w fun e w' => ∃ b', e = .returned (.pointer (some ⟨b', 0, none⟩)) ∧ RAt w' (New w w') b' d ∧ Below w.heap.size w w' := by
  obtain ⟨v1, v2, h⟩ := h
  obtain ⟨g, c, rfl⟩ := row_some h.is.o1 h.ok.n1
  by_cases h0 : 0 < d.W.length
  · obtain ⟨gp, cp, rfl⟩ := row_some h.is.o2 h0
    exact refCopy12_some h rfl h0 hw
  · have hm : d.W.length = 0 := by omega
    rcases h.is.o2.2 with ⟨e1, e2⟩ | ⟨gp, cap, cur, e1, -⟩
    · subst e1
      exact refCopy12_none h hm (.inl ⟨rfl, rfl⟩)
    · rw [hm] at e1
      subst e1
      exact refCopy12_none h hm (.inr ⟨gp, rfl⟩)
end Go.Proofs.Ytikbkeckkdkkbaa
