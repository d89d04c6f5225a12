/-
  Contract of Copy. No condition.
-/
import Derived.Test.YtelfomdlbldnpaaDoorK
import Derived.OwnWalk
import Derived.Deep.Cut
import Derived.Deep.DeepMust
namespace Go.Proofs.YtelfomdlbldnpaaDoor
open Go.RowKit

theorem row_base {w : World} {B B' : Nat} {e : TypeId} {m : Nat} {v : Value} {n : Nat} {xs : List Value} (h : w.ownsRow B e m v n xs) (hB : B' ≤ B) : w.ownsRow B' e m v n xs := by
  refine ⟨h.1, ?_⟩
  rcases h.2 with h0 | ⟨g, cap, cur, hv, hb, r⟩
  · exact .inl h0
  · exact .inr ⟨g, cap, cur, hv, Nat.le_trans hB hb, r⟩
theorem row_ge {w : World} {B : Nat} {e : TypeId} {m : Nat} {v : Value} {n : Nat} {xs : List Value} (h : w.ownsRow B e m v n xs) {k : Nat} (hk : v.ownBlock = some k) : B ≤ k := (h.lt k hk).1
theorem row_news {w : World} {B : Nat} {e : TypeId} {m : Nat} {g n c : Nat} {xs : List Value} (h : w.ownsRow B e m (.slice (some ⟨g, 0, none⟩) n c) n xs) : ∀ j u, xs[j]? = some u → w.cell? ((⟨g, 0, none⟩ : Addr).add j) = some u := h.cells rfl
theorem own_ne {v : Value} {b k : Nat} (h : v.ownBlock ≠ some b) (hk : v.ownBlock = some k) : k ≠ b := fun e => h (by rw [hk, e])
theorem secs_one (S : List ByteArray) : ∀ u ∈ secCells S, u.oneCell' = true := by
  intro u hu
  obtain ⟨s, _, hu⟩ := List.mem_flatMap.1 hu
  exact bytes_oneCell _ u hu
theorem pens_one (W : List (Nat × ByteArray)) : ∀ u ∈ penCells W, u.oneCell' = true := by
  intro u hu
  obtain ⟨p, _, hu⟩ := List.mem_flatMap.1 hu
  rcases List.mem_cons.1 hu with rfl | hu
  · rfl
  · exact bytes_oneCell _ u hu

/-- A drum laid anew: two rows of its own, and its block. -/
theorem PAt.made {w w' : World} {b : Nat} {d : D} {v1 v2 : Value} (hok : Ok d) (hb : w.heap.size ≤ b)
    (hr : w'.heap[b]? = some (.cells #[v1, v2, .int .i64 d.fuse, .bool d.gone] 66 (0, 0))) (o1 : w'.ownsRow w.heap.size 97 64 v1 d.S.length (secCells d.S)) (o2 : w'.ownsRow w.heap.size 99 65 v2 d.W.length (penCells d.W))
    (n1 : v1.ownBlock ≠ some b) (n2 : v2.ownBlock ≠ some b) (n12 : ∀ k, v1.ownBlock = some k → v2.ownBlock ≠ some k) : PAt w' (New w w') b d := by
  obtain ⟨g, c, rfl⟩ := row_some o1 hok.n1
  refine ⟨⟨g, c, v2, hr, row_base o1 (Nat.zero_le _), row_base o2 (Nat.zero_le _), fun e => n1 (by rw [← e]; rfl), n2, n12 g rfl, ⟨hb, (Array.getElem?_eq_some_iff.1 hr).1⟩, ⟨row_ge o1 rfl, row_lt o1 rfl⟩, fun k hk => ⟨row_ge o2 hk, row_lt o2 hk⟩⟩, hok, fun k hk => hk.2⟩

def z58 : Array Value := #[.slice none 0 0, .slice none 0 0, .int .i64 0, .bool false]
theorem zero58 : (∀ w, (zeroValue 66).run Tryd.prog w = .ok (.agg z58) w) ∧ (Tryd.prog.info? 66).map (·.size) = some 4 :=
  zero_of_info (by kernel_rfl)
set_option maxRecDepth 100000 in
set_option maxHeartbeats 400000 in
theorem copy11 {F : Nat → Prop} {b : Nat} {d : D} {w : World} (h : PAt w F b d) (hw : d.W.length ≤ 1000000) :
    Calls Tryd.prog 29 #[.pointer (some ⟨b, 0, none⟩)] w fun e w' => e = .returned (.pointer (some ⟨w.heap.size, 0, none⟩)) ∧ PAt w' (New w w') w.heap.size d ∧ Below w.heap.size w w' := by
  have HE := Lib.hid (exists26 h)
  obtain ⟨g, c, v, hi⟩ := h.is
  have hblt := hi.lt
  have HI := Lib.hid hi
  have HOK := Lib.hid h.ok
  have c0 := hi.c0
  have c1 := hi.c1
  have c2 := hi.c2
  have c3 := hi.c3
  obtain ⟨i2, hi2, hz20, hz21, hz22⟩ := info72
  obtain ⟨i4, hi4, hz40, hz41, hz42⟩ := info74
  have hn1 := h.ok.n1
  have hn2 := h.ok.n2
  obtain ⟨vA, vc, rfl⟩ := row_slice hi.o2
  generalize hS : d.S.length = n at c0 hn1 hn2
  generalize hW : d.W.length = m at c1 hw
  have HS := Lib.hid hS
  have HW := Lib.hid hW
  have HR := Lib.hid hi.row
  have HRD := Lib.hid hi.row
  rw [hS, hW] at HR
  have hz58 := zero58.1
  have HI58 := Lib.hid zero58.2
  have HZ : Hid (z58.size = 4) := rfl
  have H1 : Hid ((#[.slice (some ⟨g, 0, none⟩) n c, .slice vA m vc, .int .i64 d.fuse, .bool d.gone] : Array Value).all (·.oneCell') = true) := by unfold Hid; simp [Value.oneCell']
  generalize hx2 : Value.int .i64 d.fuse = x2 at HR H1
  generalize hx3 : Value.bool d.gone = x3 at HR H1
  have HX2 := Lib.hid hx2
  have HX3 := Lib.hid hx3
  generalize z58 = Z at hz58 HZ
  clear hi h hS hW hx2 hx3 c2 c3
  go_enter Tryd.func29, Tryd.ntmps29
  go_upto_region 4 with (first | (go_at_call 45; refine HE.out.mono ?_; rintro e w' ⟨rfl, rfl⟩) | (refine wpList_load_row rfl 66 _ rfl b rfl 66 _ (0, 0) _ HR.out Tryd.underlying66 rfl (by exact HI58.out) ?_) | (refine wpList_store_row rfl 66 _ _ rfl w.heap.size _ rfl rfl 66 _ (heap_alloc_new _ _) (by exact HI58.out) (by rw [HZ.out]; rfl) H1.out ?_))
  obtain ⟨w1, hw1⟩ : ∃ w1, (w.alloc (.cells Z 66)).setRow w.heap.size #[.slice (some ⟨g, 0, none⟩) n c, .slice vA m vc, x2, x3] = w1 := ⟨_, rfl⟩
  rw [hw1]
  have hr1 : w1.heap[w.heap.size]? = some (.cells #[.slice (some ⟨g, 0, none⟩) n c, .slice vA m vc, x2, x3] 66 (0, 0)) := by rw [← hw1]; exact setRow_heap _ _ _ _ _ _ (heap_alloc_new _ _)
  have hb1 : Below w.heap.size w w1 := by rw [← hw1]; exact below_setRow ((Below.refl _ _).alloc (Nat.le_refl _) _) (Nat.le_refl _) _
  have hs1 : w1.heap.size = w.heap.size + 1 := by rw [← hw1]; simp
  have q0 : w1.cell? ⟨b, 0, none⟩ = some (.slice (some ⟨g, 0, none⟩) n c) := (hb1.cell (p := ⟨b, 0, none⟩) hblt).trans c0
  have HO1 : Hid (w1.ownsRow 0 97 64 (.slice (some ⟨g, 0, none⟩) n c) n (secCells d.S)) := by
    have := row_keep (w' := w1) HI.out.o1 (fun k hk => hb1.block k (row_lt HI.out.o1 hk))
    rw [HS.out] at this
    exact this
  have HR1 := Lib.hid hr1
  have HB1 := Lib.hid hb1
  have HS1 := Lib.hid hs1
  clear hw1 hr1 hb1 hs1 c0
  go_wp2_with (at_builtin; go_must (refine wpList_append_own _ rfl _ _ 63 rfl (w.heap.size + 1) 97 i2 _ 64 64 Tryd.underlying63 hi2 hz20 hz21 hz22 rfl (by omega) (.slice none 0 0) 0 [] rfl (World.ownsRow_nil _ _ _ _) ⟨g, 0, none⟩ n c (secCells d.S) rfl HO1.out.1 (row_news HO1.out) (secs_one _) (by unfold maxLen; omega) (by omega) (by rw [HS1.out]; omega) ?_))
  intro v1 w2 ho2 hg2 hxx
  clear hxx
  obtain ⟨g1, cc1, rfl⟩ := row_some ho2 hn1
  have hb2 : Below w1.heap.size w1 w2 := (Below.refl _ _).grown hg2 (Nat.le_refl _) (fun k hk => by cases hk)
  have hlt1 : w.heap.size < w1.heap.size := by rw [HS1.out]; omega
  have hr2 : w2.heap[w.heap.size]? = some (.cells #[.slice (some ⟨g, 0, none⟩) n c, .slice vA m vc, x2, x3] 66 (0, 0)) := (hb2.block _ hlt1).trans HR1.out
  have p0 : w2.cell? ⟨w.heap.size, 0, none⟩ = some (.slice (some ⟨g, 0, none⟩) n c) := cell_row hr2 rfl
  have p0f : w2.frozen? ⟨w.heap.size, 0, none⟩ = false := frozen_of_row _ _ _ _ _ hr2
  have hr3 : (w2.setCell ⟨w.heap.size, 0, none⟩ (.slice (some ⟨g1, 0, none⟩) n cc1)).heap[w.heap.size]? = some (.cells #[.slice (some ⟨g1, 0, none⟩) n cc1, .slice vA m vc, x2, x3] 66 (0, 0)) := by rw [heap_setCell_same _ _ _ _ _ _ hr2]; rfl
  have hb02 : Below w.heap.size w w2 := HB1.out.trans (hb2.mono (by omega))
  have hb3 : Below w.heap.size w (w2.setCell ⟨w.heap.size, 0, none⟩ (.slice (some ⟨g1, 0, none⟩) n cc1)) := hb02.setCell (Nat.le_refl _) _
  have hnb : Value.ownBlock (.slice (some ⟨g1, 0, none⟩) n cc1) ≠ some w.heap.size := fun e => by have := row_ge ho2 e; omega
  have ho3 : (w2.setCell ⟨w.heap.size, 0, none⟩ (.slice (some ⟨g1, 0, none⟩) n cc1)).ownsRow w.heap.size 97 64 (.slice (some ⟨g1, 0, none⟩) n cc1) n (secCells d.S) := row_base (row_keep ho2 (fun k hk => Below.heap_setCell _ _ _ _ (own_ne hnb hk))) (by omega)
  have HR3 := Lib.hid hr3
  have HB3 := Lib.hid hb3
  have HO3 := Lib.hid ho3
  have HNB := Lib.hid hnb
  have hs3 : (w2.setCell ⟨w.heap.size, 0, none⟩ (.slice (some ⟨g1, 0, none⟩) n cc1)).heap.size = w2.heap.size := by simp [World.setCell]
  have hs2 : w.heap.size < w2.heap.size := by have := hb2.size; omega
  clear hr2 hr3 hb02 hb3 ho3 hnb ho2 hg2 hb2 q0 HR1 HS1 HB1 HO1 hlt1
  go_upto_region 5 with (fail)
  generalize w2.setCell ⟨w.heap.size, 0, none⟩ (.slice (some ⟨g1, 0, none⟩) n cc1) = w3 at HR3 HB3 HO3 hs3 ⊢
  have q1 : w3.cell? ⟨b, 1, none⟩ = some (.slice vA m vc) := (HB3.out.cell (p := ⟨b, 1, none⟩) hblt).trans c1
  have r1 : w3.cell? ⟨w.heap.size, 1, none⟩ = some (.slice vA m vc) := cell_row HR3.out rfl
  have r1f : w3.frozen? ⟨w.heap.size, 1, none⟩ = false := frozen_of_row _ _ _ _ _ HR3.out
  have HO4 : Hid (w3.ownsRow 0 99 65 (.slice vA m vc) m (penCells d.W)) := by
    have := row_keep (w' := w3) HI.out.o2 (fun k hk => HB3.out.block k (row_lt HI.out.o2 hk))
    rw [HW.out] at this
    exact this
  have hs3' : w.heap.size < w3.heap.size := by omega
  clear c1 p0 p0f hs2 hs3
  rcases HO4.out.2 with ⟨e1, e2⟩ | ⟨gp, cap', cur, e1, -⟩
  · injection e1 with e1 e3 e4
    subst e1 e2 e4
    have HFIN : Hid (PAt (w3.setCell ⟨w.heap.size, 1, none⟩ (.slice none 0 0)) (New w (w3.setCell ⟨w.heap.size, 1, none⟩ (.slice none 0 0))) w.heap.size d ∧ Below w.heap.size w (w3.setCell ⟨w.heap.size, 1, none⟩ (.slice none 0 0))) := by
      refine ⟨PAt.made HOK.out (Nat.le_refl _) (v1 := .slice (some ⟨g1, 0, none⟩) n cc1) (v2 := .slice none 0 0) ?_ ?_ ?_ HNB.out (by simp [Value.ownBlock]) (fun k _ => by simp [Value.ownBlock]), HB3.out.setCell (Nat.le_refl _) _⟩
      · rw [heap_setCell_same _ _ _ _ _ _ HR3.out, ← HX2.out, ← HX3.out]; rfl
      · rw [HS.out]; exact row_keep HO3.out (fun k hk => Below.heap_setCell _ _ _ _ (own_ne HNB.out hk))
      · have hW0 : d.W = [] := List.length_eq_zero_iff.1 HW.out
        rw [hW0]
        exact World.ownsRow_nil _ _ _ _
    clear e3
    go_wp2
    go_ret
    exact ⟨rfl, HFIN.out.1, HFIN.out.2⟩
  · injection e1 with e1 e3 e4
    subst e1
    clear e3 e4
    go_wp2_with (at_builtin; go_must (refine wpList_append_own _ rfl _ _ 64 rfl w3.heap.size 99 i4 _ 65 72 Tryd.underlying64 hi4 hz40 hz41 hz42 rfl (by omega) (.slice none 0 0) 0 [] rfl (World.ownsRow_nil _ _ _ _) ⟨gp, 0, none⟩ m vc (penCells d.W) rfl HO4.out.1 (row_news HO4.out) (pens_one _) (by unfold maxLen; omega) (by omega) (Nat.le_refl _) ?_))
    intro v2 w4 ho4 hg4 hxx
    clear hxx
    obtain ⟨vB, cc2, rfl⟩ := row_slice ho4
    have hb4 : Below w3.heap.size w3 w4 := (Below.refl _ _).grown hg4 (Nat.le_refl _) (fun k hk => by cases hk)
    have s1 : w4.cell? ⟨w.heap.size, 1, none⟩ = some (.slice (some ⟨gp, 0, none⟩) m vc) := (hb4.cell (p := ⟨w.heap.size, 1, none⟩) hs3').trans r1
    have s1f : w4.frozen? ⟨w.heap.size, 1, none⟩ = false := (hb4.frozen (p := ⟨w.heap.size, 1, none⟩) hs3').trans r1f
    have HFIN : Hid (PAt (w4.setCell ⟨w.heap.size, 1, none⟩ (.slice vB m cc2)) (New w (w4.setCell ⟨w.heap.size, 1, none⟩ (.slice vB m cc2))) w.heap.size d ∧ Below w.heap.size w (w4.setCell ⟨w.heap.size, 1, none⟩ (.slice vB m cc2))) := by
      have hn2 : Value.ownBlock (.slice vB m cc2) ≠ some w.heap.size := fun e => by have := row_ge ho4 e; omega
      have hr4 := (hb4.block _ hs3').trans HR3.out
      refine ⟨PAt.made HOK.out (Nat.le_refl _) (v1 := .slice (some ⟨g1, 0, none⟩) n cc1) (v2 := .slice vB m cc2) ?_ ?_ ?_ HNB.out hn2 (fun k hk e => ?_), (HB3.out.trans (hb4.mono (by omega))).setCell (Nat.le_refl _) _⟩
      · rw [heap_setCell_same _ _ _ _ _ _ hr4, ← HX2.out, ← HX3.out]; rfl
      · rw [HS.out]; exact row_keep HO3.out (fun k hk => by rw [Below.heap_setCell _ _ _ _ (own_ne HNB.out hk)]; exact hb4.block k (row_lt HO3.out hk))
      · rw [HW.out]; exact row_base (row_keep ho4 (fun k hk => Below.heap_setCell _ _ _ _ (own_ne hn2 hk))) (by omega)
      · have h1 := row_lt HO3.out hk
        have h2 := row_ge ho4 e
        omega
    clear ho4 hg4 hb4
    go_wp2
    go_ret
    exact ⟨rfl, HFIN.out.1, HFIN.out.2⟩
end Go.Proofs.YtelfomdlbldnpaaDoor
