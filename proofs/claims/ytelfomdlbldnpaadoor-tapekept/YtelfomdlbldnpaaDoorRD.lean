/-
  Contract of the document's Write. No condition.
-/
import Derived.Test.YtelfomdlbldnpaaDoorRC
namespace Go.Proofs.YtelfomdlbldnpaaDoor
open Go.RowKit

theorem Tryd.info102 : (Tryd.prog.info? 102).map (fun i => (i.zero, i.size, i.bytes)) = some (some (.agg #[.int .i64 0, .string ByteArray.empty]), 2, 24) := by kernel_rfl
theorem info80 : ∃ i, Tryd.prog.info? 102 = some i ∧ i.zero = some (.agg #[.int .i64 0, .string ByteArray.empty]) ∧ i.size = 2 ∧ i.bytes = 24 := by
  have h := Tryd.info102
  cases hq : Tryd.prog.info? 102 with
  | none => simp [hq] at h
  | some i =>
    simp [hq] at h
    exact ⟨i, rfl, h.1, h.2.1, h.2.2⟩
theorem putCells_snoc (W : List (Nat × ByteArray)) (p : Nat × ByteArray) : putCells (W ++ [p]) = putCells W ++ putC p := by simp [putCells]
theorem putC_one (p : Nat × ByteArray) : ∀ u ∈ putC p, u.oneCell' = true := by intro u hu; simp [putC] at hu; rcases hu with rfl | rfl <;> rfl

/-- One pending write more. -/
theorem RW.more1 {w w0 w4 : World} {F : Nat → Prop} {b : Nat} {d d' : D} {v1 v2 : Value} {g' cap : Nat} (h : RW w F b d v1 v2) (p : Nat × ByteArray) (hd' : d' = { d with W := d.W ++ [p] }) (hok : Ok d') (h0 : w0.heap.size ≤ w.heap.size) (hT : Turn F w0 w)
    (X : Obj) (ho : w4.ownsRow 0 102 2 (.slice (some ⟨g', 0, none⟩) (d.W.length + 1) cap) (d.W.length + 1) (putCells d.W ++ putC p)) (hg : (w.alloc X).grownBy w4 v2.ownBlock) (hat : v2.ownBlock = some g' ∨ g' = (w.alloc X).heap.size) (hlt : g' < w4.heap.size) :
    RW (w4.setCell ⟨b, 1, none⟩ (.slice (some ⟨g', 0, none⟩) (d.W.length + 1) cap)) (Up F w0 (w4.setCell ⟨b, 1, none⟩ (.slice (some ⟨g', 0, none⟩) (d.W.length + 1) cap))) b d' v1 (.slice (some ⟨g', 0, none⟩) (d.W.length + 1) cap) ∧ Turn F w0 (w4.setCell ⟨b, 1, none⟩ (.slice (some ⟨g', 0, none⟩) (d.W.length + 1) cap)) := by
  subst hd'
  have hb' : Below w.heap.size w (w.alloc X) := (Below.refl _ _).alloc (Nat.le_refl _) _
  have hblt := h.is.lt
  have hgb : g' ≠ b := by
    rcases hat with h1 | h1
    · intro e; exact h.is.n2 (by rw [h1, e])
    · have := hb'.size; omega
  have hsz4 : w0.heap.size ≤ w4.heap.size := by have := hb'.size; have := hg.size; omega
  have hTT : Turn F w0 w4 := (hT.trans (Turn.of_below (F := F) hb') (fun i h => .inl h)).trans (Turn.of_grown (F := F) hg (fun i e => h.is.f2 i e)) (fun i h => .inl h)
  have hrow : w4.heap[b]? = some (.cells #[v1, v2, .int .i64 d.fuse, .bool d.gone] 69 (0, 0)) := by
    rw [hg.block b (Nat.lt_of_lt_of_le hblt hb'.size) (Ne.symm h.is.n2), hb'.block b hblt]
    exact h.is.row
  refine ⟨⟨⟨?_, ?_, ?_, h.is.n1, by simpa [Value.ownBlock] using hgb, fun k hk e => ?_, .inl h.is.fb, fun k hk => .inl (h.is.f1 k hk), fun k hk => ?_⟩, hok, fun i hi => ?_⟩, hTT.setCell _ _ (.inl h.is.fb)⟩
  · rw [heap_setCell_same _ _ _ _ _ _ hrow]; rfl
  · refine row_keep h.is.o1 (fun k hk => ?_)
    have hkl := row_lt h.is.o1 hk
    rw [Below.heap_setCell _ _ _ _ (own_ne h.is.n1 hk), hg.block k (Nat.lt_of_lt_of_le hkl hb'.size) (Ne.symm (h.is.n12 k hk)), hb'.block k hkl]
  · show World.ownsRow _ 0 102 2 _ (d.W ++ [p]).length (putCells (d.W ++ [p]))
    rw [List.length_append, putCells_snoc]
    exact row_keep ho (fun k hk => Below.heap_setCell _ _ _ _ (by rw [← own_some hk]; exact hgb))
  · have e := own_some e
    subst e
    rcases hat with h1 | h1
    · exact h.is.n12 _ hk h1
    · have := row_lt h.is.o1 hk
      have := hb'.size
      omega
  · rw [← own_some hk]
    rcases hat with h1 | h1
    · exact .inl (h.is.f2 g' h1)
    · right
      have := hb'.size
      exact ⟨by omega, by simpa [World.setCell] using hlt⟩
  · rcases hi with hi | hi
    · have h1 := h.lt i hi
      have := hb'.size
      have := hg.size
      simpa [World.setCell] using (show i < w4.heap.size by omega)
    · exact hi.2

set_option maxRecDepth 100000 in
set_option maxHeartbeats 1000000 in
theorem refWrite30 {F : Nat → Prop} {b : Nat} {d : D} {w : World} (h : RAt w F b d) (i : Int) (s : ByteArray) (hw : d.W.length ≤ 1000000) :
    Calls Tryd.prog 37 #[.pointer (some ⟨b, 0, none⟩), .int .i64 i, .string s] w fun e w' => e = .returned (.int .i64 (writeE d i s)) ∧ RAt w' (Up F w w') b (writeD d i s) ∧ Turn F w w' := by
  have HH := Lib.hid h
  obtain ⟨v1, v2, h⟩ := h
  have hi := h.is
  obtain ⟨g, c, rfl⟩ := row_some hi.o1 h.ok.n1
  have c0 := hi.c0
  have hn2 := h.ok.n2
  cases hok : writeOk d i s with
  | false =>
    have e1 : writeE d i s = 2 := by simp [writeE, hok]
    have e2 : writeD d i s = d := by simp [writeD, hok]
    rw [e1, e2]
    have hok2 : ¬ (0 ≤ i ∧ i < d.S.length) ∨ ¬ s.size = 64 := by
      unfold writeOk at hok
      rw [Bool.and_eq_false_iff] at hok
      rcases hok with h1 | h1
      · left; intro hh; rw [← hasB_iff] at hh; rw [hh] at h1; cases h1
      · right; simpa using h1
    generalize d.S.length = n at c0 hn2 hok2
    by_cases h0 : i < 0
    · have t1 : decide (i < 0) = true := by simpa using h0
      clear e1 e2 h hi hok hok2 hw
      go_enter Tryd.func37, Tryd.ntmps37
      go_wp2
      go_ret
      exact ⟨rfl, HH.out.up _, Turn.refl _ _⟩
    · have t1 : decide (i < 0) = false := by simpa using h0
      by_cases h1 : (n : Int) ≤ i
      · have t2 : decide ((n : Int) ≤ i) = true := by simpa using h1
        clear e1 e2 h hi hok hok2 hw
        go_enter Tryd.func37, Tryd.ntmps37
        go_wp2
        go_ret
        exact ⟨rfl, HH.out.up _, Turn.refl _ _⟩
      · have t2 : decide ((n : Int) ≤ i) = false := by simpa using h1
        have t3 : ((s.size : Int) != 64) = true := by
          rw [bne_iff_ne]
          rcases hok2 with h2 | h2 <;> omega
        clear e1 e2 h hi hok hok2 hw
        go_enter Tryd.func37, Tryd.ntmps37
        go_wp2
        go_ret
        exact ⟨rfl, HH.out.up _, Turn.refl _ _⟩
  | true =>
    have hok' := hok
    unfold writeOk at hok'
    rw [Bool.and_eq_true, decide_eq_true_eq] at hok'
    obtain ⟨hb, hs⟩ := hok'
    have hr := hasB_iff.1 hb
    obtain ⟨k, rfl⟩ : ∃ k : Nat, i = (k : Int) := ⟨i.toNat, by omega⟩
    have t1 : decide ((k : Int) < 0) = false := by simp
    have hkn : k < d.S.length := by omega
    have t3 : ((s.size : Int) != 64) = false := by simp [hs]
    have HSP := Lib.hid (burnt40 h)
    have HOKB := Lib.hid (h.ok.write (k : Int) s)
    obtain ⟨er, her⟩ : ∃ er, writeE d (k : Int) s = er := ⟨_, rfl⟩
    obtain ⟨r, hr'⟩ : ∃ r, writeD d (k : Int) s = r := ⟨_, rfl⟩
    rw [her, hr']
    rw [hr'] at HOKB
    cases hg : (burn d).gone with
    | true =>
      rw [hg] at HSP
      have e1 : er = 9 := by rw [← her]; simp [writeE, hok, hg]
      have e2 : r = burn d := by rw [← hr']; simp [writeD, hok, hg]
      subst e1
      subst e2
      generalize d.S.length = n at c0 hn2 hkn
      have t2 : decide ((n : Int) ≤ (k : Int)) = false := by simp; omega
      have t2' : decide (n ≤ k) = false := by simp; omega
      clear her hr' h hi hok hb hr hs hg HOKB hw
      go_enter Tryd.func37, Tryd.ntmps37
      go_wp2_with fail
      refine HSP.out.mono ?_
      rintro e w1 ⟨rfl, hP, hT, -⟩
      have HP1 : Hid (RAt w1 (Up F w w1) b (burn d)) := RAt.up ⟨_, _, hP⟩ w
      have HT1 := Lib.hid hT
      clear hP hT
      go_wp2
      go_ret
      exact ⟨rfl, HP1.out, HT1.out⟩
    | false =>
      rw [hg] at HSP
      have e1 : er = 0 := by rw [← her]; simp [writeE, hok, hg]
      have e2 : r = { burn d with W := d.W ++ [(k, s)] } := by rw [← hr']; simp [writeD, hok, hg]
      subst e1
      have HE2 := Lib.hid e2
      have HBW := Lib.hid (burn_W d)
      obtain ⟨i8, hi8, hz80, hz81, hz82⟩ := info80
      generalize d.S.length = n at c0 hn2 hkn
      have t2 : decide ((n : Int) ≤ (k : Int)) = false := by simp; omega
      have t2' : decide (n ≤ k) = false := by simp; omega
      obtain ⟨d1, hd1⟩ : ∃ d1, burn d = d1 := ⟨_, rfl⟩
      rw [hd1] at HSP HE2 HBW
      clear her hr' h hi hok hb hr hs hg e2 hd1
      go_enter Tryd.func37, Tryd.ntmps37
      go_wp2_with fail
      refine HSP.out.mono ?_
      rintro e w1 ⟨rfl, hP, hT, hsz⟩
      obtain ⟨a, cp, rfl⟩ := row_slice hP.is.o2
      have HP := Lib.hid hP
      have HT := Lib.hid hT
      have c1 := hP.is.c1
      have f1 := hP.is.fr 1
      have hblt := hP.is.lt
      have HN2 := Lib.hid hP.is.n2
      have hwl : d1.W.length ≤ 1000000 := by rw [HBW.out]; exact hw
      have HW' : Hid (r = { d1 with W := d1.W ++ [(k, s)] }) := by unfold Hid; rw [HE2.out, HBW.out]
      have HOW : Hid ((w1.alloc (.cells #[.int .i64 (k : Int), .string s] 102)).ownsRow 0 102 2 (.slice a d1.W.length cp) d1.W.length (putCells d1.W)) := World.ownsRow.alloc hP.is.o2 _
      have HNW : Hid (∀ j u, (putC (k, s))[j]? = some u → (w1.alloc (.cells #[.int .i64 (k : Int), .string s] 102)).cell? ((⟨w1.heap.size, 0, none⟩ : Addr).add j) = some u) := fun j u hu => World.news_of_block (cs := #[.int .i64 (k : Int), .string s]) (heap_alloc_new w1 _) j u hu
      have HSZ : Hid (w.heap.size ≤ w1.heap.size) := by unfold Hid; omega
      clear hP hT HSP hw HE2 HBW hsz
      go_wp2_with (at_builtin; go_must (refine wpList_append_lies _ rfl _ _ 67 rfl 0 102 i8 _ 2 24 Tryd.underlying67 hi8 hz80 hz81 hz82 rfl (by omega) (.slice a d1.W.length cp) d1.W.length (putCells d1.W) rfl HOW.out ⟨w1.heap.size, 0, none⟩ 1 1 (putC (k, s)) rfl rfl HNW.out (putC_one _) (by omega) (by unfold maxLen; omega) (by omega) (Nat.zero_le _) _ rfl ?_))
      intro g' cap w4 ho4 hg4 hat4 hlt4
      have hfin := HP.out.more1 (k, s) HW'.out HOKB.out HSZ.out HT.out _ ho4 hg4 (hat4.imp id (fun e => by rw [e]; simp)) hlt4
      have hb' : Below w1.heap.size w1 (w1.alloc (.cells #[.int .i64 (k : Int), .string s] 102)) := (Below.refl _ _).alloc (Nat.le_refl _) _
      have q3' := Nat.lt_of_lt_of_le hblt hb'.size
      have c4 := (hg4.cell_far ⟨b, 1, none⟩ q3' (Ne.symm HN2.out)).trans ((hb'.cell (p := ⟨b, 1, none⟩) hblt).trans c1)
      have f4 := (hg4.frozen_far ⟨b, 1, none⟩ q3' (Ne.symm HN2.out)).trans ((hb'.frozen (p := ⟨b, 1, none⟩) hblt).trans f1)
      have HFIN := Lib.hid hfin
      clear ho4 hg4 hat4 hlt4 hfin hb' q3' c1 f1
      go_wp2
      go_ret
      exact ⟨rfl, ⟨_, _, HFIN.out.1⟩, HFIN.out.2⟩
end Go.Proofs.YtelfomdlbldnpaaDoor
