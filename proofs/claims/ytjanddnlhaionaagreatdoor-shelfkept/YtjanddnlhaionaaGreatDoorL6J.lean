/-
  Contract of Write. No condition.
-/
import Derived.Test.YtjanddnlhaionaaGreatDoorL6I
import Derived.Great.BuildSlice
import Derived.Deep.RegionLaw
namespace Go.Proofs.YtjanddnlhaionaaGreatDoor.L6
open Go.RowKit

set_option maxRecDepth 100000 in
theorem built74 (parts : List (Nat × Value)) : Tryz.prog.built 146 parts = Instr.fill (#[(0, 1), (1, 64)][·]?) z65c.toArray parts := by kernel_rfl
set_option maxRecDepth 100000 in
theorem fill_two (x : Int) (X : Array Value) (hX : X.size = 64) : Instr.fill (#[(0, 1), (1, 64)][·]?) z65c.toArray [(0, .int .i64 x), (1, .agg X)] = some (#[.int .i64 x] ++ X) := by
  have hz : z65c.toArray.size = 65 := by simp [z65c, z64c]
  have h0 : (Value.int .i64 x).cells = #[.int .i64 x] := rfl
  have h1 : (Value.agg X).cells = X := rfl
  have e1 : ((Value.int .i64 x).cells.zipIdx.foldl (fun cs (c, j) => cs.setIfInBounds (0 + j) c) z65c.toArray) = z65c.toArray.setIfInBounds 0 (.int .i64 x) := by
    rw [h0]; rfl
  rw [Instr.fill]
  simp only [show (#[(0, 1), (1, 64)] : Array (Nat × Nat))[0]? = some (0, 1) from rfl]
  rw [if_neg (by rw [h0, hz]; simp), e1, Instr.fill]
  simp only [show (#[(0, 1), (1, 64)] : Array (Nat × Nat))[1]? = some (1, 64) from rfl]
  rw [if_neg (by rw [h1, hX, Array.size_setIfInBounds, hz]; decide), Instr.fill, h1]
  congr 1
  rw [← Array.foldl_toList, Array.toList_zipIdx]
  obtain ⟨k1, k2⟩ := Great.foldl_set 1 X.toList 0 (z65c.toArray.setIfInBounds 0 (.int .i64 x))
  apply Array.ext_getElem?
  intro k
  rw [k2 k, Array.size_setIfInBounds, hz, Array.length_toList, hX]
  rw [Array.getElem?_append]
  by_cases hk0 : k = 0
  · subst hk0
    rw [if_neg (by omega), if_pos (by simp)]
    rfl
  · by_cases hk : k < 65
    · rw [if_pos (by omega), if_neg (by simp; omega)]
      simp
    · rw [if_neg (by omega), if_neg (by simp; omega)]
      rw [Array.getElem?_eq_none (by rw [Array.size_setIfInBounds, hz]; omega), Array.getElem?_eq_none (by simp; omega)]

set_option maxRecDepth 100000 in
theorem penC_arr (k : Nat) (s : ByteArray) : (penC (k, s)).toArray = #[.int .i64 (k : Int)] ++ (secC s).toArray := by simp [penC]
set_option maxRecDepth 100000 in
theorem run_build74 (k : Nat) (s : ByteArray) (hs : s.size = 64) (w : World) : (Instr.build 146 #[(0, .int .i64 (k : Int)), (1, .agg (secC s).toArray)]).run Tryz.prog w = .ok (.agg (penC (k, s)).toArray) w := by
  refine run_build w 146 _ _ ?_
  rw [built74, penC_arr]
  exact fill_two _ _ (by simp [secC_len, hs])
set_option maxRecDepth 100000 in
theorem Tryz.info146 : (Tryz.prog.info? 146).map (fun i => (i.zero, i.size, i.bytes)) = some (some (.agg z65c.toArray), 65, 72) := by kernel_rfl
set_option maxRecDepth 100000 in
theorem info74 : ∃ i, Tryz.prog.info? 146 = some i ∧ i.zero = some (.agg z65c.toArray) ∧ i.size = 65 ∧ i.bytes = 72 := by
  have h := Tryz.info146
  cases hq : Tryz.prog.info? 146 with
  | none => simp [hq] at h
  | some i =>
    simp [hq] at h
    exact ⟨i, rfl, h.1, h.2.1, h.2.2⟩
set_option maxRecDepth 100000 in
theorem run_lit56 (Y : Array Value) (hY : Y.size = 65) (w : World) : (Instr.buildSlice 118 1 #[(0, .agg Y)]).run Tryz.prog w = .ok (.slice (some ⟨w.heap.size, 0, none⟩) 1 1) (w.alloc (.cells Y 146)) := by
  obtain ⟨i, hi, hz, hsz, _⟩ := info74
  refine run_buildSlice w 118 146 1 _ Y i _ Tryz.underlying118 hi hz (by rw [hsz]; decide) (by rw [hsz]; decide) ?_
  rw [hsz]
  have := Great.fill_whole (s := 65) (by omega) [.agg Y] ((Array.range (1 * 65)).map ((Value.agg z65c.toArray).cells[· % (Value.agg z65c.toArray).cells.size]!)) (fun v hv => by
    have : v = .agg Y := by simpa using hv
    subst this; exact hY) (by simp)
  have e : (([Value.agg Y]).flatMap fun v => v.cells.toList).toArray = Y := by
    show (Y.toList ++ []).toArray = Y
    simp
  rw [e] at this
  exact this

set_option maxRecDepth 100000 in
/-- One pending write more. -/
theorem PIs.more1 {w w' : World} {F G : Nat → Prop} {b : Nat} {d : D} {g c : Nat} {v v' : Value} (h : PIs w F b d g c v) (p : Nat × ByteArray)
    (hr : w'.heap[b]? = some (.cells #[.slice (some ⟨g, 0, none⟩) d.S.length c, v', .int .i64 d.fuse, .bool d.gone] 120 (0, 0)))
    (ho : w'.ownsRow 0 146 65 v' (d.W.length + 1) (penCells d.W ++ penC p)) (hk : w'.heap[g]? = w.heap[g]?) (hG : ∀ k, F k → G k) (hv : ∀ k, v'.ownBlock = some k → G k) (n2 : v'.ownBlock ≠ some b) (n12 : v'.ownBlock ≠ some g) : PIs w' G b { d with W := d.W ++ [p] } g c v' := by
  refine ⟨hr, row_keep h.o1 (fun k hk' => own_some hk' ▸ hk), ?_, h.n1, n2, n12, hG _ h.fb, hG _ h.f1, hv⟩
  show w'.ownsRow 0 146 65 v' (d.W ++ [p]).length (penCells (d.W ++ [p]))
  have e : penCells (d.W ++ [p]) = penCells d.W ++ penC p := by simp [penCells]
  rw [List.length_append, e]
  exact ho

set_option maxRecDepth 100000 in
theorem fold74 (k : Nat) (X : Array Value) (hX : X.size = 64) : Array.foldl (fun cs (x : Value × Nat) => cs.setIfInBounds (1 + x.2) x.1) (z65c.toArray.setIfInBounds 0 (.int .i64 (k : Int))) X.zipIdx 0 64 = #[.int .i64 (k : Int)] ++ X := by
  have hz : z65c.toArray.size = 65 := by simp [z65c, z64c]
  have e : Array.foldl (fun cs (x : Value × Nat) => cs.setIfInBounds (1 + x.2) x.1) (z65c.toArray.setIfInBounds 0 (.int .i64 (k : Int))) X.zipIdx 0 64 = Array.foldl (fun cs (x : Value × Nat) => cs.setIfInBounds (1 + x.2) x.1) (z65c.toArray.setIfInBounds 0 (.int .i64 (k : Int))) X.zipIdx := by
    rw [show (64 : Nat) = X.zipIdx.size by simp [hX]]
  rw [e, ← Array.foldl_toList, Array.toList_zipIdx]
  obtain ⟨k1, k2⟩ := Great.foldl_set 1 X.toList 0 (z65c.toArray.setIfInBounds 0 (.int .i64 (k : Int)))
  apply Array.ext_getElem?
  intro j
  rw [k2 j, Array.size_setIfInBounds, hz, Array.length_toList, hX, Array.getElem?_append]
  by_cases hk0 : j = 0
  · subst hk0
    rw [if_neg (by omega), if_pos (by simp)]
    rfl
  · by_cases hk : j < 65
    · rw [if_pos (by omega), if_neg (by simp; omega)]
      simp
    · rw [if_neg (by omega), if_neg (by simp; omega)]
      rw [Array.getElem?_eq_none (by rw [Array.size_setIfInBounds, hz]; omega), Array.getElem?_eq_none (by simp; omega)]
set_option maxRecDepth 100000 in
theorem fold_all (Y : Array Value) (hY : Y.size = 65) (cs : Array Value) (hc : cs.size = 65) : Array.foldl (fun cs (x : Value × Nat) => cs.setIfInBounds x.2 x.1) cs Y.zipIdx 0 65 = Y := by
  have e : Array.foldl (fun cs (x : Value × Nat) => cs.setIfInBounds x.2 x.1) cs Y.zipIdx 0 65 = Array.foldl (fun cs (x : Value × Nat) => cs.setIfInBounds (0 + x.2) x.1) cs Y.zipIdx := by
    rw [show (65 : Nat) = Y.zipIdx.size by simp [hY]]
    simp
  rw [e, ← Array.foldl_toList, Array.toList_zipIdx]
  obtain ⟨k1, k2⟩ := Great.foldl_set 0 Y.toList 0 cs
  apply Array.ext_getElem?
  intro j
  rw [k2 j, Array.length_toList, hY, hc]
  by_cases hk : j < 65
  · rw [if_pos (by omega)]
    simp
  · rw [if_neg (by omega), Array.getElem?_eq_none (by omega), Array.getElem?_eq_none (by omega)]
set_option maxRecDepth 100000 in
set_option maxHeartbeats 1000000 in
theorem write18_go {F : Nat → Prop} {b : Nat} {d : D} {w : World} (h : PAt w F b d) (k : Nat) (s : ByteArray) (hw : d.W.length ≤ 1000000) (hok : writeOk d (k : Int) s = true) (hgo : (burn d).gone = false) :
    Calls Tryz.prog 199 #[.pointer (some ⟨b, 0, none⟩), .int .i64 (k : Int), .string s] w fun e w' => e = .returned (.int .i64 0) ∧ PAt w' (Up F w w') b { burn d with W := d.W ++ [(k, s)] } ∧ Turn F w w' := by
  have HE := Lib.hid (exists26 h)
  have HH := Lib.hid (has35 h (k : Int))
  have HSP := Lib.hid (spend37 h)
  rw [hgo] at HSP
  have hok' := hok
  unfold writeOk at hok'
  rw [Bool.and_eq_true, decide_eq_true_eq] at hok'
  obtain ⟨hk, hs⟩ := hok'
  rw [hk] at HH
  have hkr := hasB_iff.1 hk
  have HK : Hid (k < d.S.length) := by unfold Hid; omega
  have t64 : ((s.size : Int) != 64) = false := by simp [hs]
  have HOKB := Lib.hid (h.ok.write (k : Int) s)
  have HWD : Hid (writeD d (k : Int) s = { burn d with W := d.W ++ [(k, s)] }) := by
    unfold Hid writeD
    rw [if_pos hok, if_neg (by rw [hgo]; exact Bool.false_ne_true)]
    simp
  have HBW := Lib.hid (burn_W d)
  have HBS := Lib.hid (burn_S d)
  have HS := Lib.hid hs
  obtain ⟨d1, hd1⟩ : ∃ d1, burn d = d1 := ⟨_, rfl⟩
  rw [hd1] at HSP HWD HBW HBS ⊢
  have HSO := Lib.hid (sectorOf38 s hs)
  have hb74 := run_build74 k s hs
  have hl56 := run_lit56 (penC (k, s)).toArray (by simp [penC, secC_len, hs])
  have HONE : Hid (∀ u ∈ penC (k, s), u.oneCell' = true) := by
    intro u hu
    rcases List.mem_cons.1 hu with rfl | hu
    · rfl
    · exact bytes_oneCell _ u hu
  have HPL : Hid ((penC (k, s)).length = 65) := by unfold Hid; simp [penC, secC_len, hs]
  have hX : (secC s).toArray.size = 64 := by simp [secC_len, hs]
  have hz := zero74.1
  have hZs : z65c.toArray.size = 65 := by simp [z65c, z64c]
  have hZn : ¬ z65c.toArray = #[] := by intro h; rw [h] at hZs; simp at hZs
  have hfold := fold74 k (secC s).toArray hX
  rw [← penC_arr] at hfold
  generalize z65c.toArray = Z at hz hZs hZn hfold
  generalize (secC s).toArray = X at HSO hb74 hX hfold
  have hY : (penC (k, s)).toArray.size = 65 := by simpa using HPL.out
  have hfold2 := fold_all (penC (k, s)).toArray hY
  obtain ⟨Y, hYe⟩ : ∃ Y, (penC (k, s)).toArray = Y := ⟨_, rfl⟩
  rw [hYe] at hfold hfold2 hY
  have HYE := Lib.hid hYe
  clear hb74 hl56 hYe
  have hf : s.size = 64 := hs
  clear hd1 hkr hk hs hok hgo h hf
  go_enter Tryz.func199, Tryz.ntmps199
  go_wp2_with (first | (go_at_call 80; refine HE.out.mono ?_; rintro e w' ⟨rfl, rfl⟩) | (go_at_call 207; refine HH.out.mono ?_; rintro e w' ⟨rfl, rfl⟩))
  refine HSP.out.mono ?_
  rintro e w1 ⟨rfl, hP, hT, hsz⟩
  obtain ⟨g, c, v, hpw⟩ := hP.pw
  have c1 : w1.drew.cell? ⟨b, 1, none⟩ = some v := hpw.is.c1
  have f1 : w1.drew.frozen? ⟨b, 1, none⟩ = false := hpw.is.fr 1
  have hblt : b < w1.drew.heap.size := hpw.is.lt
  have HPW : Hid (PW w1.drew F b d1 g c v) := ⟨hpw.is.keep (fun _ _ => rfl), hpw.ok, hpw.lt⟩
  have HT : Hid (Turn F w w1.drew) := hT.drew
  have HSZ : Hid (w1.drew.heap.size = w.heap.size) := hsz
  have HLT := Lib.hid hpw.lt
  obtain ⟨vA, vc, rfl⟩ := row_slice hpw.is.o2
  obtain ⟨i0, hi, hz0, hz1, hz2⟩ := info74
  have HOW : Hid (∀ w3, Below w1.drew.heap.size w1.drew w3 → (w3.alloc (.cells Y 146)).ownsRow 0 146 65 (.slice vA d1.W.length vc) d1.W.length (penCells d1.W)) := by
    intro w3 hb3
    exact World.ownsRow.alloc (row_keep HPW.out.is.o2 (fun i hi => hb3.block i (row_lt HPW.out.is.o2 hi))) _
  have HC3 : Hid (∀ w3, Below w1.drew.heap.size w1.drew w3 → w3.cell? ⟨b, 1, none⟩ = some (.slice vA d1.W.length vc) ∧ w3.frozen? ⟨b, 1, none⟩ = false ∧ b < w3.heap.size) := by
    intro w3 hb3
    exact ⟨(hb3.cell (p := ⟨b, 1, none⟩) hblt).trans c1, (hb3.frozen (p := ⟨b, 1, none⟩) hblt).trans f1, Nat.lt_of_lt_of_le hblt hb3.size⟩
  have hwl : d1.W.length ≤ 1000000 := by rw [HBW.out]; exact hw
  have HNEW : Hid (∀ w3 : World, ∀ j u, (penC (k, s))[j]? = some u → (w3.alloc (.cells Y 146)).cell? ((⟨w3.heap.size, 0, none⟩ : Addr).add j) = some u) := fun w3 j u hu => World.news_of_block (heap_alloc_new w3 _) j u (by rw [← HYE.out]; exact hu)
  have HC4 : Hid (∀ w3 w4, Below w1.drew.heap.size w1.drew w3 → (w3.alloc (.cells Y 146)).grownBy w4 (Value.ownBlock (.slice vA d1.W.length vc)) → w4.cell? ⟨b, 1, none⟩ = some (.slice vA d1.W.length vc) ∧ w4.frozen? ⟨b, 1, none⟩ = false) := by
    intro w3 w4 hb3 hg4
    obtain ⟨q1, q2, q3⟩ := HC3.out w3 hb3
    have hb' : Below w3.heap.size w3 (w3.alloc (.cells Y 146)) := (Below.refl _ _).alloc (Nat.le_refl _) _
    have q3' := Nat.lt_of_lt_of_le q3 hb'.size
    exact ⟨(hg4.cell_far ⟨b, 1, none⟩ q3' (Ne.symm HPW.out.is.n2)).trans ((hb'.cell (p := ⟨b, 1, none⟩) q3).trans q1), (hg4.frozen_far ⟨b, 1, none⟩ q3' (Ne.symm HPW.out.is.n2)).trans ((hb'.frozen (p := ⟨b, 1, none⟩) q3).trans q2)⟩
  have HFIN : Hid (∀ w3 w4 g' cap, Below w1.drew.heap.size w1.drew w3 → w4.ownsRow 0 146 65 (.slice (some ⟨g', 0, none⟩) (d1.W.length + 1) cap) (d1.W.length + 1) (penCells d1.W ++ penC (k, s)) → (w3.alloc (.cells Y 146)).grownBy w4 (Value.ownBlock (.slice vA d1.W.length vc)) → (Value.ownBlock (.slice vA d1.W.length vc) = some g' ∨ g' = (w3.alloc (.cells Y 146)).heap.size) → g' < w4.heap.size →
      PAt (w4.setCell ⟨b, 1, none⟩ (.slice (some ⟨g', 0, none⟩) (d1.W.length + 1) cap)) (Up F w (w4.setCell ⟨b, 1, none⟩ (.slice (some ⟨g', 0, none⟩) (d1.W.length + 1) cap))) b { d1 with W := d.W ++ [(k, s)] } ∧ Turn F w (w4.setCell ⟨b, 1, none⟩ (.slice (some ⟨g', 0, none⟩) (d1.W.length + 1) cap))) := by
    intro w3 w4 g' cap hb3 ho4 hg4 hat hlt
    have hb' : Below w1.drew.heap.size w1.drew (w3.alloc (.cells Y 146)) := hb3.alloc hb3.size _
    have hn2 := HPW.out.is.n2
    have hn12 := HPW.out.is.n12
    have hgb : g' ≠ b := by
      rcases hat with h | h
      · intro e; exact hn2 (by rw [h, e])
      · have := hb'.size; omega
    have hglt : g < w1.drew.heap.size := HPW.out.is.sub
    have hgg : g' ≠ g := by
      rcases hat with h | h
      · intro e; exact hn12 (by rw [h, e])
      · have := hb'.size; omega
    have hsz4 : w.heap.size ≤ w4.heap.size := by have := HSZ.out; have := hb'.size; have := hg4.size; omega
    have hTT : Turn F w w4 := (HT.out.trans (Turn.of_below (F := F) (a := w1.drew) hb') (fun i h => .inl h)).trans (Turn.of_grown (F := F) hg4 (fun i e => HPW.out.is.f2 i e)) (fun i h => .inl h)
    have hrow : w4.heap[b]? = some (.cells #[.slice (some ⟨g, 0, none⟩) d1.S.length c, .slice vA d1.W.length vc, .int .i64 d1.fuse, .bool d1.gone] 120 (0, 0)) := by
      rw [hg4.block b (Nat.lt_of_lt_of_le hblt hb'.size) (Ne.symm hn2), hb'.block b hblt]
      exact HPW.out.is.row
    have hgk : w4.heap[g]? = w1.drew.heap[g]? := by
      rw [hg4.block g (Nat.lt_of_lt_of_le hglt hb'.size) (Ne.symm hn12), hb'.block g hglt]
    refine ⟨⟨⟨g, c, .slice (some ⟨g', 0, none⟩) (d1.W.length + 1) cap, ?_⟩, ?_, fun i hi => ?_⟩, hTT.setCell _ _ (.inl HPW.out.is.fb)⟩
    · rw [← HBW.out]
      refine HPW.out.is.more1 (k, s) ?_ ?_ ?_ (fun i h => .inl h) (fun i h => ?_) (by simpa [Value.ownBlock] using hgb) (by simpa [Value.ownBlock] using hgg)
      · rw [heap_setCell_same _ _ _ _ _ _ hrow]; rfl
      · exact row_keep ho4 (fun i h => Below.heap_setCell _ _ _ _ (by rw [← own_some h]; exact hgb))
      · rw [Below.heap_setCell _ _ _ _ (HPW.out.is.n1)]; exact hgk
      · rw [← own_some h]
        rcases hat with h1 | h1
        · exact .inl (HPW.out.is.f2 g' h1)
        · right
          have := HSZ.out
          have := hb'.size
          refine ⟨by omega, by simpa [World.setCell] using hlt⟩
    · rw [← HWD.out]; exact HOKB.out
    · rcases hi with hi | hi
      · have := HLT.out i hi
        have : i < w1.drew.heap.size := this
        have := HSZ.out
        simpa [World.setCell] using (show i < w4.heap.size by omega)
      · exact hi.2
  clear hP hT hsz hpw HSP HE HH hw
  go_wp2_with fail
  go_region_law (first | (go_simp; go_at_call 214; (with_reducible refine (HSO.out _).mono ?_); rintro e w3 ⟨rfl, hb3⟩; have HB3 := Lib.hid hb3; obtain ⟨q1, q2, q3⟩ := HC3.out w3 hb3; clear hb3) | (refine step_append_lies _ rfl (.tmp 26) (.tmp 31) 118 rfl 0 146 i0 _ 65 72 Tryz.underlying118 hi hz0 hz1 hz2 rfl (by omega) _ _ (penCells d1.W) (by simp [Act.eval]) (HOW.out _ HB3.out) _ 1 1 (penC (k, s)) (by simp [Act.eval]) (by rw [HPL.out]) (HNEW.out w3) HONE.out (by omega) (by unfold maxLen; omega) (by omega) (Nat.zero_le _) _ rfl ?_; intro g' cap w4 ho4 hg4 hat4 hlt4; obtain ⟨r1, r2⟩ := HC4.out _ _ HB3.out hg4; have HF := Lib.hid (HFIN.out _ _ _ _ HB3.out ho4 hg4 hat4 hlt4); clear ho4 hg4 hat4 hlt4))
  all_goals
    go_wp2
    go_ret
    exact ⟨rfl, HF.out.1, HF.out.2⟩
end Go.Proofs.YtjanddnlhaionaaGreatDoor.L6
