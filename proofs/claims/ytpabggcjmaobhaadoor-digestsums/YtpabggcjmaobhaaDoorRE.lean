/-
  The document's turn of a state by a block.
-/
import Derived.Test.YtpabggcjmaobhaaDoorC
import Derived.Test.YtpabggcjmaobhaaDoorD
import Derived.Test.YtpabggcjmaobhaaDoorRB
import Derived.Test.YtpabggcjmaobhaaDoorRC
import Derived.Test.YtpabggcjmaobhaaDoorRD
namespace Go.Proofs.YtpabggcjmaobhaaDoor
open Go.RowKit

/-- The four blocks of turn. -/
structure T20 (w : World) (h : Array Value) (p : Nat) (W L : List Int) (wr : World) : Prop where
  hh : wr.heap[w.heap.size]? = some (.cells h 38 (0, 0))
  hr : wr.heap[w.heap.size + 1]? = some (.cells (st8 0 0 0 0 0 0 0 0) 38 (0, 0))
  hw : wr.heap[p]? = some (.cells (wordsV W).toArray 55 (0, 0))
  hx : wr.heap[p + 1]? = some (.cells (wordsV L).toArray 38 (0, 0))
  hp : w.heap.size + 1 < p
  below : Below w.heap.size w wr
theorem T20.drewN {w : World} {h : Array Value} {p : Nat} {W L : List Int} {wr : World} (t : T20 w h p W L wr) (n : Nat) : T20 w h p W L (wr.drewN n) :=
  ⟨t.hh, t.hr, t.hw, t.hx, t.hp, t.below.trans ⟨rfl, rfl, rfl, Nat.le_refl _, fun _ _ => rfl⟩⟩
theorem T20.row {w : World} {h : Array Value} {p : Nat} {W L : List Int} {wr : World} (t : T20 w h p W L wr) (L' : List Int) :
    T20 w h p W L' (wr.setRow (p + 1) (wordsV L').toArray) := by
  have hp := t.hp
  refine ⟨?_, ?_, ?_, setRow_heap _ _ _ _ _ _ t.hx, t.hp, t.below.trans ⟨rfl, rfl, rfl, by simp, fun i hi => setRow_other _ _ _ _ (by omega)⟩⟩
  · rw [setRow_other _ _ _ _ (by omega)]; exact t.hh
  · rw [setRow_other _ _ _ _ (by omega)]; exact t.hr
  · rw [setRow_other _ _ _ _ (by omega)]; exact t.hw
theorem T20.set {w : World} {h : Array Value} {p : Nat} {W L : List Int} {wr : World} (t : T20 w h p W L wr) (i : Nat) (z : Int) :
    T20 w h p W (L.set i z) (wr.setCell ⟨p + 1, i, none⟩ (.int .u32 z)) := by
  have hp := t.hp
  refine ⟨?_, ?_, ?_, ?_, t.hp, t.below.setCell (by show w.heap.size ≤ p + 1; omega) _⟩
  · rw [heap_setCell_other _ _ _ _ (by simp; omega)]; exact t.hh
  · rw [heap_setCell_other _ _ _ _ (by simp; omega)]; exact t.hr
  · rw [heap_setCell_other _ _ _ _ (by simp)]; exact t.hw
  · rw [heap_setCell_same _ _ _ _ _ _ t.hx]
    simp [wordsV, List.map_set]

theorem two_blocks (w : World) (A B : Obj) : ((w.alloc A).alloc B).heap[w.heap.size]? = some A ∧ ((w.alloc A).alloc B).heap[w.heap.size + 1]? = some B ∧ ((w.alloc A).alloc B).heap.size = w.heap.size + 1 + 1 ∧ Below w.heap.size w ((w.alloc A).alloc B) :=
  ⟨heap_alloc2_old w A B, heap_alloc2_new w A B, by simp, ((Below.refl _ _).alloc (Nat.le_refl _) _).alloc (by simp) _⟩

theorem t20_start {w w0 w1 : World} {h : St} {W : List Int} {z z8 : Array Value} (h0 : w0.heap[w.heap.size]? = some (.cells h.cells 38 (0, 0)))
    (h1 : w0.heap[w.heap.size + 1]? = some (.cells (st8 0 0 0 0 0 0 0 0) 38 (0, 0))) (hsz : w0.heap.size = w.heap.size + 1 + 1) (hb0 : Below w.heap.size w w0) (hb : Below w0.heap.size w0 w1) :
    T20 w h.cells w1.heap.size W h.list ((((w1.alloc (.cells z 55)).setRow w1.heap.size (wordsV W).toArray).alloc (.cells z8 38)).setRow (w1.heap.size + 1) h.cells) := by
  have hle := hb.size
  have hs1 : ((w1.alloc (.cells z 55)).setRow w1.heap.size (wordsV W).toArray).heap.size = w1.heap.size + 1 := by simp
  have hB : Below w.heap.size w ((((w1.alloc (.cells z 55)).setRow w1.heap.size (wordsV W).toArray).alloc (.cells z8 38)).setRow (w1.heap.size + 1) h.cells) := by
    have a1 : Below w.heap.size w (w1.alloc (.cells z 55)) := (hb0.trans (hb.mono (by omega))).alloc (by omega) _
    have a2 : Below w.heap.size w ((w1.alloc (.cells z 55)).setRow w1.heap.size (wordsV W).toArray) := a1.trans ⟨rfl, rfl, rfl, by simp, fun i hi => setRow_other _ _ _ _ (by omega)⟩
    exact (a2.alloc (by omega) _).trans ⟨rfl, rfl, rfl, by simp, fun i hi => setRow_other _ _ _ _ (by omega)⟩
  refine ⟨?_, ?_, ?_, ?_, by omega, hB⟩
  · rw [setRow_other _ _ _ _ (by omega), Below.heap_alloc _ _ _ (by omega), setRow_other _ _ _ _ (by omega), Below.heap_alloc _ _ _ (by omega), hb.block _ (by omega), h0]
  · rw [setRow_other _ _ _ _ (by omega), Below.heap_alloc _ _ _ (by omega), setRow_other _ _ _ _ (by omega), Below.heap_alloc _ _ _ (by omega), hb.block _ (by omega), h1]
  · rw [setRow_other _ _ _ _ (by omega), Below.heap_alloc _ _ _ (by omega)]
    exact setRow_heap _ _ _ _ _ _ (heap_alloc_new _ _)
  · have := setRow_heap (((w1.alloc (.cells z 55)).setRow w1.heap.size (wordsV W).toArray).alloc (.cells z8 38)) (w1.heap.size + 1) z8 h.cells 38 (0, 0) (by rw [← hs1]; exact heap_alloc_new _ _)
    rw [this]; rfl

/-- Behind i steps of the adding. -/
def Added (H X L : List Int) (i : Nat) : Prop := L.length = 8 ∧ ∀ j, j < 8 → L.getD j 0 = if j < i then (X.getD j 0 + H.getD j 0) % 4294967296 else X.getD j 0
theorem Added.zero (H X : List Int) (h : X.length = 8) : Added H X X 0 := ⟨h, fun j _ => by simp⟩
theorem Added.succ {H X L : List Int} {i : Nat} (h : Added H X L i) (hi : i < 8) : Added H X (L.set i ((L.getD i 0 + H.getD i 0) % 4294967296)) (i + 1) := by
  refine ⟨by rw [List.length_set]; exact h.1, fun j hj => ?_⟩
  have hl := h.1
  by_cases hji : j = i
  · subst hji
    have e := h.2 j hj
    rw [if_neg (by omega)] at e
    rw [if_pos (by omega), e]
    simp [hl, hj]
  · have e := h.2 j hj
    have e2 : (L.set i ((L.getD i 0 + H.getD i 0) % 4294967296)).getD j 0 = L.getD j 0 := by
      simp [List.getElem?_set_ne (show i ≠ j by omega)]
    rw [e2, e]
    by_cases hlt : j < i
    · rw [if_pos hlt, if_pos (by omega)]
    · rw [if_neg hlt, if_neg (by omega)]
theorem Added.all {H X L L' : List Int} (h : Added H X L 8) (hl : L'.length = 8) (he : ∀ j, j < 8 → L'.getD j 0 = (X.getD j 0 + H.getD j 0) % 4294967296) : L = L' := by
  apply List.ext_getElem
  · rw [h.1, hl]
  · intro j h1 h2
    have hj : j < 8 := by rw [← h.1]; exact h1
    have e1 := h.2 j hj
    have e2 := he j hj
    rw [if_pos hj] at e1
    rw [← e1] at e2
    simpa [h1, h2] using e2.symm

set_option maxRecDepth 100000 in
set_option maxHeartbeats 1600000 in
theorem refTurn20 (a b c d e f g h : Int) (s : ByteArray) (hs : s.size = 64) (w : World) :
    Calls Tryd.prog 20 #[.agg (st8 a b c d e f g h), .string s] w fun x w' => x = .returned (.agg (afterM keysL ⟨a, b, c, d, e, f, g, h⟩ s.data.toList).cells) ∧ Below w.heap.size w w' := by
  have HC := Lib.hid (refWords28 s hs)
  have hwl := wordsTo_length s.data.toList 64
  obtain ⟨n64, hn⟩ : ∃ n, n = 64 := ⟨_, rfl⟩
  have HAF : Hid (afterM keysL ⟨a, b, c, d, e, f, g, h⟩ s.data.toList = addSt ⟨a, b, c, d, e, f, g, h⟩ (stepsTo keysL (wordsTo s.data.toList n64) ⟨a, b, c, d, e, f, g, h⟩ n64)) := by
    unfold Hid; rw [hn]; rfl
  rw [← hn] at HC hwl
  generalize wordsTo s.data.toList n64 = W at HC hwl HAF
  generalize afterM keysL ⟨a, b, c, d, e, f, g, h⟩ s.data.toList = R at HAF ⊢
  rw [hn] at hwl
  have hws : (wordsV W).length = 64 := by simp [wordsV, hwl]
  have H1 := Lib.hid (words_oneCell W)
  have hi38 : (Tryd.prog.info? 38).map (·.size) = some 8 := by kernel_rfl
  have HI38 := Lib.hid hi38
  clear hi38
  have hi55 : (Tryd.prog.info? 55).map (·.size) = some 64 := by kernel_rfl
  have HI55 := Lib.hid hi55
  clear hi55
  have HT := Lib.hid (two_blocks w (.cells (st8 a b c d e f g h) 38) (.cells (st8 0 0 0 0 0 0 0 0) 38))
  have HN64 := Lib.hid hn
  clear hs hn
  go_enter Tryd.func20, Tryd.ntmps20
  go_wp2_with fail
  refine (HC.out _).mono ?_
  rintro e' w1 ⟨rfl, hb1⟩
  have hsz : w.heap.size + 1 + 1 ≤ w1.heap.size := Nat.le_trans (Nat.le_of_eq HT.out.2.2.1.symm) hb1.size
  have HA : Hid (∀ z z8, T20 w (st8 a b c d e f g h) w1.heap.size W [a, b, c, d, e, f, g, h] ((((w1.alloc (.cells z 55)).setRow w1.heap.size (wordsV W).toArray).alloc (.cells z8 38)).setRow (w1.heap.size + 1) (st8 a b c d e f g h))) :=
    fun z z8 => t20_start (W := W) (h := ⟨a, b, c, d, e, f, g, h⟩) HT.out.1 HT.out.2.1 HT.out.2.2.1 HT.out.2.2.2 hb1
  have HLD : Hid (∀ z, ((w1.alloc (.cells z 55)).setRow w1.heap.size (wordsV W).toArray).heap[w.heap.size]? = some (.cells (st8 a b c d e f g h) 38 (0, 0))) := fun z => by
    rw [setRow_other _ _ _ _ (by omega), Below.heap_alloc _ _ _ (by omega), hb1.block _ (Nat.lt_of_lt_of_eq (by omega) HT.out.2.2.1.symm)]
    exact HT.out.1
  have HNW : Hid (∀ z z8, (((w1.alloc (.cells z 55)).setRow w1.heap.size (wordsV W).toArray).alloc (.cells z8 38)).heap[w1.heap.size + 1]? = some (.cells z8 38 (0, 0))) := fun z z8 => by
    have hs1 : ((w1.alloc (.cells z 55)).setRow w1.heap.size (wordsV W).toArray).heap.size = w1.heap.size + 1 := by simp
    rw [← hs1]; exact heap_alloc_new _ _
  have HO8 := Lib.hid (St.oneCell ⟨a, b, c, d, e, f, g, h⟩)
  clear hb1 HT HC
  go_wp2_with (first | (refine wpList_store_row rfl 55 _ _ rfl w1.heap.size _ rfl rfl 55 _ (heap_alloc_new _ _) (by simpa [hws] using HI55.out) (by simp [hws]) H1.out ?_) | (refine wpList_load_row rfl 38 _ rfl w.heap.size rfl 38 _ (0, 0) _ (HLD.out _) Tryd.underlying38 rfl (by exact HI38.out) ?_) | (refine wpList_store_row rfl 38 _ _ rfl (w1.heap.size + 1) _ rfl rfl 38 _ (HNW.out _ _) (by exact HI38.out) (by rfl) HO8.out ?_))
  clear HLD HNW HO8
  go_loopw [7] (fun s7 wr => ∃ (k : Nat) (a' b' c' d' e' f' g' h' : Int), k ≤ 64 ∧ s7 = .int .i64 k ∧ Hid (T20 w (st8 a b c d e f g h) w1.heap.size W [a', b', c', d', e', f', g', h'] wr) ∧ Upto keysL W ⟨a, b, c, d, e, f, g, h⟩ k a' b' c' d' e' f' g' h') (fun s7 _ => 64 - (intOf s7).toNat)
  case atStart => exact ⟨0, a, b, c, d, e, f, g, h, by omega, rfl, HA.out _ _, rfl⟩
  case round =>
    obtain ⟨k, a', b', c', d', e', f', g', h', hk, rfl, HX, HU⟩ := hrel
    clear HA
    by_cases hlt : k < 64
    · have bk : (k : Int) < 64 := by omega
      have cw : wr.cell? ⟨w1.heap.size, k, none⟩ = some (.int .u32 (W.getD k 0)) := cell_row HX.out.hw (by simp [wordsV, hwl, hlt])
      have HN : Hid (stepsTo keysL W ⟨a, b, c, d, e, f, g, h⟩ (k + 1) = stepR ⟨a', b', c', d', e', f', g', h'⟩ (keysL.getD k 0) (W.getD k 0)) := by
        unfold Hid stepsTo
        rw [show stepsTo keysL W ⟨a, b, c, d, e, f, g, h⟩ k = _ from HU, stepR_eq]
      have HK := Lib.hid (k30q k hlt)
      generalize W.getD k 0 = x at cw HN
      generalize keysL.getD k 0 = y at HK HN
      have s0 : wr.cell? ⟨w1.heap.size + 1, 0, none⟩ = some (.int .u32 a') := cell_row HX.out.hx rfl
      have s1 : wr.cell? ⟨w1.heap.size + 1, 1, none⟩ = some (.int .u32 b') := cell_row HX.out.hx rfl
      have s2 : wr.cell? ⟨w1.heap.size + 1, 2, none⟩ = some (.int .u32 c') := cell_row HX.out.hx rfl
      have s3 : wr.cell? ⟨w1.heap.size + 1, 3, none⟩ = some (.int .u32 d') := cell_row HX.out.hx rfl
      have s4 : wr.cell? ⟨w1.heap.size + 1, 4, none⟩ = some (.int .u32 e') := cell_row HX.out.hx rfl
      have s5 : wr.cell? ⟨w1.heap.size + 1, 5, none⟩ = some (.int .u32 f') := cell_row HX.out.hx rfl
      have s6 : wr.cell? ⟨w1.heap.size + 1, 6, none⟩ = some (.int .u32 g') := cell_row HX.out.hx rfl
      have s7 : wr.cell? ⟨w1.heap.size + 1, 7, none⟩ = some (.int .u32 h') := cell_row HX.out.hx rfl
      clear HU HAF
      go_wp2
      go_quiet (fail)
      have s3' : (wr.drewN nq).cell? ⟨w1.heap.size + 1, 3, none⟩ = some (.int .u32 d') := s3
      have s7' : (wr.drewN nq).cell? ⟨w1.heap.size + 1, 7, none⟩ = some (.int .u32 h') := s7
      have cw' : (wr.drewN nq).cell? ⟨w1.heap.size, k, none⟩ = some (.int .u32 x) := cw
      have HX2 := Lib.hid (HX.out.drewN nq)
      clear s0 s1 s2 s3 s4 s5 s6 s7 cw HX
      generalize wr.drewN nq = w2 at s3' s7' cw' HX2 ⊢
      go_wp2
      go_quiet (first | (go_at_call 29; exact Calls.quiet_of (rot29 _ _ (by decide) (by decide) _)) | (go_at_call 30; exact Calls.quiet_of (HK.out _)))
      have s3 : (w2.drewN nq).cell? ⟨w1.heap.size + 1, 3, none⟩ = some (.int .u32 d') := s3'
      have HX3 := Lib.hid (HX2.out.drewN nq)
      clear s3' s7' cw' HX2 HK
      generalize w2.drewN nq = w3 at s3 HX3 ⊢
      have E1 := t1alt ⟨a', b', c', d', e', f', g', h'⟩ y x
      simp only [sig1, chR, xo] at E1
      rw [E1]
      have HN2 : Hid (stepsTo keysL W ⟨a, b, c, d, e, f, g, h⟩ (k + 1) = ⟨(t1R ⟨a', b', c', d', e', f', g', h'⟩ y x + (sig0 a' + majR a' b' c')) % 4294967296, a', b', c', (d' + t1R ⟨a', b', c', d', e', f', g', h'⟩ y x) % 4294967296, e', f', g'⟩) := by
        unfold Hid; rw [HN.out]; unfold stepR t2R
        simp only [Int.add_emod_emod]
      generalize t1R ⟨a', b', c', d', e', f', g', h'⟩ y x = t1 at HN2 ⊢
      have HROW : Hid (∀ m, (w3.drewN m).heap[w1.heap.size + 1]? = some (.cells (wordsV [a', b', c', d', e', f', g', h']).toArray 38 (0, 0))) := fun m => (HX3.out.drewN m).hx
      have HX4 : Hid (∀ m, T20 w (st8 a b c d e f g h) w1.heap.size W [(t1 + (sig0 a' + majR a' b' c')) % 4294967296, a', b', c', (d' + t1) % 4294967296, e', f', g'] ((w3.drewN m).setRow (w1.heap.size + 1) (⟨(t1 + (sig0 a' + majR a' b' c')) % 4294967296, a', b', c', (d' + t1) % 4294967296, e', f', g'⟩ : St).cells)) :=
        fun m => (HX3.out.drewN m).row [(t1 + (sig0 a' + majR a' b' c')) % 4294967296, a', b', c', (d' + t1) % 4294967296, e', f', g']
      clear HX3 HN E1
      go_wp2_with (first | (go_at_call 29; refine (rot29 _ _ (by decide) (by decide) _).mono ?_; rintro ee w' ⟨rfl, m, rfl⟩) | (refine wpList_store_row rfl 38 _ _ rfl (w1.heap.size + 1) (⟨(t1 + (sig0 a' + majR a' b' c')) % 4294967296, a', b', c', (d' + t1) % 4294967296, e', f', g'⟩ : St).cells rfl rfl 38 _ (HROW.out _) HI38.out (by rfl) (St.oneCell _) ?_))
      exact ⟨⟨k + 1, _, _, _, _, _, _, _, _, by omega, by go_num, HX4.out _, HN2⟩, by simp [intOf]; omega⟩
    · have hk64 : k = 64 := by omega
      have hRL : R.list = (addSt ⟨a, b, c, d, e, f, g, h⟩ ⟨a', b', c', d', e', f', g', h'⟩).list := by
        have e1 : stepsTo keysL W ⟨a, b, c, d, e, f, g, h⟩ n64 = ⟨a', b', c', d', e', f', g', h'⟩ := by
          rw [HN64.out, ← hk64]; exact HU
        rw [HAF.out, e1]
      have HFIN : Hid (∀ L, Added [a, b, c, d, e, f, g, h] [a', b', c', d', e', f', g', h'] L 8 → L = R.list) := by
        intro L hL
        refine hL.all (by rw [hRL]; rfl) (fun j hj => ?_)
        rw [hRL]
        have hn : j = 0 ∨ j = 1 ∨ j = 2 ∨ j = 3 ∨ j = 4 ∨ j = 5 ∨ j = 6 ∨ j = 7 := by omega
        rcases hn with rfl | rfl | rfl | rfl | rfl | rfl | rfl | rfl
        · exact congrArg (· % 4294967296) (Int.add_comm a a')
        · exact congrArg (· % 4294967296) (Int.add_comm b b')
        · exact congrArg (· % 4294967296) (Int.add_comm c c')
        · exact congrArg (· % 4294967296) (Int.add_comm d d')
        · exact congrArg (· % 4294967296) (Int.add_comm e e')
        · exact congrArg (· % 4294967296) (Int.add_comm f f')
        · exact congrArg (· % 4294967296) (Int.add_comm g g')
        · exact congrArg (· % 4294967296) (Int.add_comm h h')
      have hH8 : ([a, b, c, d, e, f, g, h] : List Int).length = 8 := rfl
      have hst8 : st8 a b c d e f g h = (wordsV [a, b, c, d, e, f, g, h]).toArray := rfl
      rw [hst8] at HX
      have HAD := Lib.hid (Added.zero [a, b, c, d, e, f, g, h] [a', b', c', d', e', f', g', h'] rfl)
      clear hRL HAF HU HN64 hk64 hst8
      generalize ([a', b', c', d', e', f', g', h'] : List Int) = X at HX HAD HFIN
      generalize ([a, b, c, d, e, f, g, h] : List Int) = H at HX HAD HFIN hH8
      go_wp2
      go_loopw [16] (fun s16 wr => ∃ (i : Nat) (L : List Int), i ≤ 8 ∧ s16 = .int .i64 i ∧ Hid (T20 w (wordsV H).toArray w1.heap.size W L wr) ∧ Hid (Added H X L i)) (fun s16 _ => 8 - (intOf s16).toNat)
      case atStart => exact ⟨0, X, by omega, rfl, HX, HAD⟩
      case round =>
        obtain ⟨i, L, hi, rfl, HX, HAD⟩ := hrel
        by_cases hlt8 : i < 8
        · have bi : (i : Int) < 8 := by omega
          have cx : wr.cell? ⟨w1.heap.size + 1, i, none⟩ = some (.int .u32 (L.getD i 0)) := cell_row HX.out.hx (by simp [wordsV, HAD.out.1, hlt8])
          have cH : wr.cell? ⟨w.heap.size, i, none⟩ = some (.int .u32 (H.getD i 0)) := cell_row HX.out.hh (by simp [wordsV, hH8, hlt8])
          have fx := frozen_of_row wr _ i _ _ HX.out.hx
          have HX2 := Lib.hid ((HX.out.set i ((L.getD i 0 + H.getD i 0) % 4294967296)).drewN 1)
          have HAD2 := Lib.hid (HAD.out.succ hlt8)
          generalize L.set i ((L.getD i 0 + H.getD i 0) % 4294967296) = L2 at HX2 HAD2
          generalize L.getD i 0 = lx at cx HX2
          generalize H.getD i 0 = hx at cH HX2
          clear HX HAD
          go_wp2
          go_still_tail 9, (by kernel_rfl)
          change wpList _ _ _ _ _ (World.drew _)
          go_wp2
          exact ⟨⟨i + 1, L2, by omega, by go_num, HX2, HAD2⟩, by simp [intOf]; omega⟩
        · have hi8 : i = 8 := by omega
          rw [hi8] at HAD
          have hL := HFIN.out L HAD.out
          have hx := HX.out.hx
          rw [hL] at hx
          have hrc : (wordsV R.list).toArray = R.cells := rfl
          rw [hrc] at hx
          have hg1 := HX.out.hr
          have HBW := Lib.hid HX.out.below
          have HO8 := Lib.hid (St.oneCell R)
          have hRs : R.cells.size = 8 := rfl
          clear hL hi8 HAD HFIN HX hrc
          have HXX := Lib.hid hx
          have HG1 := Lib.hid hg1
          clear hx hg1
          go_wp2_with (first | (refine wpList_load_row rfl 38 _ rfl (w1.heap.size + 1) rfl 38 _ (0, 0) _ HXX.out Tryd.underlying38 rfl (by exact HI38.out) ?_) | (refine wpList_store_row rfl 38 _ _ rfl (w.heap.size + 1) R.cells rfl rfl 38 _ HG1.out (by exact HI38.out) (by rfl) HO8.out ?_))
          refine bodyPost_ret (results_cell_row (p := 4) (ty := 38) rfl _ _ (w.heap.size + 1) 38 R.cells (0, 0) _ ?hp (setRow_heap wr (w.heap.size + 1) _ _ 38 (0, 0) HG1.out) Tryd.underlying38 rfl (by exact HI38.out)) rfl ?_
          case hp => simp [Act.put]
          exact ⟨rfl, HBW.out.trans ⟨rfl, rfl, rfl, by simp, fun i hi => setRow_other _ _ _ _ (by omega)⟩⟩
end Go.Proofs.YtpabggcjmaobhaaDoor
