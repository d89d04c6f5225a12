/-
  The contract of readBatch, of a record that writeBatch wrote. No condition but on lengths.
-/
import Derived.Test.YtjanddnlhaionaaGreatDoorSD
import Derived.Test.YtjanddnlhaionaaGreatDoorL6x2
set_option maxRecDepth 100000
namespace Go.Proofs.YtjanddnlhaionaaGreatDoor
open Go.RowKit
open L4 (C LAt LIn LNF Unf Wf rcells rowC okC encC putS putE Box takeM TakeTo Fit)

/-- What a batch's record must be, to be read back. -/
structure BatOk (c : C) (l : List ByteArray) : Prop where
  ok : okC 16 (batC c l) = true
  fit : Fit 16 (batC c l)
  c1 : okC 16 c = true
  c2 : depC c ≤ 14
theorem BatOk.take {c : C} {l : List ByteArray} (h : BatOk c l) : takeM (putS (batC c l)) = (batC c l, 0) := L4.take_put h.ok h.fit
theorem BatOk.len {c : C} {l : List ByteArray} (h : BatOk c l) : l.length ≤ 4095 := by
  have h1 := h.ok
  unfold batC listC at h1
  rw [L4.okC_succ] at h1
  simp only [show ¬ ((3 : Int) = 1) by decide, show ¬ ((3 : Int) = 2) by decide, if_false, if_true] at h1
  simp only [Bool.and_eq_true, List.all_cons] at h1
  have h2 := h1.2.2.2.2.1
  rw [L4.okC_succ] at h2
  simp only [show ¬ ((3 : Int) = 1) by decide, show ¬ ((3 : Int) = 2) by decide, if_false, if_true] at h2
  simp only [Bool.and_eq_true, decide_eq_true_eq, List.length_map] at h2
  exact h2.2.2.1

/-- The strings so far, and empty ones. -/
def strK (l : List ByteArray) (k : Nat) : List Value := L6.strs (l.take k) ++ List.replicate (l.length - k) (.string ByteArray.empty)
theorem strK_set (l : List ByteArray) (k : Nat) (h : k < l.length) : (strK l k).set k (.string l[k]) = strK l (k + 1) := by
  unfold strK
  have e1 : (L6.strs (l.take k)).length = k := by unfold L6.strs; rw [List.length_map, List.length_take]; omega
  rw [List.set_append_right _ _ (by omega), e1, Nat.sub_self, show l.length - k = (l.length - (k + 1)) + 1 by omega, List.replicate_succ, List.set_cons_zero, List.take_succ_eq_append_getElem h]
  unfold L6.strs
  rw [List.map_append, List.append_assoc]
  rfl
theorem strK_end (l : List ByteArray) : strK l l.length = L6.strs l := by
  unfold strK
  rw [List.take_length, Nat.sub_self, List.replicate_zero, List.append_nil]

theorem strK_get (l : List ByteArray) (k : Nat) (h : k < l.length) : (strK l k)[k]? = some (.string ByteArray.empty) := by
  unfold strK
  have e1 : (L6.strs (l.take k)).length = k := by unfold L6.strs; rw [List.length_map, List.length_take]; omega
  rw [List.getElem?_append_right (by omega), e1, Nat.sub_self, List.getElem?_replicate, if_pos (by omega)]
theorem ne7 {w : World} {B g n c p : Nat} {xs : List Value} {cs : Array Value} (h : w.ownsRow B 9 1 (.slice (some ⟨g, 0, none⟩) n c) n xs) (hp : w.heap[p]? = some (.cells cs 38 (0, 0))) : p ≠ g := by
  rintro rfl
  obtain ⟨cs', hc⟩ := L6.row_ty h rfl
  rw [hc] at hp
  cases hp
theorem results129 (tmps : Array Value) (w : World) (P : Nat) (k n : Int) (sv : ByteArray) (A : Option Addr) (l cap : Nat) (hp2 : tmps[2]?.getD undef = .pointer (some ⟨P, 0, none⟩))
    (h0 : w.heap[P]? = some (.cells #[.int .i64 k, .int .i64 n, .string sv, .slice A l cap] 38 (0, 0))) :
    (results Tryz.f129 tmps).run Tryz.prog w = .ok (.tuple #[.agg #[.int .i64 k, .int .i64 n, .string sv, .slice A l cap], tmps[3]?.getD undef, tmps[4]?.getD undef]) w := by
  have p0 : w.cell? ⟨P, 0, none⟩ = some (.int .i64 k) := cell_of_row w P 0 _ 38 (0, 0) h0
  have p1 : w.cell? ⟨P, 1, none⟩ = some (.int .i64 n) := cell_of_row w P 1 _ 38 (0, 0) h0
  have p2 : w.cell? ⟨P, 2, none⟩ = some (.string sv) := cell_of_row w P 2 _ 38 (0, 0) h0
  have p3 : w.cell? ⟨P, 3, none⟩ = some (.slice A l cap) := cell_of_row w P 3 _ 38 (0, 0) h0
  simp [results, Tryz.results129, hp2, asAddr, go_sem, p0, p1, p2, p3]
theorem three (w : World) (X Y Z : Array Value) (W : World) (h : W = (((w.alloc (.cells X 38)).alloc (.cells Y 38)).alloc (.cells Z 38)).drew) : Below w.heap.size w W ∧ W.heap[w.heap.size + 1]? = some (.cells Y 38 (0, 0)) ∧ W.heap[w.heap.size + 1 + 1]? = some (.cells Z 38 (0, 0)) := by
  subst h
  have h2 := heap_alloc_new (w.alloc (.cells X 38)) (.cells Y 38)
  have h3 := heap_alloc_new ((w.alloc (.cells X 38)).alloc (.cells Y 38)) (.cells Z 38)
  refine ⟨((((Below.refl _ w).alloc (Nat.le_refl _) _).alloc (by simp) _).alloc (by simp; omega) _).drew, ?_, ?_⟩
  · show (((w.alloc (.cells X 38)).alloc (.cells Y 38)).alloc (.cells Z 38)).heap[w.heap.size + 1]? = _
    rw [Below.heap_alloc _ _ _ (by simp)]
    simpa using h2
  · show (((w.alloc (.cells X 38)).alloc (.cells Y 38)).alloc (.cells Z 38)).heap[w.heap.size + 1 + 1]? = _
    simpa using h3

set_option maxHeartbeats 4000000 in
theorem readBatch129 (ck cn : Int) (cs : ByteArray) (cl : List C) (l : List ByteArray) (w : World) (h : BatOk (.mk ck cn cs cl) l) (hs : (putS (batC (.mk ck cn cs cl) l)).size ≤ 1000000000) :
    Calls Tryz.prog 129 #[.string (putS (batC (.mk ck cn cs cl) l))] w fun e w' => ∃ A n cap v, e = .returned (.tuple #[.agg #[.int .i64 ck, .int .i64 cn, .string cs, .slice A n cap], v, .bool true]) ∧ LIn w' (fun b => w.heap.size ≤ b ∧ L4.T38 w' b) 16 (.slice A n cap) cl ∧ w'.ownsRow w.heap.size 9 1 v l.length (L6.strs l) ∧ Below w.heap.size w w' := by
  have HLEN := Lib.hid h.len
  have hb0 : Below w.heap.size w (w.alloc (.cells #[.int .i64 0, .int .i64 0, .string ⟨#[]⟩, .slice none 0 0] 38)) := (Below.refl _ _).alloc (Nat.le_refl _) _
  have HT := Lib.hid (L4.take21 (putS (batC (.mk ck cn cs cl) l)) (w.alloc (.cells #[.int .i64 0, .int .i64 0, .string ⟨#[]⟩, .slice none 0 0] 38)) hs)
  rw [h.take] at HT
  have HH := Lib.hid h
  have HP0 := Lib.hid (heap_alloc_new w (.cells #[.int .i64 0, .int .i64 0, .string ⟨#[]⟩, .slice none 0 0] 38))
  generalize putS (batC (.mk ck cn cs cl) l) = S at HT ⊢
  have HB := Lib.hid hb0
  clear h hs hb0
  go_enter Tryz.func129, Tryz.ntmps129
  go_wp2_with fail
  refine HT.out.mono ?_
  rintro _ w2 ⟨u, rfl, hl, hb2⟩
  have HB2 := Lib.hid (HB.out.trans (hb2.mono HB.out.size))
  have HP2 := Lib.hid ((hb2.block w.heap.size (by simp)).trans HP0.out)
  have hl2 : LIn w2 (fun b => w.heap.size + 1 ≤ b ∧ L4.T38 w2 b) 16 u [.mk ck cn cs cl, listC (l.map textC)] := by
    have := hl
    simp only [World.size_alloc] at this
    exact this
  obtain ⟨Au, cu, rfl, -, hcm, hr⟩ := hl2
  obtain ⟨b, o, rfl, hb, hr⟩ := hr (by simp)
  obtain ⟨u0, r0, -, s0⟩ := hr 0 (by simp)
  obtain ⟨u1, r1, -, s1⟩ := hr 1 (by simp)
  clear hr hl HT HB HP0
  simp only [List.getElem_cons_zero, List.getElem_cons_succ, Nat.zero_mul, Nat.add_zero, Nat.one_mul] at r0 r1 s0 s1
  obtain ⟨c0, c1, c2, c3⟩ := r0
  obtain ⟨c4, c5, c6, c7⟩ := r1
  unfold batC L4.cellV listC
  simp only [L4.k_mk, L4.n_mk, L4.s_mk, L4.l_mk, listC] at c0 c1 c2 c3 c4 c5 c6 c7 s0 s1 ⊢
  obtain ⟨A0, cp0, rfl⟩ := (LIn.lat (fun b hb => hb.2.lt) s0).slice
  obtain ⟨A1, cp1, rfl⟩ := (LIn.lat (fun b hb => hb.2.lt) s1).slice
  have HL0 : Hid (LAt w2 w2.heap.size 15 (.slice A0 cl.length cp0) cl) := LIn.lat (fun b hb => hb.2.lt) s0
  have HL1 : Hid (LAt w2 w2.heap.size 15 (.slice A1 (l.map textC).length cp1) (l.map textC)) := LIn.lat (fun b hb => hb.2.lt) s1
  have HLT : Hid (w.heap.size < w2.heap.size) := by have := hb2.size; simp at this; unfold Hid; omega
  have HLI := Lib.hid s0
  clear s0 s1 hb2
  have hbl : b < w2.heap.size := hb.2.lt
  have hbl1 : b < w2.heap.size + 1 := by omega
  have hbl2 : b < w2.heap.size + 1 + 1 := by omega
  have hbl3 : b < w2.heap.size + 2 := by omega
  have hbn0 : b ≠ w2.heap.size := by omega
  have hbn1 : b ≠ w2.heap.size + 1 := by omega
  have hbn2 : b ≠ w2.heap.size + 1 + 1 := by omega
  have hbn3 : b ≠ w2.heap.size + 2 := by omega
  clear hb
  go_wp2_with fail
  have HE : Hid (∀ (X Y : Array Value) (W : World), W = (((w2.alloc (.cells #[.int .i64 3, .int .i64 0, .string ⟨#[]⟩, .slice (some ⟨b, o, none⟩) 2 cu] 38)).alloc (.cells X 38)).alloc (.cells Y 38)).drew → Below w2.heap.size w2 W ∧ W.heap[w2.heap.size + 1]? = some (.cells X 38 (0, 0)) ∧ W.heap[w2.heap.size + 1 + 1]? = some (.cells Y 38 (0, 0))) := fun X Y W h => three w2 _ _ _ W h
  go_cut [7, 8] from 31 (fun s7 s8 wx => ∃ p7 p8, s7 = .pointer (some ⟨p7, 0, none⟩) ∧ s8 = .pointer (some ⟨p8, 0, none⟩) ∧ w2.heap.size ≤ p7 ∧ w2.heap.size ≤ p8 ∧ Hid (Below w2.heap.size w2 wx) ∧ Hid (wx.heap[p7]? = some (.cells #[.int .i64 ck, .int .i64 cn, .string cs, .slice A0 cl.length cp0] 38 (0, 0))) ∧ Hid (wx.heap[p8]? = some (.cells #[.int .i64 3, .int .i64 0, .string ⟨#[]⟩, .slice A1 (l.map textC).length cp1] 38 (0, 0))))
  case first =>
    go_region
    · go_wp2_with fail
      go_meet
      case rel =>
        refine ⟨_, _, rfl, rfl, by omega, by omega, (HE.out #[.int .i64 ck, .int .i64 cn, .string cs, .slice A0 cl.length cp0] #[.int .i64 3, .int .i64 0, .string ⟨#[]⟩, .slice A1 l.length cp1] _ rfl).1, (HE.out #[.int .i64 ck, .int .i64 cn, .string cs, .slice A0 cl.length cp0] #[.int .i64 3, .int .i64 0, .string ⟨#[]⟩, .slice A1 l.length cp1] _ rfl).2.1, ?_⟩
        rw [List.length_map]; exact (HE.out #[.int .i64 ck, .int .i64 cn, .string cs, .slice A0 cl.length cp0] #[.int .i64 3, .int .i64 0, .string ⟨#[]⟩, .slice A1 l.length cp1] _ rfl).2.2
    · go_wp2_with fail
      go_meet
      case rel =>
        refine ⟨_, _, rfl, rfl, by omega, by omega, (HE.out #[.int .i64 3, .int .i64 0, .string ⟨#[]⟩, .slice A1 l.length cp1] #[.int .i64 ck, .int .i64 cn, .string cs, .slice A0 cl.length cp0] _ rfl).1, (HE.out #[.int .i64 3, .int .i64 0, .string ⟨#[]⟩, .slice A1 l.length cp1] #[.int .i64 ck, .int .i64 cn, .string cs, .slice A0 cl.length cp0] _ rfl).2.2, ?_⟩
        rw [List.length_map]; exact (HE.out #[.int .i64 3, .int .i64 0, .string ⟨#[]⟩, .slice A1 l.length cp1] #[.int .i64 ck, .int .i64 cn, .string cs, .slice A0 cl.length cp0] _ rfl).2.1
  case rest =>
    obtain ⟨p7, p8, rfl, rfl, hp7, hp8, HBC, H7, H8⟩ := hcut
    clear HE c0 c1 c2 c3 c4 c5 c6 c7 hbl hbl1 hbl2 hbl3 hbn0 hbn1 hbn2 hbn3
    have d0 : wc.cell? ⟨p7, 0, none⟩ = some (.int .i64 ck) := L6.cell_row H7.out rfl
    have d1 : wc.cell? ⟨p7, 1, none⟩ = some (.int .i64 cn) := L6.cell_row H7.out rfl
    have d2 : wc.cell? ⟨p7, 2, none⟩ = some (.string cs) := L6.cell_row H7.out rfl
    have d3 : wc.cell? ⟨p7, 3, none⟩ = some (.slice A0 cl.length cp0) := L6.cell_row H7.out rfl
    have hmb := mayBegin77 15 ck cn cs cl (.slice A0 cl.length cp0) wc (HL0.out.step HBC.out)
    rw [HH.out.c1, decide_eq_true HH.out.c2] at hmb
    have HM : Hid (Calls Tryz.prog 77 #[.agg #[.int .i64 ck, .int .i64 cn, .string cs, .slice A0 cl.length cp0]] wc fun e w' => e = .returned (.bool true) ∧ Below wc.heap.size wc w') := hmb
    clear hmb
    go_wp2_with fail
    refine HM.out.mono ?_
    rintro _ w3 ⟨rfl, hb3⟩
    have HB3 := Lib.hid (HBC.out.trans (hb3.mono HBC.out.size))
    have H73 := Lib.hid ((hb3.block p7 (Array.getElem?_eq_some_iff.1 H7.out).1).trans H7.out)
    have h83 := (hb3.block p8 (Array.getElem?_eq_some_iff.1 H8.out).1).trans H8.out
    have H83 := Lib.hid h83
    have e0 : w3.cell? ⟨p8, 0, none⟩ = some (.int .i64 3) := L6.cell_row h83 rfl
    have e3 : w3.cell? ⟨p8, 3, none⟩ = some (.slice A1 (l.map textC).length cp1) := L6.cell_row h83 rfl
    obtain ⟨i9, hi9, hz0, hz1, hz2⟩ := L6.info9
    obtain ⟨w4, hm, ho, hg⟩ := run_make_full (P := Tryz.prog) w3 w.heap.size 25 9 i9 _ 1 Tryz.underlying25 hi9 hz0 hz1 .i64 .i64 l.length (by have := HLEN.out; rw [hz2]; omega) (by have := HLEN.out; unfold maxLen; omega) (Nat.le_trans HB2.out.size HB3.out.size)
    obtain ⟨g, hgg⟩ : ∃ g, w3.heap.size = g := ⟨_, rfl⟩
    have hb4 : Below w3.heap.size w3 w4 := (Below.refl _ _).grown hg (Nat.le_refl _) (fun k hk => by cases hk)
    have HB4 := Lib.hid (HB3.out.trans (hb4.mono HB3.out.size))
    have H74 := Lib.hid ((hb4.block p7 (Array.getElem?_eq_some_iff.1 H73.out).1).trans H73.out)
    have H84 := Lib.hid ((hb4.block p8 (Array.getElem?_eq_some_iff.1 H83.out).1).trans H83.out)
    rw [hgg] at hm ho
    have HG : Hid (w2.heap.size ≤ g) := by rw [← hgg]; exact HB3.out.size
    have HO : Hid (w4.ownsRow w.heap.size 9 1 (.slice (some ⟨g, 0, none⟩) l.length l.length) l.length (strK l 0)) := by
      have e : (madeCells (Value.string ByteArray.empty).cells (l.length * 1)).toList = strK l 0 := by
        rw [show (Value.string ByteArray.empty).cells = #[Value.string ByteArray.empty] from rfl, toList_madeCells_one, Nat.mul_one]
        simp [strK, L6.strs]
      rw [← e]; exact ho
    have f3 : w4.cell? ⟨p8, 3, none⟩ = some (.slice A1 (l.map textC).length cp1) := L6.cell_row H84.out rfl
    rw [List.length_map] at e3 f3
    have HL1' : Hid (LAt w2 w2.heap.size 15 (.slice A1 l.length cp1) (l.map textC)) := by have := HL1.out; rw [List.length_map] at this; exact this
    clear d0 d1 d2 d3 hb3 h83 HM HBC H7 H8 HB3 H73 H83 ho hg hb4 hgg hi9 hz0 hz1 hz2 HL1
    obtain ⟨n, hn⟩ : ∃ n, l.length = n := ⟨_, rfl⟩
    have HN := Lib.hid hn
    rw [hn] at hm HO e3 f3 HL1' HLEN
    clear hn
    go_wp2_with fail
    clear hm e0 e3 f3
    go_loopw [55] (fun s55 wr => ∃ k : Nat, k ≤ n ∧ s55 = .int .i64 k ∧ Hid (wr.ownsRow w.heap.size 9 1 (.slice (some ⟨g, 0, none⟩) n n) n (strK l k)) ∧ Hid (Below w2.heap.size w2 wr) ∧ Hid (wr.heap[p7]? = some (.cells #[.int .i64 ck, .int .i64 cn, .string cs, .slice A0 cl.length cp0] 38 (0, 0)))) (fun s55 _ => n - (intOf s55).toNat)
    case atStart => exact ⟨0, Nat.zero_le _, rfl, HO, HB4, H74⟩
    case round =>
      obtain ⟨k, hk, rfl, HOR, HBR, H7R⟩ := hrel
      clear HO HB4 H74 H84
      have hn4 : n ≤ 4095 := HLEN.out
      by_cases hlt : k < n
      · have hkl : k < l.length := by rw [HN.out]; exact hlt
        have hkt : k < (l.map textC).length := by rw [List.length_map]; exact hkl
        obtain ⟨A', cap', e', -, -, h3⟩ := HL1'.out
        injection e' with e1 e2 e3
        subst e1 e3
        obtain ⟨b1, o1, rfl, hb1, hr⟩ := h3 (by omega)
        obtain ⟨u, hr, -, hsub⟩ := hr k hkt
        have hset := strK_set l k hkl
        rw [List.getElem_map] at hr hsub
        generalize l[k] = s at hr hset hsub
        obtain ⟨c0, c1, c2, c3⟩ := hr
        unfold textC at c0 c1 c2 hsub
        simp only [L4.k_mk, L4.n_mk, L4.s_mk, L4.l_mk] at c0 c1 c2 c3 hsub
        obtain ⟨A2, cap2, rfl⟩ := hsub.slice
        have q := fun j => HBR.out.cell (p := ⟨b1, j, none⟩) hb1
        replace c0 := (q _).trans c0
        replace c1 := (q _).trans c1
        replace c2 := (q _).trans c2
        replace c3 := (q _).trans c3
        simp only [List.length_nil] at c3
        have hbx : Below wr.heap.size wr (wr.alloc (.cells #[.int .i64 2, .int .i64 0, .string s, .slice A2 0 cap2] 38)) := (Below.refl _ _).alloc (Nat.le_refl _) _
        have HSET := Lib.hid hset
        have HBX := Lib.hid hbx
        have hO2 : (wr.alloc (.cells #[.int .i64 2, .int .i64 0, .string s, .slice A2 0 cap2] 38)).ownsRow w.heap.size 9 1 (.slice (some ⟨g, 0, none⟩) n n) n (strK l k) := HOR.out.alloc _
        have hst := hO2.stored k (.string s)
        have HO2 := Lib.hid hst.1
        have hck := (hO2.cellAt k (by omega)).trans (strK_get l k hkl)
        have hfk := hO2.frozenAt k
        have HLT2 : Hid (k < n) := hlt
        have HGL : Hid (w.heap.size < g) := Nat.lt_of_lt_of_le HLT.out HG.out
        have HB2' : Hid (Below w2.heap.size w2 ((wr.alloc (.cells #[.int .i64 2, .int .i64 0, .string s, .slice A2 0 cap2] 38)).setCell ⟨g, k, none⟩ (.string s))) := (HBR.out.trans (hbx.mono HBR.out.size)).setCell (show w2.heap.size ≤ g from HG.out) _
        have h7' : ((wr.alloc (.cells #[.int .i64 2, .int .i64 0, .string s, .slice A2 0 cap2] 38)).setCell ⟨g, k, none⟩ (.string s)).heap[p7]? = some (.cells #[.int .i64 ck, .int .i64 cn, .string cs, .slice A0 cl.length cp0] 38 (0, 0)) := by
          rw [Below.heap_setCell _ _ _ _ (ne7 hO2 (((hbx.block p7 (Array.getElem?_eq_some_iff.1 H7R.out).1).trans H7R.out)))]
          exact (hbx.block p7 (Array.getElem?_eq_some_iff.1 H7R.out).1).trans H7R.out
        have H7' := Lib.hid h7'
        have HO3 : Hid (((wr.alloc (.cells #[.int .i64 2, .int .i64 0, .string s, .slice A2 0 cap2] 38)).setCell ⟨g, k, none⟩ (.string s)).ownsRow w.heap.size 9 1 (.slice (some ⟨g, 0, none⟩) n n) n (strK l (k + 1))) := by
          unfold Hid
          rw [← HSET.out]; exact HO2.out
        clear h7' hst hO2 hbx hset q h3 e2 hsub HOR H7R hb1 hkt hkl HSET
        go_wp2_with fail
        go_roundw
        case rel => exact ⟨k + 1, HLT2.out, by go_num, HO3, HB2', H7'⟩
        case measure => have := HLT2.out; simp [intOf]; omega
      · have hkn : k = n := by omega
        subst hkn
        have HOE : Hid (wr.ownsRow w.heap.size 9 1 (.slice (some ⟨g, 0, none⟩) k k) k (L6.strs l)) := by
          have := HOR.out
          rw [← HN.out, strK_end, HN.out] at this
          exact this
        have f0 : wr.cell? ⟨p7, 0, none⟩ = some (.int .i64 ck) := L6.cell_row H7R.out rfl
        have f1 : wr.cell? ⟨p7, 1, none⟩ = some (.int .i64 cn) := L6.cell_row H7R.out rfl
        have f2 : wr.cell? ⟨p7, 2, none⟩ = some (.string cs) := L6.cell_row H7R.out rfl
        have f3 : wr.cell? ⟨p7, 3, none⟩ = some (.slice A0 cl.length cp0) := L6.cell_row H7R.out rfl
        have HPR := Lib.hid ((HBR.out.block _ HLT.out).trans HP2.out)
        have HLR : Hid (LIn (wr.setRow w.heap.size #[.int .i64 ck, .int .i64 cn, .string cs, .slice A0 cl.length cp0]) (fun b => w.heap.size ≤ b ∧ L4.T38 (wr.setRow w.heap.size #[.int .i64 ck, .int .i64 cn, .string cs, .slice A0 cl.length cp0]) b) 16 (.slice A0 cl.length cp0) cl) := by
          refine L4.LIn.up (HLI.out.keep (fun b hb => ⟨by have := hb.1; omega, ?_⟩) fun b o hb => L4.cell_same ((setRow_other _ _ _ _ (by have := hb.1; omega)).trans (HBR.out.block b hb.2.lt)) o) (show 15 ≤ 16 by omega)
          exact hb.2.keep ((setRow_other _ _ _ _ (by have := hb.1; omega)).trans (HBR.out.block b hb.2.lt))
        have HBE := Lib.hid (HB2.out.trans (HBR.out.mono HB2.out.size))
        have HG2 : Hid (w.heap.size < g) := Nat.lt_of_lt_of_le HLT.out HG.out
        have HSS := Lib.hid (L4.size_four ck cn cs A0 cl.length cp0)
        have HALL := Lib.hid (L4.all_one ck cn cs A0 cl.length cp0)
        clear HOR H7R HL1' HL0 HBR HB2 HP2 HLI
        go_wp2_with (refine wpList_store_row (P := Tryz.prog) rfl 38 _ _ rfl w.heap.size #[.int .i64 ck, .int .i64 cn, .string cs, .slice A0 cl.length cp0] rfl rfl 38 _ HPR.out HSS.out rfl HALL.out ?_)
        refine bodyPost_ret (results129 _ _ w.heap.size ck cn cs A0 cl.length cp0 ?hp2 (setRow_heap _ w.heap.size _ _ 38 (0, 0) HPR.out)) rfl ?_
        case hp2 => rfl
        refine ⟨_, _, _, .slice (some ⟨g, 0, none⟩) k k, rfl, HLR.out, ?_, HBE.out.trans ⟨rfl, rfl, rfl, by rw [setRow_size]; exact Nat.le_refl _, fun k hk => setRow_other _ _ _ _ (by omega)⟩⟩
        rw [HN.out]
        exact L6.row_keep HOE.out (fun j hj => by
          have hj' : g = j := by simpa [Value.ownBlock] using hj
          have := HG2.out
          exact setRow_other _ _ _ _ (by omega))
end Go.Proofs.YtjanddnlhaionaaGreatDoor
