/-
  The contract of readCell. No condition but bounds on lengths.
-/
import Derived.Test.YtdmalkkpcggifaaL
namespace Go.Proofs.Ytdmalkkpcggifaa
open Go.RowKit

theorem cut_one {s : ByteArray} {p : Nat} {b : UInt8} {r : List UInt8} (h : s.data.toList.drop p = b :: r) : ∃ t, cutS s p 1 = t ∧ t.size = 1 ∧ ∀ (h0 : 0 < t.size), t[0] = b := by
  refine ⟨⟨[b].toArray⟩, ?_, rfl, fun _ => rfl⟩
  unfold cutS
  rw [h]
  rfl

theorem meth88 (a b : Int) (w : World) : (method 213 88 (.agg #[.int .i64 a, .int .u64 b]) "fasti/cell.limits").run Try.prog w = .ok (62, .agg #[.int .i64 a, .int .u64 b]) w := by kernel_rfl
theorem meth89 (a b : Int) (w : World) : (method 213 89 (.agg #[.int .i64 a, .int .u64 b]) "fasti/cell.limits").run Try.prog w = .ok (62, .agg #[.int .i64 a, .int .u64 b]) w := by kernel_rfl
theorem meth90 (a b : Int) (w : World) : (method 213 90 (.agg #[.int .i64 a, .int .u64 b]) "fasti/cell.limits").run Try.prog w = .ok (62, .agg #[.int .i64 a, .int .u64 b]) w := by kernel_rfl
theorem meth95 (a b : Int) (w : World) : (method 213 95 (.agg #[.int .i64 a, .int .u64 b]) "fasti/cell.limits").run Try.prog w = .ok (62, .agg #[.int .i64 a, .int .u64 b]) w := by kernel_rfl
theorem as88_88 (a b : Int) (w : World) : (Instr.typeAssert (.iface 88 (.agg #[.int .i64 a, .int .u64 b])) 79 88 true).run Try.prog w = .ok (.tuple #[.agg #[.int .i64 a, .int .u64 b], .bool true]) w := by kernel_rfl
theorem as89_88 (a b : Int) (w : World) : (Instr.typeAssert (.iface 89 (.agg #[.int .i64 a, .int .u64 b])) 79 88 true).run Try.prog w = .ok (.tuple #[.agg #[.int .i64 0, .int .u64 0], .bool false]) w := by kernel_rfl
theorem as89_89 (a b : Int) (w : World) : (Instr.typeAssert (.iface 89 (.agg #[.int .i64 a, .int .u64 b])) 79 89 true).run Try.prog w = .ok (.tuple #[.agg #[.int .i64 a, .int .u64 b], .bool true]) w := by kernel_rfl
theorem as90_88 (a b : Int) (w : World) : (Instr.typeAssert (.iface 90 (.agg #[.int .i64 a, .int .u64 b])) 79 88 true).run Try.prog w = .ok (.tuple #[.agg #[.int .i64 0, .int .u64 0], .bool false]) w := by kernel_rfl
theorem as90_89 (a b : Int) (w : World) : (Instr.typeAssert (.iface 90 (.agg #[.int .i64 a, .int .u64 b])) 79 89 true).run Try.prog w = .ok (.tuple #[.agg #[.int .i64 0, .int .u64 0], .bool false]) w := by kernel_rfl
theorem as90_90 (a b : Int) (w : World) : (Instr.typeAssert (.iface 90 (.agg #[.int .i64 a, .int .u64 b])) 79 90 true).run Try.prog w = .ok (.tuple #[.agg #[.int .i64 a, .int .u64 b], .bool true]) w := by kernel_rfl
theorem as95_88 (a b : Int) (w : World) : (Instr.typeAssert (.iface 95 (.agg #[.int .i64 a, .int .u64 b])) 79 88 true).run Try.prog w = .ok (.tuple #[.agg #[.int .i64 0, .int .u64 0], .bool false]) w := by kernel_rfl
theorem as95_89 (a b : Int) (w : World) : (Instr.typeAssert (.iface 95 (.agg #[.int .i64 a, .int .u64 b])) 79 89 true).run Try.prog w = .ok (.tuple #[.agg #[.int .i64 0, .int .u64 0], .bool false]) w := by kernel_rfl
theorem as95_90 (a b : Int) (w : World) : (Instr.typeAssert (.iface 95 (.agg #[.int .i64 a, .int .u64 b])) 79 90 true).run Try.prog w = .ok (.tuple #[.agg #[.int .i64 0, .int .u64 0], .bool false]) w := by kernel_rfl
theorem CellTo.made {R : Nat} {s : ByteArray} {left : Nat} {w wr : World} {q : Nat} {c : C} {u : Value} {o : Obj} {cs : Array Value} {rest : List UInt8} (hg : (w.alloc o).grownBy wr (some R)) (hr : RdAt wr R s q) (hR : R < w.heap.size) (hq : s.size - rest.length = q)
    (hL : LIn wr (fun b => w.heap.size + 1 ≤ b ∧ b < wr.heap.size) left u c.l) : CellTo R s left w (.ok c rest) (.returned (cellV c u)) (wr.setRow w.heap.size cs) := by
  refine ⟨grown_row (grown_trans (World.grownBy_alloc w _ _) hg) _ (Nat.le_refl _) _, u, rfl, ?_, ?_⟩
  · rw [setRow_size]
    exact hL.keep (fun b hb => ⟨by omega, hb.2⟩) fun b o' hb => cell_same (setRow_other _ _ _ _ (by omega)) o'
  · rw [hq]
    unfold RdAt
    rw [setRow_other _ _ _ _ (by omega)]
    exact hr
theorem row_kept {R : Nat} {w wr : World} {cs : Array Value} (hg : (w.alloc (.cells cs 25)).grownBy wr (some R)) (hR : R < w.heap.size) : wr.heap[w.heap.size]? = some (.cells cs 25 (0, 0)) := by
  rw [hg.block w.heap.size (by simp) (fun e => by injection e with e; omega)]
  exact heap_alloc_new w _
theorem all_one (k n : Int) (s : ByteArray) (A : Option Addr) (l cap : Nat) : (#[Value.int .i64 k, .int .i64 n, .string s, .slice A l cap]).all (·.oneCell') = true := by simp [Value.oneCell']
theorem size_four (k n : Int) (s : ByteArray) (A : Option Addr) (l cap : Nat) : (Try.prog.info? 25).map (·.size) = some (#[Value.int .i64 k, .int .i64 n, .string s, .slice A l cap]).size := size25
theorem method_run (m wd : Nat) (w : World) (hm : m = 1 ∨ m = 2 ∨ m = 3 ∨ m = 4) : (method 213 (tyOf m) (headV m wd) "fasti/cell.limits").run Try.prog w = .ok (62, headV m wd) w := by
  rcases hm with rfl | rfl | rfl | rfl
  · exact meth88 _ _ w
  · exact meth89 _ _ w
  · exact meth90 _ _ w
  · exact meth95 _ _ w

set_option maxRecDepth 100000 in
set_option maxHeartbeats 1600000 in
theorem readCell31 (R : Nat) (s : ByteArray) (hs : s.size ≤ 1000000000) (left : Nat) : ∀ (level p : Nat) (w : World), RdAt w R s p → p ≤ s.size → level + left = 17 →
    Calls Try.prog 31 #[.pointer (some ⟨R, 0, none⟩), .int .i64 level] w (CellTo R s left w (parse left (s.data.toList.drop p))) := by
  induction left with
  | zero =>
    intro level p w h hp hll
    have c1 := h.c1
    have HR := Lib.hid h
    have hRl := h.lt
    clear h
    cases hx : s.data.toList.drop p with
    | nil =>
      have hps : p = s.size := by have := congrArg List.length hx; rw [List.length_drop, size_data] at this; simp at this; omega
      subst hps
      have HC := Lib.hid (readBytes41_short R s.size 1 s (w.alloc (.cells #[.int .i64 0, .int .i64 0, .string ⟨#[]⟩, .slice none 0 0] 25)) (HR.out.alloc _) (Nat.le_refl _) (by omega) (by omega))
      rw [parse_nil]
      clear hx
      go_enter Try.func31, Try.ntmps31
      go_wp2_with fail
      refine HC.out.mono ?_
      rintro e w' ⟨rfl, hg⟩
      refine ⟨rfl, grown_trans (World.grownBy_alloc w _ _) hg, ?_⟩
      show Fails _ _ _
      simp [Fails]
    | cons b r =>
      have hps : s.size = p + (r.length + 1) := by have := congrArg List.length hx; rw [List.length_drop, size_data] at this; simp at this; omega
      have hbl := b.toNat_lt
      have HC := Lib.hid (readBytes41 R p 1 s (w.alloc (.cells #[.int .i64 0, .int .i64 0, .string ⟨#[]⟩, .slice none 0 0] 25)) (HR.out.alloc _) (by omega) hs)
      obtain ⟨t, ht, hts, ht0⟩ := cut_one hx
      rw [ht] at HC
      have ht0' : ((t[0]'(by omega)).toNat : Int) = (b.toNat : Int) := by rw [ht0]
      have HX := Lib.hid hx
      have HM := Lib.hid (fun w => meaningOf40 b.toNat hbl w)
      rw [parse_zero]
      have hm16 : b.toNat / 16 < 16 := by omega
      have hw16 : b.toNat % 16 < 16 := by omega
      generalize b.toNat / 16 = m at HM hm16 ⊢
      generalize b.toNat % 16 = wd at HM hw16 ⊢
      obtain ⟨q, hq⟩ : ∃ q, PR.bad (r.length + 1) (if headOk m wd = true then 5 else 4) = q := ⟨_, rfl⟩
      rw [hq]
      have HQ := Lib.hid hq
      generalize b.toNat = bn at ht0' HM hbl
      clear ht0 ht hx hq
      go_enter Try.func31, Try.ntmps31
      go_wp2_with fail
      refine HC.out.mono ?_
      rintro e w2 ⟨rfl, hR2, hg2⟩
      have hsz2 := hg2.size
      have HG2 := Lib.hid hg2
      have HR2 := Lib.hid hR2
      clear hg2 hR2 HC
      go_wp2_with fail
      refine (HM.out w2).mono ?_
      rintro e w2' ⟨rfl, rfl⟩
      have hlv : (16 : Int) < level := by omega
      by_cases hh : headOk m wd = true
      · have hmv : meaningV m wd = .iface (tyOf m) (headV m wd) := by unfold meaningV; rw [if_pos hh]
        rw [hmv]
        rw [Hid, if_pos hh] at HQ
        subst HQ
        clear hh hmv
        go_wp2_with fail
        refine ⟨rfl, grown_trans (World.grownBy_alloc w _ _) HG2.out, ?_⟩
        show Fails _ _ _
        rw [show (s.size : Int) - ((r.length + 1 : Nat) : Int) = p by omega]
        rfl
      · have hmv : meaningV m wd = .nilIface := by unfold meaningV; rw [if_neg hh]
        rw [hmv]
        rw [Hid, if_neg hh] at HQ
        subst HQ
        clear hh hmv
        go_wp2_with fail
        refine ⟨rfl, grown_trans (World.grownBy_alloc w _ _) HG2.out, ?_⟩
        show Fails _ _ _
        rw [show (s.size : Int) - ((r.length + 1 : Nat) : Int) = p by omega]
        rfl
  | succ left ih =>
    intro level p w h hp hll
    have c1 := h.c1
    have HR := Lib.hid h
    have hRl := h.lt
    have HIH := Lib.hid ih
    clear h ih
    cases hx : s.data.toList.drop p with
    | nil =>
      have hps : p = s.size := by have := congrArg List.length hx; rw [List.length_drop, size_data] at this; simp at this; omega
      subst hps
      have HC := Lib.hid (readBytes41_short R s.size 1 s (w.alloc (.cells #[.int .i64 0, .int .i64 0, .string ⟨#[]⟩, .slice none 0 0] 25)) (HR.out.alloc _) (Nat.le_refl _) (by omega) (by omega))
      rw [parse_nil]
      clear hx
      go_enter Try.func31, Try.ntmps31
      go_wp2_with fail
      refine HC.out.mono ?_
      rintro e w' ⟨rfl, hg⟩
      refine ⟨rfl, grown_trans (World.grownBy_alloc w _ _) hg, ?_⟩
      show Fails _ _ _
      simp [Fails]
    | cons b r =>
      have hps : s.size = p + (r.length + 1) := by have := congrArg List.length hx; rw [List.length_drop, size_data] at this; simp at this; omega
      have hbl := b.toNat_lt
      have HC := Lib.hid (readBytes41 R p 1 s (w.alloc (.cells #[.int .i64 0, .int .i64 0, .string ⟨#[]⟩, .slice none 0 0] 25)) (HR.out.alloc _) (by omega) hs)
      obtain ⟨t, ht, hts, ht0⟩ := cut_one hx
      rw [ht] at HC
      have ht0' : ((t[0]'(by omega)).toNat : Int) = (b.toNat : Int) := by rw [ht0]
      have HX := Lib.hid hx
      have HM := Lib.hid (fun w => meaningOf40 b.toNat hbl w)
      rw [parse_succ]
      have hm16 : b.toNat / 16 < 16 := by omega
      have hw16 : b.toNat % 16 < 16 := by omega
      generalize b.toNat / 16 = m at HM hm16 ⊢
      generalize b.toNat % 16 = wd at HM hw16 ⊢
      obtain ⟨q, hq⟩ : ∃ q, (if headOk m wd = true then based (parse left) m wd r else PR.bad (r.length + 1) 4) = q := ⟨_, rfl⟩
      rw [hq]
      have HQ := Lib.hid hq
      generalize b.toNat = bn at ht0' HM hbl
      clear ht0 ht hx hq
      go_enter Try.func31, Try.ntmps31
      go_wp2_with fail
      refine HC.out.mono ?_
      rintro e w2 ⟨rfl, hR2, hg2⟩
      have hsz2 := hg2.size
      have HG2 := Lib.hid hg2
      have HR2 := Lib.hid hR2
      clear hg2 hR2 HC
      go_wp2_with fail
      refine (HM.out w2).mono ?_
      rintro e w2' ⟨rfl, rfl⟩
      by_cases hh : headOk m wd = true
      · have hmv : meaningV m wd = .iface (tyOf m) (headV m wd) := by unfold meaningV; rw [if_pos hh]
        rw [hmv]
        rw [Hid, if_pos hh] at HQ
        replace HQ := Lib.hid HQ
        have hlv : ¬ (16 : Int) < level := by omega
        have hmt := method_run m wd w2 (headOk_m hh)
        have hwd8 := headOk_lt hh
        have hr : s.data.toList.drop (p + 1) = r := by
          have := congrArg (List.drop 1) HX.out
          rw [List.drop_drop] at this
          simpa using this
        have HLM := Lib.hid (limits62 wd (mostOf m) w2)
        have HHH := Lib.hid hh
        clear hh hmv
        go_wp2_with fail
        refine HLM.out.mono ?_
        rintro e w3 ⟨rfl, hb3⟩
        have HR3 := Lib.hid (HR2.out.below hb3)
        have HG3 := Lib.hid (grown_trans HG2.out (grown_of_below hb3 (some R)))
        have hsz3 := hb3.size
        clear hb3 HR2 HG2 HLM hmt
        rw [Hid] at HQ
        unfold based at HQ
        by_cases hsh : r.length < wd
        · rw [if_pos hsh] at HQ
          subst HQ
          have HB := Lib.hid (readBase42_short R (p + 1) wd (mostOf m) p s w3 HR3.out (by omega) (by omega) hwd8)
          clear hr
          go_wp2_with fail
          refine HB.out.mono ?_
          rintro e w4 ⟨rfl, hg4⟩
          refine ⟨rfl, grown_trans (grown_trans (World.grownBy_alloc w _ _) HG3.out) hg4, ?_⟩
          show Fails _ _ _
          simp [Fails]
        rw [if_neg hsh] at HQ
        have hB := readBase42 R (p + 1) wd (mostOf m) p s w3 HR3.out (by omega) hs hwd8 (mostOf_lt m) (r.take wd) (by rw [hr])
        have HB : Hid (Calls Try.prog 42 #[.pointer (some ⟨R, 0, none⟩), .int .i64 p, .agg #[.int .i64 wd, .int .u64 (mostOf m)]] w3 fun e w' =>
            w3.grownBy w' (some R) ∧ if baseBad m (r.take wd) = true then Fails p 4 e else e = .returned (.int .i64 (beN (r.take wd) : Nat)) ∧ RdAt w' R s (p + 1 + wd)) := hB
        clear hB
        by_cases hbb : baseBad m (r.take wd) = true
        · rw [if_pos hbb] at HQ
          subst HQ
          rw [hbb] at HB
          clear hr hbb
          go_wp2_with fail
          refine HB.out.mono ?_
          rintro e w4 ⟨hg4, rfl⟩
          refine ⟨rfl, grown_trans (grown_trans (World.grownBy_alloc w _ _) HG3.out) hg4, ?_⟩
          show Fails _ _ _
          rw [show (s.size : Int) - ((r.length + 1 : Nat) : Int) = p by omega]
          rfl
        rw [if_neg hbb] at HQ
        replace hbb := Bool.eq_false_iff.2 hbb
        rw [hbb] at HB
        have hmb := (baseBad_back hbb (by rw [List.length_take]; omega)).2
        have hmm := mostOf_lt m
        obtain ⟨x, hx⟩ : ∃ x, beN (r.take wd) = x := ⟨_, rfl⟩
        obtain ⟨r', hr'⟩ : ∃ r', r.drop wd = r' := ⟨_, rfl⟩
        have hrl : r.length = wd + r'.length := by rw [← hr', List.length_drop]; omega
        have HRD : Hid (s.data.toList.drop (p + 1 + wd) = r') := by unfold Hid; rw [← hr', ← hr, List.drop_drop]
        rw [hx] at HB hmb HQ
        rw [hr'] at HQ
        replace HQ := Lib.hid HQ
        clear hr hr' hx hbb hlv
        go_wp2_with fail
        refine HB.out.mono ?_
        rintro e w4 ⟨hg4, rfl, hR4⟩
        have HR4 := Lib.hid hR4
        have HG4 := Lib.hid (grown_trans HG3.out hg4)
        have hsz4 := hg4.size
        have hw1 : (w.alloc (.cells #[.int .i64 0, .int .i64 0, .string ⟨#[]⟩, .slice none 0 0] 25)).heap.size = w.heap.size + 1 := by simp
        rw [hw1] at hsz2
        clear hg4 hR4 HB HG3 HR3
        have hm4 := headOk_m HHH.out
        rcases hm4 with rfl | rfl | rfl | rfl
        · rw [show tyOf 1 = 88 from rfl]
          unfold headV
          have a1 := as88_88 wd (mostOf 1) w4
          have hq : q = .ok (.mk 1 (x) ⟨#[]⟩ []) r' := by rw [← HQ.out]; rfl
          subst hq
          have HN := Lib.hid (num16 (x) w4)
          have hxm : (x : Int) ≤ 9223372036854775807 := by omega
          clear HQ
          go_wp2_with fail
          refine HN.out.mono ?_
          rintro e w5 ⟨rfl, hb5⟩
          have HR5 := Lib.hid (HR4.out.below hb5)
          have HG5 := Lib.hid (grown_trans HG4.out (grown_of_below hb5 (some R)))
          have HB0 := Lib.hid (row_kept HG5.out hRl)
          have HALL := Lib.hid (all_one 1 (x) ⟨#[]⟩ none 0 0)
          have HSS := Lib.hid (size_four 1 (x) ⟨#[]⟩ none 0 0)
          clear hb5 HN HR4 HG4
          go_wp2_with (refine wpList_store_row (P := Try.prog) rfl 25 _ _ rfl w.heap.size #[.int .i64 1, .int .i64 x, .string ⟨#[]⟩, .slice none 0 0] rfl rfl 25 _ HB0.out HSS.out rfl HALL.out ?_)
          refine bodyPost_ret (results_cell_row (p := 4) (ty := 25) rfl _ _ w.heap.size 25 #[.int .i64 1, .int .i64 x, .string ⟨#[]⟩, .slice none 0 0] (0, 0) _ ?hp (setRow_heap _ w.heap.size _ _ 25 (0, 0) HB0.out) Try.underlying25 rfl (by exact HSS.out)) rfl ?_
          case hp => simp [Act.put]
          exact CellTo.made (c := .mk 1 (x) ⟨#[]⟩ []) HG5.out HR5.out hRl (by omega) (LIn.nil _ _ _)
        · rw [show tyOf 2 = 89 from rfl]
          unfold headV
          have a1 := as89_88 wd (mostOf 2) w4
          have a2 := as89_89 wd (mostOf 2) w4
          have hq : q = .ok (.mk 1 (-(x : Int) - 1) ⟨#[]⟩ []) r' := by rw [← HQ.out]; rfl
          subst hq
          have HN := Lib.hid (num16 (-(x : Int) - 1) w4)
          have hxm : (x : Int) ≤ 9223372036854775807 := by omega
          clear HQ
          go_wp2_with fail
          refine HN.out.mono ?_
          rintro e w5 ⟨rfl, hb5⟩
          have HR5 := Lib.hid (HR4.out.below hb5)
          have HG5 := Lib.hid (grown_trans HG4.out (grown_of_below hb5 (some R)))
          have HB0 := Lib.hid (row_kept HG5.out hRl)
          have HALL := Lib.hid (all_one 1 (-(x : Int) - 1) ⟨#[]⟩ none 0 0)
          have HSS := Lib.hid (size_four 1 (-(x : Int) - 1) ⟨#[]⟩ none 0 0)
          clear hb5 HN HR4 HG4
          go_wp2_with (refine wpList_store_row (P := Try.prog) rfl 25 _ _ rfl w.heap.size #[.int .i64 1, .int .i64 (-(x : Int) - 1), .string ⟨#[]⟩, .slice none 0 0] rfl rfl 25 _ HB0.out HSS.out rfl HALL.out ?_)
          refine bodyPost_ret (results_cell_row (p := 4) (ty := 25) rfl _ _ w.heap.size 25 #[.int .i64 1, .int .i64 (-(x : Int) - 1), .string ⟨#[]⟩, .slice none 0 0] (0, 0) _ ?hp (setRow_heap _ w.heap.size _ _ 25 (0, 0) HB0.out) Try.underlying25 rfl (by exact HSS.out)) rfl ?_
          case hp => simp [Act.put]
          exact CellTo.made (c := .mk 1 (-(x : Int) - 1) ⟨#[]⟩ []) HG5.out HR5.out hRl (by omega) (LIn.nil _ _ _)
        · rw [show tyOf 3 = 90 from rfl]
          unfold headV
          have a1 := as90_88 wd (mostOf 3) w4
          have a2 := as90_89 wd (mostOf 3) w4
          have a3 := as90_90 wd (mostOf 3) w4
          have hQ := HQ.out
          unfold body at hQ
          rw [if_neg (by omega), if_neg (by omega), if_pos rfl] at hQ
          clear HQ
          by_cases hsx : r'.length < x
          · rw [if_pos hsx] at hQ
            subst hQ
            have HB := Lib.hid (readBytes41_short R (p + 1 + wd) x s w4 HR4.out (by omega) (by omega) (by omega))
            go_wp2_with fail
            refine HB.out.mono ?_
            rintro e w5 ⟨rfl, hg5⟩
            refine ⟨rfl, grown_trans (grown_trans (World.grownBy_alloc w _ _) HG4.out) hg5, ?_⟩
            show Fails _ _ _
            simp [Fails]
          rw [if_neg hsx] at hQ
          have hB := readBytes41 R (p + 1 + wd) x s w4 HR4.out (by omega) hs
          obtain ⟨tx, htx⟩ : ∃ tx, (⟨(r'.take x).toArray⟩ : ByteArray) = tx := ⟨_, rfl⟩
          rw [show cutS s (p + 1 + wd) x = tx by unfold cutS; rw [HRD.out, htx]] at hB
          have HB := Lib.hid hB
          rw [htx] at hQ
          subst hQ
          have hrx : (r'.drop x).length = r'.length - x := List.length_drop
          have HRX := Lib.hid hrx
          clear hB htx hrx
          go_wp2_with fail
          refine HB.out.mono ?_
          rintro e w5 ⟨rfl, hR5, hg5⟩
          have HR5 := Lib.hid hR5
          have HG5 := Lib.hid (grown_trans HG4.out hg5)
          have HN := Lib.hid (text17 tx w5)
          clear hR5 hg5 HR4 HG4 HB
          go_wp2_with fail
          refine HN.out.mono ?_
          rintro e w6 ⟨rfl, hb6⟩
          have HR6 := Lib.hid (HR5.out.below hb6)
          have HG6 := Lib.hid (grown_trans HG5.out (grown_of_below hb6 (some R)))
          have HB0 := Lib.hid (row_kept HG6.out hRl)
          have HALL := Lib.hid (all_one 2 0 tx none 0 0)
          have HSS := Lib.hid (size_four 2 0 tx none 0 0)
          clear hb6 HN HR5 HG5
          go_wp2_with (refine wpList_store_row (P := Try.prog) rfl 25 _ _ rfl w.heap.size #[.int .i64 2, .int .i64 0, .string tx, .slice none 0 0] rfl rfl 25 _ HB0.out HSS.out rfl HALL.out ?_)
          refine bodyPost_ret (results_cell_row (p := 4) (ty := 25) rfl _ _ w.heap.size 25 #[.int .i64 2, .int .i64 0, .string tx, .slice none 0 0] (0, 0) _ ?hp (setRow_heap _ w.heap.size _ _ 25 (0, 0) HB0.out) Try.underlying25 rfl (by exact HSS.out)) rfl ?_
          case hp => simp [Act.put]
          exact CellTo.made (c := .mk 2 (0) tx []) HG6.out HR6.out hRl (by rw [HRX.out]; omega) (LIn.nil _ _ _)
        · rw [show tyOf 4 = 95 from rfl]
          unfold headV
          have a1 := as95_88 wd (mostOf 4) w4
          have a2 := as95_89 wd (mostOf 4) w4
          have a3 := as95_90 wd (mostOf 4) w4
          have hx4 : x ≤ 4095 := hmb
          have hQ := HQ.out
          unfold body at hQ
          rw [if_neg (by omega), if_neg (by omega), if_neg (by omega)] at hQ
          have hB := readList43 R s left HIH.out x (level + 1) (p + 1 + wd) w4 HR4.out (by omega) (by omega) hx4
          rw [HRD.out] at hB
          have hlw : IntKind.i64.wrap ((level : Int) + 1) = ((level + 1 : Nat) : Int) := by rw [IntWalk.i64_in _ (by omega)]; omega
          have HB := Lib.hid hB
          clear hB HQ hmb
          obtain ⟨rl, hrl2⟩ : ∃ rl, readsN (parse left) x r' = rl := ⟨_, rfl⟩
          have HRL := Lib.hid hrl2
          rw [hrl2] at HB hQ
          clear hrl2
          cases rl with
          | bad n z =>
            simp only at hQ
            subst hQ
            go_wp2_with fail
            refine HB.out.mono ?_
            rintro e w5 ⟨hg5, rfl⟩
            exact ⟨rfl, grown_trans (grown_trans (World.grownBy_alloc w _ _) HG4.out) hg5, rfl⟩
          | ok l rest =>
            simp only at hQ
            subst hQ
            go_wp2_with fail
            refine HB.out.mono ?_
            rintro e w6 ⟨hg6, u, rfl, hL, hR6⟩
            obtain ⟨A2, cap2, rfl⟩ := hL.slice
            have HL := Lib.hid (hL.keep (S' := fun b => w.heap.size + 1 ≤ b ∧ b < w6.heap.size) (fun b hb => ⟨by omega, hb.2⟩) fun _ _ _ => rfl)
            have HR6 := Lib.hid hR6
            have HG6 := Lib.hid (grown_trans HG4.out hg6)
            have HB0 := Lib.hid (row_kept HG6.out hRl)
            have HALL := Lib.hid (all_one 3 0 ⟨#[]⟩ A2 l.length cap2)
            have HSS := Lib.hid (size_four 3 0 ⟨#[]⟩ A2 l.length cap2)
            clear hg6 hR6 HR4 HG4 hL HB
            unfold cellV
            simp only [k_mk, n_mk, s_mk]
            go_wp2_with (refine wpList_store_row (P := Try.prog) rfl 25 _ _ rfl w.heap.size #[.int .i64 3, .int .i64 0, .string ⟨#[]⟩, .slice A2 l.length cap2] rfl rfl 25 _ HB0.out HSS.out rfl HALL.out ?_)
            refine bodyPost_ret (results_cell_row (p := 4) (ty := 25) rfl _ _ w.heap.size 25 #[.int .i64 3, .int .i64 0, .string ⟨#[]⟩, .slice A2 l.length cap2] (0, 0) _ ?hp (setRow_heap _ w.heap.size _ _ 25 (0, 0) HB0.out) Try.underlying25 rfl (by exact HSS.out)) rfl ?_
            case hp => simp [Act.put]
            exact CellTo.made (c := .mk 3 (0) ⟨#[]⟩ l) HG6.out HR6.out hRl rfl HL.out
      · have hmv : meaningV m wd = .nilIface := by unfold meaningV; rw [if_neg hh]
        rw [hmv]
        rw [Hid, if_neg hh] at HQ
        subst HQ
        clear hh hmv
        go_wp2_with fail
        refine ⟨rfl, grown_trans (World.grownBy_alloc w _ _) HG2.out, ?_⟩
        show Fails _ _ _
        rw [show (s.size : Int) - ((r.length + 1 : Nat) : Int) = p by omega]
        rfl
end Go.Proofs.Ytdmalkkpcggifaa
