/-
  Contract of take. No condition. Contract of visit. No condition. The contract of the iterator that sectors returns. No condition. Contracts of sectors and Scan. No condition. Contracts of Scan and Open over a drum, and over none. No condition.
-/
import Derived.Test.YtjanddnlhaionaaGreatDoorL6x2
import Derived.RangeFuncNested
import Derived.RangeFuncBound
import Derived.RangeFuncCalls
import Derived.RangeFuncLeaves
import Derived.Shelf.Abstract
import Derived.Shelf.RegionOpen
import Derived.WalkKit
import Derived.OwnWalkIn
import Derived.TacticsInMore
import Derived.LoopNIn
import Derived.LoopIn
import Derived.Sort.CutIn
import Derived.Sort.BigQuietIn
import Derived.Stop.RegionWithIn
import Derived.BigRegionIn
set_option maxRecDepth 100000
namespace Go.Proofs.YtjanddnlhaionaaGreatDoor.L6
open Go.RowKit

/-- The reader in the middle of take, and the sector in its box. -/
structure QS (w : World) (B r : Nat) (v1 v2 : Value) (s : Sec) (rd : Rd) (u1 u2 : Value) (W : World) : Prop where
  q : QIs W B r rd u1 u2
  s : W.heap[w.heap.size]? = some (.cells (secV s) 289 (0, 0))
  t : Turn (RF r v1 v2) w W
  g : ∀ k, RF r u1 u2 k → RF r v1 v2 k ∨ w.heap.size ≤ k
theorem QS.set {w : World} {B r : Nat} {v1 v2 : Value} {s : Sec} {rd rd' : Rd} {u1 u2 : Value} {W : World} (h : QS w B r v1 v2 s rd u1 u2 W) (j : Nat) (u : Value) (hr : rd'.recs = rd.recs) (hd : rd'.data = rd.data) (hu : (rdRow rd u1 u2).setIfInBounds j u = rdRow rd' u1 u2) : QS w B r v1 v2 s rd' u1 u2 (W.setCell ⟨r, j, none⟩ u) :=
  ⟨h.q.set j u hr hd hu, by rw [Below.heap_setCell _ _ _ _ (fun e => ty_ne h.s h.q.row (by decide) e)]; exact h.s, h.t.setCell _ _ (.inl (.inl rfl)), h.g⟩
theorem QS.drew {w : World} {B r : Nat} {v1 v2 : Value} {s : Sec} {rd : Rd} {u1 u2 : Value} {W : World} (h : QS w B r v1 v2 s rd u1 u2 W) : QS w B r v1 v2 s rd u1 u2 W.drew :=
  ⟨h.q.keep (fun _ _ => rfl), h.s, h.t.drew, h.g⟩
theorem QS.data' {w : World} {B r : Nat} {v1 v2 : Value} {s : Sec} {rd rd' : Rd} {u1 u2 u : Value} {W w4 : World} (h : QS w B r v1 v2 s rd u1 u2 W) (hg : W.grownBy w4 u2.ownBlock) (ho : w4.ownsRow B 5 1 u rd'.data.length (bytesV rd'.data)) (hat : ∀ k, u.ownBlock = some k → u2.ownBlock = some k ∨ W.heap.size ≤ k) (hr : rd'.recs = rd.recs) (hu : (rdRow rd u1 u2).setIfInBounds 7 u = rdRow rd' u1 u) : QS w B r v1 v2 s rd' u1 u (w4.setCell ⟨r, 7, none⟩ u) := by
  refine ⟨h.q.data' hg ho hr hu, ?_, ?_, ?_⟩
  · rw [Below.heap_setCell _ _ _ _ (fun e => ty_ne h.s h.q.row (by decide) e), hg.block _ (Array.getElem?_eq_some_iff.1 h.s).1 (fun e => ?_)]
    · exact h.s
    · obtain ⟨cs, hc⟩ := row_ty h.q.o2 e.symm
      exact ty_ne h.s hc (by decide) rfl
  · refine (h.t.trans (Turn.of_grown (F := fun k => u2.ownBlock = some k) hg (fun k e => e)) (fun k e => h.g k (.inr (.inr e)))).setCell _ _ (.inl (.inl rfl))
  · intro k hk
    rcases hk with hk | hk | hk
    · exact h.g k (.inl hk)
    · exact h.g k (.inr (.inl hk))
    · rcases hat k hk with h1 | h1
      · exact h.g k (.inr (.inr h1))
      · exact .inr (Nat.le_trans h.t.size h1)
theorem QS.recs' {w : World} {B r : Nat} {v1 v2 : Value} {s : Sec} {rd rd' : Rd} {u1 u2 u : Value} {W w4 : World} (h : QS w B r v1 v2 s rd u1 u2 W) (hg : W.grownBy w4 u1.ownBlock) (ho : w4.ownsRow B 9 1 u rd'.recs.length (strs rd'.recs)) (hat : ∀ k, u.ownBlock = some k → u1.ownBlock = some k ∨ W.heap.size ≤ k) (hd : rd'.data = rd.data) (hu : (rdRow rd u1 u2).setIfInBounds 0 u = rdRow rd' u u2) : QS w B r v1 v2 s rd' u u2 (w4.setCell ⟨r, 0, none⟩ u) := by
  refine ⟨h.q.recs' hg ho hd hu, ?_, ?_, ?_⟩
  · rw [Below.heap_setCell _ _ _ _ (fun e => ty_ne h.s h.q.row (by decide) e), hg.block _ (Array.getElem?_eq_some_iff.1 h.s).1 (fun e => ?_)]
    · exact h.s
    · obtain ⟨cs, hc⟩ := row_ty h.q.o1 e.symm
      exact ty_ne h.s hc (by decide) rfl
  · refine (h.t.trans (Turn.of_grown (F := fun k => u1.ownBlock = some k) hg (fun k e => e)) (fun k e => h.g k (.inr (.inl e)))).setCell _ _ (.inl (.inl rfl))
  · intro k hk
    rcases hk with hk | hk | hk
    · exact h.g k (.inl hk)
    · rcases hat k hk with h1 | h1
      · exact h.g k (.inr (.inl h1))
      · exact .inr (Nat.le_trans h.t.size h1)
    · exact h.g k (.inr (.inr hk))
theorem QS.nilData {w : World} {B r : Nat} {v1 v2 : Value} {s : Sec} {rd rd' : Rd} {u1 u2 : Value} {W : World} (h : QS w B r v1 v2 s rd u1 u2 W) (hr : rd'.recs = rd.recs) (hd : rd'.data = []) (hu : (rdRow rd u1 u2).setIfInBounds 7 (.slice none 0 0) = rdRow rd' u1 (.slice none 0 0)) : QS w B r v1 v2 s rd' u1 (.slice none 0 0) (W.setCell ⟨r, 7, none⟩ (.slice none 0 0)) := by
  refine ⟨⟨by rw [setCell_eq_setRow W r 7 _ _ _ _ h.q.row, hu]; exact setRow_heap W r _ _ _ _ h.q.row, ?_, by rw [hd]; exact World.ownsRow_nil _ _ _ _, h.q.br⟩, ?_, h.t.setCell _ _ (.inl (.inl rfl)), fun k hk => ?_⟩
  · rw [hr]
    exact row_keep h.q.o1 fun k e => Below.heap_setCell _ _ _ _ (h.q.ne1 e)
  · rw [Below.heap_setCell _ _ _ _ (fun e => ty_ne h.s h.q.row (by decide) e)]; exact h.s
  · rcases hk with hk | hk | hk
    · exact h.g k (.inl hk)
    · exact h.g k (.inr (.inl hk))
    · cases hk
theorem QS.alloc {w : World} {B r : Nat} {v1 v2 : Value} {s : Sec} {rd : Rd} {u1 u2 : Value} {W : World} (h : QS w B r v1 v2 s rd u1 u2 W) (o : Obj) : QS w B r v1 v2 s rd u1 u2 (W.alloc o) :=
  ⟨h.q.below ((Below.refl _ _).alloc (Nat.le_refl _) _), by rw [Below.heap_alloc _ _ _ (Array.getElem?_eq_some_iff.1 h.s).1]; exact h.s, h.t.alloc _, h.g⟩
theorem conv_own70 {B : Nat} {v : Value} {n : Nat} {l : List UInt8} {w : World} (h : w.ownsRow B 5 1 v n (bytesV l)) (hn : n = l.length) :
    (convert 124 9 v).run Tryz.prog w = .ok (.string (mkB l)) w := by
  subst hn
  rcases h.2 with ⟨e1, e2⟩ | ⟨g, cap', cur, e, _, hg, _, _, _, ht⟩
  · have hl : l = [] := List.length_eq_zero_iff.1 e2
    subst hl
    subst e1
    exact run_convert_bytes_nil w 124 5 Tryz.underlying124 Tryz.underlying5 0 0 9 Tryz.under9
  · subst e
    unfold mkB
    rw [← strOf_bytes]
    refine run_convert_bytes_arg w 124 5 Tryz.underlying124 Tryz.underlying5 g 0 _ cap' _ (by simp) (fun i hi => ?_) 9 Tryz.under9
    have hc := World.ownsRow.cells (g := g) h rfl i (.int .u8 ((l.map fun c => (c.toNat : Int)).getD i 0)) (by simp [bytesV, List.getElem?_eq_getElem (show i < l.length by simpa using hi)])
    have hplain : (⟨g, 0, none⟩ : Addr).add i = ⟨g, i, none⟩ := by unfold Addr.add; split <;> simp_all
    rw [hplain] at hc
    rw [Nat.zero_add]
    exact hc
theorem run_append_str_at {P : Program} {w : World} (t u ty : TypeId) (base : Nat) (e : TypeId) (i : TypeInfo) (ht : P.underlying t = some (.slice e)) (hu : P.underlying u = some .string) (hi : P.info? e = some i) (hz : i.zero = some (.int .u8 0)) (hsize : i.size = 1) (hby : i.bytes = 1)
    (v : Value) (n : Nat) (xs : List Value) (hown : w.ownsRow base e 1 v n xs) (s : ByteArray) (hb : n + s.size ≤ 140737488355328) (hbase : base ≤ w.heap.size) :
    ∃ v' w', (Builtin.append_ #[t, u] ty #[v, .string s]).run P w = .ok v' w' ∧ w'.ownsRow base e 1 v' (n + s.size) (xs ++ bytesV s.data.toList) ∧ w.grownBy w' v.ownBlock ∧ ∀ k, v'.ownBlock = some k → v.ownBlock = some k ∨ w.heap.size ≤ k := by
  obtain ⟨v', w', hr, h2, h3, -⟩ := Lib.run_append_own_string (P := P) w base t u ty e i ht hu hi hz hsize hby v n xs hown s (by unfold maxLen; omega) hb hbase
  refine ⟨v', w', hr, h2, h3, fun k hk => ?_⟩
  have hxl : xs.length = n := by simpa using hown.1
  rcases hown.2 with ⟨hv, hn⟩ | ⟨g, cap, cur, hv, hbg, hg, hnc, hcm, hcs, htake⟩
  · right
    subst hv hn
    have hx : xs = [] := List.eq_nil_of_length_eq_zero hxl
    subst hx
    obtain ⟨v2, w2, hr2, h22, -, -⟩ := Lib.run_append_own_string (P := P) w w.heap.size t u ty e i ht hu hi hz hsize hby (.slice none 0 0) 0 [] (World.ownsRow_nil _ _ _ _) s (by unfold maxLen; omega) hb (Nat.le_refl _)
    rw [hr] at hr2
    injection hr2 with e1 e2
    subst e1
    exact row_ge h22 hk
  · subst hv
    by_cases hroom : n + s.size ≤ cap
    · left
      have hcs' : cur.size = cap := by simpa using hcs
      have hr2 := Lib.run_append_room_string (P := P) w t u ty e i ht hu hi hsize g n cap cur hg s hroom (by omega)
      rw [hr] at hr2
      injection hr2 with e1 e2
      rw [e1] at hk
      exact hk
    · right
      have holds : ∀ j u, xs[j]? = some u → w.cell? ((⟨g, 0, none⟩ : Addr).add j) = some u := hown.cells (g := g) rfl
      have hr2 := Lib.run_append_grow_string (P := P) w t u ty e i (.int .u8 0) ht hu hi hz ⟨g, 0, none⟩ n cap xs (by rw [hsize]; simpa using hxl) holds s (by omega) (by omega) (by rw [hby]; exact growslice_fits (by omega) (by omega))
      rw [hr] at hr2
      injection hr2 with e1 e2
      rw [e1] at hk
      have : w.heap.size = k := by simpa [Value.ownBlock] using hk
      omega
/-- append(b, s...), s a string, at a step of a region that draws. -/
theorem step_append_str {P : Program} {w : World} {ops : Array Oper} {o : Oper} {a : Act} {K : Act → World → Prop} {Q : Exit → Act → World → Prop} {E : Prop} (hgd : o.guard = none) (sl x : Operand) (t u : TypeId)
    (ho : o.op = .call { callee := .builtin .append, args := #[sl, x], argTypes := #[t, u] })
    (base : Nat) (e : TypeId) (i : TypeInfo) (ht : P.underlying t = some (.slice e)) (hu : P.underlying u = some .string) (hi : P.info? e = some i) (hz : i.zero = some (.int .u8 0)) (hsize : i.size = 1) (hby : i.bytes = 1)
    (v : Value) (n : Nat) (xs : List Value) (hs : a.eval sl = v) (hown : w.ownsRow base e 1 v n xs) (s : ByteArray) (hx : a.eval x = .string s) (hb : n + s.size ≤ 140737488355328) (hbase : base ≤ w.heap.size)
    (h : ∀ A cap w', w'.ownsRow base e 1 (.slice A (n + s.size) cap) (n + s.size) (xs ++ bytesV s.data.toList) → w.grownBy w' v.ownBlock → (∀ k, (Value.slice A (n + s.size) cap).ownBlock = some k → v.ownBlock = some k ∨ w.heap.size ≤ k) → K (a.put o.dst (.slice A (n + s.size) cap)) w') :
    if Region.wanted o (yielded ops a.tmps) = true then Oper.wp P o a w K Q else E := by
  have hw : Region.wanted o (yielded ops a.tmps) = true := by simp [Region.wanted, hgd]
  rw [if_pos hw]
  obtain ⟨v', w', hr, h2, h3, h4⟩ := run_append_str_at (P := P) (w := w) t u o.type base e i ht hu hi hz hsize hby v n xs hown s hb hbase
  obtain ⟨A, cap, rfl⟩ := row_slice h2
  unfold Oper.wp execOp
  simp only [ho, resolve, invoke, builtin, Sem.run_bind, Sem.run_pure, Result.andThen_ok, List.map_toArray, List.map_cons, List.map_nil, hs, hx, hr]
  exact h A cap w' h2 h3 h4

set_option maxHeartbeats 1000000 in
theorem take61 {w : World} {B r : Nat} {rd : Rd} {v1 v2 : Value} (h : QIs w B r rd v1 v2) (hok : OkRd rd) (hB : B ≤ w.heap.size) (s : Sec) (hs : s.data.length ≤ 51) :
    Calls Tryz.prog 196 #[.pointer (some ⟨r, 0, none⟩), .agg (secV s)] w fun e w' => e = .returned (.tuple #[]) ∧ ∃ u1 u2, QIs w' B r (takeS rd s) u1 u2 ∧ Turn (RF r v1 v2) w w' ∧ ∀ k, RF r u1 u2 k → RF r v1 v2 k ∨ w.heap.size ≤ k := by
  have hb : Below w.heap.size w (w.alloc (.cells (secV s) 289)) := (Below.refl _ _).alloc (Nat.le_refl _) _
  have hq0 : QS w B r v1 v2 s rd v1 v2 (w.alloc (.cells (secV s) 289)) := ⟨h.below hb, heap_alloc_new _ _, Turn.of_below hb, fun k hk => .inl hk⟩
  have hq1 := hq0.set (rd' := { rd with life := s.life }) 5 (.int .i64 (s.life : Int)) rfl rfl rfl
  have hq2 := hq1.set (rd' := { rd with life := s.life, parts := rd.parts + 1 }) 6 (.int .i64 ((rd.parts : Int) + 1)) rfl rfl rfl
  have HQ2 := Lib.hid hq2
  obtain ⟨b0, -, -, -, -⟩ := sec_cells hq0.s
  obtain ⟨-, -, -, -, -, c5, c6, -, cf⟩ := rd_cells hq0.q.row
  have hrlt : r < w.heap.size := h.lt (.inl rfl)
  have hp := hok.p
  have hok' := hok
  have HH := Lib.hid h
  obtain ⟨i0, hi, hz0, hz1, hz2⟩ := info5
  obtain ⟨i9, hi9, hz90, hz91, hz92⟩ := info9
  have hcf := cf 5
  have hcf6 := cf 6
  generalize hX : secV s = X at b0 c5 c6 cf hcf hcf6 HQ2 ⊢
  have HRL := Lib.hid hrlt
  clear h hok hq0 hq1 hq2 hb cf hX hrlt
  go_enter Tryz.func196, Tryz.ntmps196
  go_upto_region 3 with fail
  generalize ((w.alloc (.cells X 289)).setCell ⟨r, 5, none⟩ (.int .i64 (s.life : Int))).setCell ⟨r, 6, none⟩ (.int .i64 ((rd.parts : Int) + 1)) = w3 at HQ2
  clear b0 c5 c6 hcf hcf6
  have HQD := Lib.hid HQ2.out.drew
  obtain ⟨c0, -, -, c3, -, -, -, c7, cf⟩ := rd_cells HQD.out.q.row
  obtain ⟨-, -, -, b3, b4⟩ := sec_cells HQD.out.s
  have hcf0 := cf 0
  have hcf7 := cf 7
  have hdd := hok'.d
  have HMS : Hid ((mkB s.data).size = s.data.length) := mkB_size _
  have HO2 := Lib.hid HQD.out.q.o2
  have HFIN : Hid (∀ A cap w4, w4.ownsRow B 5 1 (.slice A (rd.data.length + (mkB s.data).size) cap) (rd.data.length + (mkB s.data).size) (bytesV rd.data ++ bytesV (mkB s.data).data.toList) → w3.drew.grownBy w4 v2.ownBlock → (∀ k, (Value.slice A (rd.data.length + (mkB s.data).size) cap).ownBlock = some k → v2.ownBlock = some k ∨ w3.drew.heap.size ≤ k) →
      w4.cell? ⟨r, 7, none⟩ = some v2 ∧ w4.frozen? ⟨r, 7, none⟩ = false ∧ QS w B r v1 v2 s { rd with life := s.life, parts := rd.parts + 1, data := rd.data ++ s.data } v1 (.slice A (rd.data.length + (mkB s.data).size) cap) (w4.setCell ⟨r, 7, none⟩ (.slice A (rd.data.length + (mkB s.data).size) cap))) := by
    intro A cap w4 ho hg hat
    have hrow : w4.heap[r]? = _ := (hg.block r (HQD.out.q.lt (.inl rfl)) (fun e => HQD.out.q.ne2 e.symm rfl)).trans HQD.out.q.row
    obtain ⟨-, -, -, -, -, -, -, d7, df⟩ := rd_cells hrow
    refine ⟨d7, df 7, HQD.out.data' hg ?_ hat rfl rfl⟩
    show w4.ownsRow B 5 1 _ (rd.data ++ s.data).length (bytesV (rd.data ++ s.data))
    rw [List.length_append, bytesV_append, ← HMS.out]
    exact ho
  go_cut [] from 16 (fun wx => ∃ U2, QS w B r v1 v2 s { rd with life := s.life, parts := rd.parts + 1, data := rd.data ++ s.data } v1 U2 wx)
  case first =>
    go_region_law (refine step_append_str rfl (.tmp 20) (.tmp 22) 124 9 rfl B 5 i0 Tryz.underlying124 Tryz.under9 hi hz0 hz1 hz2 v2 rd.data.length (bytesV rd.data) (by simp [Act.eval]) HO2.out (mkB s.data) (by simp [Act.eval]) (by rw [HMS.out]; omega) (Nat.le_trans hB HQD.out.t.size) ?_; intro A cap w4 ho4 hg4 hat4; obtain ⟨q1, q2, q3⟩ := HFIN.out _ _ _ ho4 hg4 hat4; have HF := Lib.hid q3; clear ho4 hg4 hat4 q3)
    all_goals
      go_wp2_with fail
      go_meet
      case rel => exact ⟨_, HF.out⟩
  case rest =>
    obtain ⟨U2, hq⟩ := hcut
    have HQ := Lib.hid hq
    clear hq HFIN HO2 HQD HQ2 c0 c3 c7 cf b3 b4 hcf0 hcf7
    obtain ⟨-, -, -, b3, -⟩ := sec_cells HQ.out.s
    cases hl : s.last with
    | false =>
      have HT : Hid (takeS rd s = { rd with life := s.life, parts := rd.parts + 1, data := rd.data ++ s.data }) := by unfold Hid takeS; rw [hl]; rfl
      rw [hl] at b3
      go_wp2
      go_end0
      rw [HT.out]
      exact ⟨rfl, _, _, HQ.out.q, HQ.out.t, HQ.out.g⟩
    | true =>
      have HT : Hid (takeS rd s = { rd with life := s.life, recs := rd.recs ++ [mkB (rd.data ++ s.data)], occ := rd.vis, parts := 0, data := [] }) := by unfold Hid takeS; rw [hl]; rfl
      rw [hl] at b3
      have HQD := Lib.hid HQ.out.drew
      obtain ⟨c0, -, -, c3, -, -, -, c7, cf⟩ := rd_cells HQD.out.q.row
      have hcf0 := cf 0
      have hcv := conv_own70 HQD.out.q.o2 rfl
      have hrr := hok'.r
      obtain ⟨S, hS⟩ : ∃ S, mkB (rd.data ++ s.data) = S := ⟨_, rfl⟩
      simp only at hcv
      rw [hS] at hcv HT
      have HQA := Lib.hid (HQD.out.alloc (.cells #[.string S] 9))
      obtain ⟨d0, -, -, d3, -, -, -, d7, df⟩ := rd_cells HQA.out.q.row
      have hdf0 := df 0
      obtain ⟨e0, -, -, -, -, -, -, e7, ef⟩ := rd_cells (HQ.out.alloc (.cells #[.string S] 9)).q.row
      have hef0 := ef 0
      have hcva := conv_own70 HQA.out.q.o2 rfl
      simp only at hcva
      rw [hS] at hcva
      have HNE : Hid (∀ j u, ([.string S] : List Value)[j]? = some u → (wc.drew.alloc (.cells #[.string S] 9)).cell? ((⟨wc.heap.size, 0, none⟩ : Addr).add j) = some u) := fun j u hu => World.news_of_block (cs := #[.string S]) (t := 9) (fr := (0, 0)) (heap_alloc_new wc.drew _) j u hu
      have HO1 := Lib.hid HQA.out.q.o1
      have HFIN : Hid (∀ g' cap w4, w4.ownsRow B 9 1 (.slice (some ⟨g', 0, none⟩) (rd.recs.length + 1) cap) (rd.recs.length + 1) (strs rd.recs ++ [.string S]) → (wc.drew.alloc (.cells #[.string S] 9)).grownBy w4 v1.ownBlock → (v1.ownBlock = some g' ∨ g' = (wc.drew.alloc (.cells #[.string S] 9)).heap.size) →
          w4.cell? ⟨r, 0, none⟩ = some v1 ∧ w4.frozen? ⟨r, 0, none⟩ = false ∧ QS w B r v1 v2 s { rd with life := s.life, parts := rd.parts + 1, data := rd.data ++ s.data, recs := rd.recs ++ [S] } (.slice (some ⟨g', 0, none⟩) (rd.recs.length + 1) cap) U2 (w4.setCell ⟨r, 0, none⟩ (.slice (some ⟨g', 0, none⟩) (rd.recs.length + 1) cap))) := by
        intro g' cap w4 ho hg hat
        have hrow : w4.heap[r]? = _ := (hg.block r (HQA.out.q.lt (.inl rfl)) (fun e => HQA.out.q.ne1 e.symm rfl)).trans HQA.out.q.row
        obtain ⟨d0, -, -, -, -, -, -, -, df⟩ := rd_cells hrow
        refine ⟨d0, df 0, HQA.out.recs' hg ?_ (fun k hk => ?_) rfl rfl⟩
        · show w4.ownsRow B 9 1 _ (rd.recs ++ [S]).length (strs (rd.recs ++ [S]))
          unfold strs
          rw [List.length_append, List.map_append]
          exact ho
        · have : g' = k := by simpa [Value.ownBlock] using hk
          rcases hat with h1 | h1
          · left; rw [h1, this]
          · right; omega
      go_upto_region 5 with fail
      go_cut [] from 28 (fun wx => ∃ U1, QS w B r v1 v2 s { rd with life := s.life, parts := rd.parts + 1, data := rd.data ++ s.data, recs := rd.recs ++ [S] } U1 U2 wx)
      case first =>
        go_region_law (refine step_append_lies _ rfl (.tmp 32) (.tmp 38) 25 rfl B 9 i9 _ 1 16 Tryz.underlying25 hi9 hz90 hz91 hz92 rfl (by omega) v1 rd.recs.length (strs rd.recs) (by simp [Act.eval]) HO1.out ⟨wc.heap.size, 0, none⟩ 1 1 [.string S] (by simp [Act.eval]) rfl HNE.out (by intro u hu; simp at hu; subst hu; rfl) (by omega) (by unfold maxLen; omega) (by omega) (Nat.le_trans hB HQA.out.t.size) _ rfl ?_; intro g' cap w4 ho4 hg4 hat4 hlt4; obtain ⟨q1, q2, q3⟩ := HFIN.out _ _ _ ho4 hg4 hat4; have HF := Lib.hid q3; clear ho4 hg4 hat4 q3)
        all_goals
          go_wp2_with fail
          go_meet
          case rel => exact ⟨_, HF.out⟩
      case rest =>
        obtain ⟨U1, hq⟩ := hcut
        have HQ5 := Lib.hid hq
        clear hq HFIN HO1 HNE HQA HQD c0 c3 c7 cf d0 d3 d7 df e0 e7 ef hcf0 hdf0 hef0 hcv hcva b3
        have h6 := HQ5.out.set (rd' := { rd with life := s.life, parts := rd.parts + 1, data := rd.data ++ s.data, recs := rd.recs ++ [S], occ := rd.vis }) 1 (.int .i64 (rd.vis : Int)) rfl rfl rfl
        have h7 := h6.set (rd' := { rd with life := s.life, parts := 0, data := rd.data ++ s.data, recs := rd.recs ++ [S], occ := rd.vis }) 6 (.int .i64 0) rfl rfl rfl
        have HF := Lib.hid (h7.nilData (rd' := { rd with life := s.life, parts := 0, data := [], recs := rd.recs ++ [S], occ := rd.vis }) rfl rfl rfl)
        obtain ⟨-, c1, -, c3, -, -, c6, c7, cf⟩ := rd_cells HQ5.out.q.row
        have hcf1 := cf 1
        have hcf6 := cf 6
        have hcf7 := cf 7
        clear h6 h7 cf
        go_wp2
        go_end0
        rw [HT.out]
        exact ⟨rfl, _, _, HF.out.q, HF.out.t, HF.out.g⟩
end Go.Proofs.YtjanddnlhaionaaGreatDoor.L6
namespace Go.Proofs.YtjanddnlhaionaaGreatDoor.L6
open Go.RowKit

/-- The reader and the sector in its box. -/
structure QV (w : World) (B r : Nat) (v1 v2 : Value) (sb : Nat) (s : Sec) (rd : Rd) (W : World) : Prop where
  q : QIs W B r rd v1 v2
  s : W.heap[sb]? = some (.cells (secV s) 289 (0, 0))
  t : Turn (RF r v1 v2) w W
theorem QV.set {w : World} {B r : Nat} {v1 v2 : Value} {sb : Nat} {s : Sec} {rd rd' : Rd} {W : World} (h : QV w B r v1 v2 sb s rd W) (j : Nat) (u : Value) (hr : rd'.recs = rd.recs) (hd : rd'.data = rd.data) (hu : (rdRow rd v1 v2).setIfInBounds j u = rdRow rd' v1 v2) : QV w B r v1 v2 sb s rd' (W.setCell ⟨r, j, none⟩ u) :=
  ⟨h.q.set j u hr hd hu, by rw [Below.heap_setCell _ _ _ _ (fun e => ty_ne h.s h.q.row (by decide) e)]; exact h.s, h.t.setCell _ _ (.inl (.inl rfl))⟩
theorem QV.drew {w : World} {B r : Nat} {v1 v2 : Value} {sb : Nat} {s : Sec} {rd : Rd} {W : World} (h : QV w B r v1 v2 sb s rd W) : QV w B r v1 v2 sb s rd W.drew := ⟨h.q.keep (fun _ _ => rfl), h.s, h.t.drew⟩
theorem QV.below {w : World} {B r : Nat} {v1 v2 : Value} {sb : Nat} {s : Sec} {rd : Rd} {W W' : World} (h : QV w B r v1 v2 sb s rd W) (hb : Below W.heap.size W W') : QV w B r v1 v2 sb s rd W' :=
  ⟨h.q.below hb, by rw [hb.block _ (Array.getElem?_eq_some_iff.1 h.s).1]; exact h.s, h.t.trans (Turn.of_below (F := RF r v1 v2) hb) (fun i hi => .inl hi)⟩
def rd2 (rd : Rd) (s : Sec) : Rd := { rd with vis := rd.vis + 1, great := max rd.great s.life }
theorem visit_eq (rd : Rd) (t : ByteArray) : visit rd t = if rd.ended || !parseB t.data.toList || !expects (rd2 rd (parseS t.data.toList)) (parseS t.data.toList) then { rd2 rd (parseS t.data.toList) with ended := true } else takeS { rd2 rd (parseS t.data.toList) with ended := false } (parseS t.data.toList) := by
  unfold visit parseB parseS
  cases h : says t.data.toList with
  | none => simp [visitO, rd2, zeroS]
  | some s =>
    have he : expects (rd2 rd s) s = expects rd s := rfl
    simp only [visitO, Option.getD_some, Option.isSome_some, Bool.not_true, Bool.or_false, he]
    cases hr : rd.ended with
    | true => simp [rd2]
    | false => cases hx : expects rd s <;> simp [rd2, hr]
theorem parseS_data (l : List UInt8) : (parseS l).data.length ≤ 51 := by
  unfold parseS says
  by_cases hb : badSize l = true
  · simp [hb, zeroS]
  · by_cases hv : isValid l = true
    · simp only [hb, hv, if_true, Bool.false_eq_true, if_false, Option.getD_some, secOf, List.length_take]
      have : sizeOfS l ≤ 51 := by
        unfold badSize at hb
        simp at hb
        omega
      omega
    · simp [hb, hv, zeroS]
set_option maxHeartbeats 1000000 in
theorem visit41 {w : World} {B r : Nat} {rd : Rd} {v1 v2 : Value} (h : QIs w B r rd v1 v2) (hok : OkRd rd) (hv : rd.vis < 1000000) (hB : B ≤ w.heap.size) (t : ByteArray) (ht : t.size = 64) :
    Calls Tryz.prog 169 #[.pointer (some ⟨r, 0, none⟩), .string t] w fun e w' => e = .returned (.tuple #[]) ∧ ∃ u1 u2, QIs w' B r (visit rd t) u1 u2 ∧ Turn (RF r v1 v2) w w' ∧ ∀ k, RF r u1 u2 k → RF r v1 v2 k ∨ w.heap.size ≤ k := by
  rw [visit_eq]
  have HP := Lib.hid (parse59 t ht)
  obtain ⟨en, hen⟩ : ∃ en, rd.ended = en := ⟨_, rfl⟩
  rw [hen]
  have hd := parseS_data t.data.toList
  generalize parseS t.data.toList = s at HP hd ⊢
  generalize parseB t.data.toList = vb at HP ⊢
  obtain ⟨ans, hans⟩ : ∃ ans, expects (rd2 rd s) s = ans := ⟨_, rfl⟩
  rw [hans]
  have HANS := Lib.hid hans
  clear hans
  have hvis := hok.v
  obtain ⟨-, -, -, c3, -, -, -, -, cf⟩ := rd_cells h.row
  have hcf3 := cf 3
  have h1 := h.set (rd' := { rd with vis := rd.vis + 1 }) 3 (.int .i64 ((rd.vis : Int) + 1)) rfl rfl rfl
  have H1 := Lib.hid h1
  have HT1 : Hid (Turn (RF r v1 v2) w (w.setCell ⟨r, 3, none⟩ (.int .i64 ((rd.vis : Int) + 1)))) := (Turn.refl _ _).setCell _ _ (.inl (.inl rfl))
  clear h h1 cf
  go_enter Tryz.func169, Tryz.ntmps169
  go_upto_region 1 with fail
  generalize w.setCell ⟨r, 3, none⟩ (.int .i64 ((rd.vis : Int) + 1)) = w1 at H1 HT1
  clear c3 hcf3
  have hz := Tryz.z112
  have hz2 := Tryz.z112'.2
  go_wp2_with fail
  refine (HP.out _).mono ?_
  rintro e w2 ⟨rfl, hb2⟩
  have HG := Lib.hid (heap_alloc_new w2 (.cells #[.int .i64 0, .int .i64 0, .int .i64 0, .bool false, .string ⟨#[]⟩] 289))
  have HQ0 : Hid (QV w B r v1 v2 w2.heap.size s { rd with vis := rd.vis + 1 } ((w2.alloc (.cells #[.int .i64 0, .int .i64 0, .int .i64 0, .bool false, .string ⟨#[]⟩] 289)).setRow w2.heap.size (secV s))) := by
    rw [World.setRow_alloc_new]
    refine ⟨(H1.out.below hb2).below ((Below.refl _ _).alloc (Nat.le_refl _) _), heap_alloc_new _ _, ?_⟩
    exact (HT1.out.trans (Turn.of_below (F := RF r v1 v2) hb2) (fun i hi => .inl hi)).alloc _
  have HSV : Hid ((secV s).size = 5) := rfl
  have HI := Lib.hid Tryz.z112'.2
  have HONE : Hid (((#[.int .i64 0, .int .i64 0, .int .i64 0, .bool false, .string ⟨#[]⟩] : Array Value)).all (·.oneCell') = true) := by unfold Hid; simp [Value.oneCell']
  have HONE2 : Hid ((secV s).all (·.oneCell') = true) := by unfold Hid secV; simp [Value.oneCell']
  clear H1 HT1 hb2
  obtain ⟨X, hX⟩ : ∃ X, secV s = X := ⟨_, rfl⟩
  have HX := Lib.hid hX
  rw [hX] at HSV HONE2 HQ0 ⊢
  clear hX
  go_wp2_with (first | (refine wpList_store_row rfl 289 _ _ rfl w2.heap.size _ rfl rfl 289 _ HG.out (by rw [HSV.out]; exact HI.out) (by rw [HSV.out]; rfl) HONE2.out ?_) | fail)
  clear HG HONE HP
  generalize hw3 : (w2.alloc (.cells #[.int .i64 0, .int .i64 0, .int .i64 0, .bool false, .string ⟨#[]⟩] 289)).setRow w2.heap.size X = w3 at HQ0
  clear hw3
  have HQD := Lib.hid HQ0.out.drew
  obtain ⟨-, -, c2, -, -, -, -, -, cf⟩ := rd_cells HQ0.out.q.row
  obtain ⟨-, -, d2, -, -, -, -, -, df⟩ := rd_cells HQD.out.q.row
  obtain ⟨b0, -, -, -, -⟩ := sec_cells HQ0.out.s
  obtain ⟨e0, -, -, -, -⟩ := sec_cells HQD.out.s
  have hcf2 := cf 2
  have hdf2 := df 2
  clear cf df
  obtain ⟨G, hG⟩ : ∃ G : Nat, max rd.great s.life = G := ⟨_, rfl⟩
  have hGi : (if rd.great < s.life then (s.life : Int) else (rd.great : Int)) = (G : Int) := by split <;> omega
  have HQ2 : Hid (QV w B r v1 v2 w2.heap.size s (rd2 rd s) (w3.setCell ⟨r, 2, none⟩ (.int .i64 (G : Int))).drew) := HQD.out.set (rd' := rd2 rd s) 2 (.int .i64 (G : Int)) rfl rfl (by rw [← hG]; rfl)
  go_still_tail 10, (by kernel_rfl)
  change wpList _ _ _ _ _ (World.drew _)
  simp only at c2 d2
  go_upto_region 3 with fail
  generalize (w3.setCell ⟨r, 2, none⟩ (.int .i64 (G : Int))).drew = w4 at HQ2
  clear c2 d2 b0 e0 hcf2 hdf2 hG hGi HQ0 HQD hz hz2
  obtain ⟨-, -, -, -, c4, -, -, -, cf⟩ := rd_cells HQ2.out.q.row
  have hcf4 := cf 4
  have hrow : Hid (w4.heap[w2.heap.size]? = some (.cells X 289 (0, 0))) := by unfold Hid; rw [← HX.out]; exact HQ2.out.s
  have HEND : Hid (∀ W, QV w B r v1 v2 w2.heap.size s (rd2 rd s) W → QIs (W.setCell ⟨r, 4, none⟩ (.bool true)) B r { rd2 rd s with ended := true } v1 v2 ∧ Turn (RF r v1 v2) w (W.setCell ⟨r, 4, none⟩ (.bool true))) := fun W hW => by
    have := hW.set (rd' := { rd2 rd s with ended := true }) 4 (.bool true) rfl rfl rfl
    exact ⟨this.q, this.t⟩
  have hended : (rd2 rd s).ended = rd.ended := rfl
  rw [hended, hen] at c4
  clear cf hended
  clear hen
  cases en with
  | true =>
    have HE := Lib.hid (HEND.out _ HQ2.out)
    go_wp2
    go_end0
    exact ⟨rfl, _, _, HE.out.1, HE.out.2, fun k hk => .inl hk⟩
  | false =>
    cases vb with
    | false =>
      have HE := Lib.hid (HEND.out _ HQ2.out)
      go_wp2
      go_end0
      exact ⟨rfl, _, _, HE.out.1, HE.out.2, fun k hk => .inl hk⟩
    | true =>
      have hok2 : OkRd (rd2 rd s) := ⟨hok.r, hok.d, hok.p, by show rd.vis + 1 ≤ 1000000; omega⟩
      have HEX := Lib.hid (expects60 HQ2.out.q hok2 s)
      rw [HANS.out] at HEX
      unfold secV at HEX
      obtain ⟨b0, b1, b2, b3, b4⟩ := sec_cells HQ2.out.s
      have hok3 : OkRd { rd2 rd s with ended := false } := ⟨hok2.r, hok2.d, hok2.p, hok2.v⟩
      have HOK3 := Lib.hid hok3
      clear hok hok2 hok3
      have HI' : Hid ((Tryz.prog.info? 289).map (·.size) = some X.size) := by unfold Hid; rw [HSV.out]; exact HI.out
      go_wp2_with fail
      refine HEX.out.mono ?_
      rintro e w5 ⟨rfl, hb5⟩
      clear b0 b1 b2 b3 b4
      have HQ5 := Lib.hid (HQ2.out.below hb5)
      obtain ⟨-, -, -, -, d4, -, -, -, df⟩ := rd_cells HQ5.out.q.row
      have hdf4 := df 4
      have d4 : w5.cell? ⟨r, 4, none⟩ = some (.bool false) := by rw [hb5.cell (p := ⟨r, 4, none⟩) (HQ2.out.q.lt (.inl rfl))]; exact c4
      clear hb5 df c4 hcf4
      cases ans with
      | false =>
        have HE := Lib.hid (HEND.out _ HQ5.out)
        clear HEND HEX
        go_wp2
        go_end0
        exact ⟨rfl, _, _, HE.out.1, HE.out.2, fun k hk => .inl hk⟩
      | true =>
        have hq6 := HQ5.out.set (rd' := { rd2 rd s with ended := false }) 4 (.bool false) rfl rfl rfl
        have HQ6 := Lib.hid hq6
        have hrow6 : Hid ((w5.setCell ⟨r, 4, none⟩ (.bool false)).heap[w2.heap.size]? = some (.cells X 289 (0, 0))) := by unfold Hid; rw [← HX.out]; exact hq6.s
        have HTK := Lib.hid (take61 hq6.q HOK3.out (Nat.le_trans hB hq6.t.size) s hd)
        rw [HX.out] at HTK
        clear HEND HEX hq6
        go_wp2_with (first | (refine wpList_load_row rfl 289 _ rfl w2.heap.size rfl 289 X (0, 0) _ hrow6.out Tryz.underlying289 rfl HI'.out ?_) | fail)
        refine HTK.out.mono ?_
        rintro e w7 ⟨rfl, u1, u2, hq7, ht7, hat7⟩
        have HF : Hid (Turn (RF r v1 v2) w w7 ∧ ∀ k, RF r u1 u2 k → RF r v1 v2 k ∨ w.heap.size ≤ k) := by
          refine ⟨HQ6.out.t.trans ht7 (fun i hi => .inl hi), fun k hk => ?_⟩
          rcases hat7 k hk with h | h
          · exact .inl h
          · exact .inr (Nat.le_trans HQ6.out.t.size h)
        have HQ7 := Lib.hid hq7
        clear hq7 ht7 hat7
        go_wp2
        go_end0
        exact ⟨rfl, _, _, HQ7.out, HF.out.1, HF.out.2⟩
end Go.Proofs.YtjanddnlhaionaaGreatDoor.L6
namespace Go.Proofs.YtjanddnlhaionaaGreatDoor.L6
open Go.RowKit Go.Shelf
attribute [local go_sem] Oper.semAt_some

abbrev Item := { x : ByteArray × Int // x.2 = 0 → x.1.size = 64 }
def encR (x : Item) : Array Value := #[.string x.1.1, .int .i64 x.1.2]
/-- The answers of Read that a visitor of the sectors sees. -/
structure Gives (rd : Nat → ByteArray × Int) (L : List Item) : Prop where
  at_ : ∀ i (h : i < L.length), rd i = L[i].1 ∧ L[i].1.2 ≠ 6 ∧ (L[i].1.2 ≠ 0 → i + 1 = L.length)
  end_ : (∀ x ∈ L, x.1.2 = 0) → (rd L.length).2 = 6
def GB (B Bx k : Nat) : Prop := B ≤ k ∧ k ≠ Bx

set_option maxHeartbeats 2000000 in
theorem iter58_in (n : Nat) (hn : 1 ≤ n) (lp B Bx : Nat) (dv : Value) (Q : World → Prop) (rd : Nat → ByteArray × Int) (L : List Item) (hL : Gives rd L) (hLl : L.length ≤ 1000000)
    (HQb : ∀ W W', Q W → Below W.heap.size W W' → Q W') (HQt : ∀ W W', Q W → Turn (GB B Bx) W W' → Q W')
    (HR : ∀ W, Q W → ∀ i : Nat, Calls Tryz.prog 193 #[dv, .int .i64 (i : Int)] W fun e w' => e = .returned (.tuple #[.string (rd i).1, .int .i64 (rd i).2]) ∧ Below W.heap.size W w')
    (J Jx : List Item → World → Prop) (W : World) (hJ : AbidesFrom W.heap.size J)
    (hY : ∀ pre x W1, J pre W1 → pre.length < L.length → YieldAt Fence.wide (n - 1) Tryz.prog lp (encR x) W1 fun e W' =>
      (e = .returned (.bool true) ∧ J (pre ++ [x]) W' ∧ Turn (GB B Bx) W1 W') ∨ (e = .returned (.bool false) ∧ Jx (pre ++ [x]) W'))
    (hQ : Q W) (hBx : W.cell? ⟨Bx, 0, none⟩ = some dv) (h0 : J [] W) :
    CallsIn Fence.wide n Tryz.prog 192 #[.func (.yield lp) #[] #[], .pointer (some ⟨Bx, 0, none⟩)] W fun e W' => (∃ v, e = .returned v) ∧
      ((∃ ys, ys = L ∧ J ys W') ∨ (∃ pre, pre <+: L ∧ Jx pre W')) := by
  have HY := Lib.hid hY
  have HJ := Lib.hid hJ
  have HLL := Lib.hid hL
  have HQB := Lib.hid HQb
  have HQT := Lib.hid HQt
  have HRD := Lib.hid HR
  have HST : Hid (Q W ∧ W.cell? ⟨Bx, 0, none⟩ = some dv ∧ J [] W) := ⟨hQ, hBx, h0⟩
  clear hY hJ hL HQb HQt HR hQ hBx h0
  refine callsIn_of_wp Tryz.func192 rfl trivial ?_ rfl
  simp only [Tryz.ntmps192, List.size_toArray, List.length_cons, List.length_nil, Nat.reduceAdd, Nat.reduceSub, Array.replicate_succ, Array.replicate_zero, List.push_toArray, List.append_toArray, List.nil_append, List.cons_append]
  gi_wp2
  gi_loopw [3] (fun s3 wr => ∃ (i : Nat), s3 = .int .i64 (i : Int) ∧ i ≤ L.length ∧ Hid (Q wr ∧ wr.cell? ⟨Bx, 0, none⟩ = some dv ∧ J (L.take i) wr ∧ ∀ x ∈ L.take i, x.1.2 = 0)) (fun s3 _ => L.length + 1 - (intOf s3).toNat)
  case atStart => exact ⟨0, rfl, Nat.zero_le _, HST.out.1, HST.out.2.1, HST.out.2.2, fun x hx => by simp at hx⟩
  case round =>
    obtain ⟨i, rfl, hi, HI⟩ := hrel
    clear HST
    have c0 := HI.out.2.1
    have HC := Lib.hid (HRD.out wr HI.out.1 i)
    obtain ⟨⟨tx, er⟩, hrd⟩ : ∃ p, rd i = p := ⟨_, rfl⟩
    rw [hrd] at HC
    simp only at HC
    have HRI := Lib.hid hrd
    clear hrd
    gi_upto_region 3 with (refine ⟨trivial, ?_⟩; gi_at_call 193; refine (callsIn_wide.2 HC.out).mono ?_; rintro e w2 ⟨rfl, hb2⟩)
    have HQ2 : Hid (Q w2 ∧ w2.cell? ⟨Bx, 0, none⟩ = some dv ∧ J (L.take i) w2 ∧ ∀ x ∈ L.take i, x.1.2 = 0) := by
      refine ⟨HQB.out _ _ HI.out.1 hb2, ?_, HJ.out _ _ _ none HI.out.2.2.1 ⟨hb2.os, hb2.tape, hb2.output, hb2.size, fun k hk _ => hb2.block k hk⟩ (fun r e => by cases e), HI.out.2.2.2⟩
      rw [hb2.cell (p := ⟨Bx, 0, none⟩) (World.block_lt_of_cell? wr _ c0)]; exact c0
    clear hb2 c0 HC HI
    by_cases hlt : i < L.length
    · obtain ⟨h1, h2, h3⟩ := HLL.out.at_ i hlt
      have hx : L[i].1 = (tx, er) := by rw [← h1]; exact HRI.out
      rw [hx] at h2 h3
      simp only at h2 h3
      have e6 : (er == (6 : Int)) = false := by rw [beq_eq_false_iff_ne]; exact h2
      have htk : L.take (i + 1) = L.take i ++ [L[i]] := by rw [List.take_succ_eq_append_getElem hlt]
      have hlen : (L.take i).length < L.length := by rw [List.length_take]; omega
      have hyy := HY.out (L.take i) L[i] w2 HQ2.out.2.2.1 hlen
      unfold encR at hyy
      rw [hx] at hyy
      simp only at hyy
      rw [← htk] at hyy
      have HXI := Lib.hid hx
      obtain ⟨fn, tmps, assign, body, hy, hR⟩ := hyy
      have HR := Lib.hid hR
      have H3 := Lib.hid h3
      have HTK := Lib.hid htk
      clear hR h1 h2 h3 hx hlen htk
      gi_wp2_with fail
      refine HR.out.mono ?_
      rintro ee W3 (⟨rfl, hJ3, hk3⟩ | ⟨rfl, hJx3⟩)
      · by_cases h0 : er = 0
        · have e0 : (er != (0 : Int)) = false := by rw [h0]; rfl
          have HN : Hid (Q W3 ∧ W3.cell? ⟨Bx, 0, none⟩ = some dv ∧ J (L.take (i + 1)) W3 ∧ ∀ x ∈ L.take (i + 1), x.1.2 = 0) := by
            refine ⟨HQT.out _ _ HQ2.out.1 hk3, ?_, hJ3, ?_⟩
            · have hc := HQ2.out.2.1
              rw [World.cell?_of_block (a := ⟨Bx, 0, none⟩) (hk3.block Bx (World.block_lt_of_cell? w2 _ hc) (fun h => h.2 rfl))]
              exact hc
            · rw [HTK.out]
              intro x hx
              rcases List.mem_append.1 hx with hx | hx
              · exact HQ2.out.2.2.2 x hx
              · have : x = L[i] := by simpa using hx
                rw [this, HXI.out]; exact h0
          clear hk3 hJ3 HR hy HQ2 HTK H3 h0
          gi_wp2
          go_roundw
          case rel => exact ⟨i + 1, by go_num, by omega, HN⟩
          case measure => simp [intOf]; omega
        · have e0 : (er != (0 : Int)) = true := by rw [bne, Bool.not_eq_true', beq_eq_false_iff_ne]; exact h0
          have hil := H3.out h0
          have HE : Hid (J L W3) := by
            unfold Hid
            rw [hil, List.take_length] at hJ3
            exact hJ3
          clear hk3 hJ3 HR hy HQ2 HTK H3 h0
          gi_wp2
          refine bodyPost_ret (results_none rfl _ _ _) rfl ?_
          exact ⟨⟨_, rfl⟩, .inl ⟨_, rfl, HE.out⟩⟩
      · have HE : Hid (Jx (L.take (i + 1)) W3) := hJx3
        clear hJx3 HR hy HQ2 HTK H3
        gi_wp2
        refine bodyPost_ret (results_none rfl _ _ _) rfl ?_
        exact ⟨⟨_, rfl⟩, .inr ⟨_, List.take_prefix _ _, HE.out⟩⟩
    · have hil : i = L.length := by omega
      have h6 : er = 6 := by
        have h := HLL.out.end_ (by have := HQ2.out.2.2.2; rw [hil, List.take_length] at this; exact this)
        rw [← hil, HRI.out] at h
        exact h
      subst h6
      have HE : Hid (J L w2) := by
        have := HQ2.out.2.2.1
        rw [hil, List.take_length] at this
        exact this
      clear HQ2 hlt
      gi_wp2_with fail
      refine ⟨(fun _ h => by cases h), ?_⟩
      gi_wp2
      refine bodyPost_ret (results_none rfl _ _ _) rfl ?_
      exact ⟨⟨_, rfl⟩, .inl ⟨_, rfl, HE.out⟩⟩

theorem iter58 (n : Nat) (hn : 1 ≤ n) (B Bx : Nat) (dv : Value) (Q : World → Prop) (rd : Nat → ByteArray × Int) (L : List Item) (hL : Gives rd L) (hLl : L.length ≤ 1000000)
    (HQb : ∀ W W', Q W → Below W.heap.size W W' → Q W') (HQt : ∀ W W', Q W → Turn (GB B Bx) W W' → Q W')
    (HR : ∀ W, Q W → ∀ i : Nat, Calls Tryz.prog 193 #[dv, .int .i64 (i : Int)] W fun e w' => e = .returned (.tuple #[.string (rd i).1, .int .i64 (rd i).2]) ∧ Below W.heap.size W w')
    (w : World) (hQ : Q w) (hBx : w.cell? ⟨Bx, 0, none⟩ = some dv) :
    SeqStopsK Fence.wide n Tryz.prog 192 #[.pointer (some ⟨Bx, 0, none⟩)] encR (Turn (GB B Bx)) (fun ys => ys = L) (fun pre => pre <+: L) L.length w := by
  intro lp J Jx W hb hJ _ hY h0
  have hlt := World.block_lt_of_cell? w _ hBx
  exact iter58_in n hn lp B Bx dv Q rd L hL hLl HQb HQt HR J Jx W hJ hY (HQb _ _ hQ hb) (by rw [hb.cell (p := ⟨Bx, 0, none⟩) hlt]; exact hBx) h0
end Go.Proofs.YtjanddnlhaionaaGreatDoor.L6
namespace Go.Proofs.YtjanddnlhaionaaGreatDoor.L6
open Go.RowKit Go.Shelf
attribute [local go_sem] Oper.semAt_some

set_option maxHeartbeats 400000 in
theorem sectors40 (p : Option Addr) (w : World) :
    Calls Tryz.prog 168 #[.pointer p] w fun e w' => e = .returned (.func (.func 192) #[] #[.pointer (some ⟨w.heap.size, 0, none⟩)]) ∧ w' = w.alloc (.cells #[.pointer p] 59) := by
  go_enter Tryz.func168, Tryz.ntmps168
  go_wp2
  go_ret
  exact ⟨rfl, rfl⟩

def scanR (l : List Item) : Rd := scanL (l.map (·.1.1))
theorem scanR_snoc (l : List Item) (x : Item) : scanR (l ++ [x]) = visit (scanR l) x.1.1 := by
  unfold scanR scanL; rw [List.map_append, List.foldl_append]; rfl
theorem visit_ok (r : Rd) (t : ByteArray) (n : Nat) (h : r.recs.length ≤ n ∧ r.data.length ≤ 51 * n ∧ r.parts ≤ n ∧ r.vis = n) : (visit r t).recs.length ≤ n + 1 ∧ (visit r t).data.length ≤ 51 * (n + 1) ∧ (visit r t).parts ≤ n + 1 ∧ (visit r t).vis = n + 1 := by
  obtain ⟨h1, h2, h3, h4⟩ := h
  rw [visit_eq]
  split
  · refine ⟨?_, ?_, ?_, ?_⟩ <;> (simp only [rd2]; omega)
  · have hd := parseS_data t.data.toList
    unfold takeS
    split
    · simp only [rd2, List.length_append, List.length_singleton, List.length_nil]; omega
    · simp only [rd2, List.length_append]; omega
theorem scanL_ok (l : List ByteArray) : (scanL l).recs.length ≤ l.length ∧ (scanL l).data.length ≤ 51 * l.length ∧ (scanL l).parts ≤ l.length ∧ (scanL l).vis = l.length := by
  unfold scanL
  rw [show l = l.reverse.reverse by simp]
  generalize l.reverse = m
  induction m with
  | nil => simp [rd0]
  | cons a m ih =>
    rw [List.reverse_cons, List.foldl_append, List.length_append]
    exact visit_ok _ _ _ ih
theorem scanR_okRd (l : List Item) (h : l.length ≤ 10000) : OkRd (scanR l) := by
  have := scanL_ok (l.map (·.1.1))
  rw [List.length_map] at this
  unfold scanR
  exact ⟨by omega, by omega, by omega, by omega⟩

theorem qis_own (B r : Nat) (f : List Item → Rd) : Own (fun pre W => ∃ v1 v2, QIs W B r (f pre) v1 v2) := by
  rintro s X Y row ⟨v1, v2, h⟩ hg hr
  refine ⟨v1, v2, h.keep fun k hk => hg.block k (h.lt hk) (fun e => ?_)⟩
  obtain ⟨o, ho, hc⟩ := hr k e.symm
  obtain ⟨cs, t, hcs, -⟩ := h.cells hk
  rw [hcs] at ho
  cases ho
  cases hc

/-- Between two rounds of Scan. -/
def SInv (w : World) (p : Option Addr) (pre : List Item) (W : World) : Prop :=
  (∃ v1 v2, QIs W w.heap.size (w.heap.size + 4) (scanR pre) v1 v2) ∧ Boxed W w.heap.size 25 (.slice none 0 0) ∧ Boxed W (w.heap.size + 1) 3 (.int .i64 0) ∧ Boxed W (w.heap.size + 2) 3 (.int .i64 0) ∧ Boxed W (w.heap.size + 3) 30 (.int .i64 0) ∧ Boxed W (w.heap.size + 5) 59 (.pointer p) ∧ Below w.heap.size w W ∧ ∀ x ∈ pre, x.1.2 = 0
def lastE (l : List Item) : Int := match l.getLast? with | some x => x.1.2 | none => 0
def SInvX (w : World) (c : Code) (pre : List Item) (W : World) : Prop :=
  (c = .ret ∧ ∃ l x, pre = l ++ [x] ∧ x.1.2 ≠ 0) ∧ Boxed W w.heap.size 25 (.slice none 0 0) ∧ Boxed W (w.heap.size + 1) 3 (.int .i64 0) ∧ Boxed W (w.heap.size + 2) 3 (.int .i64 0) ∧ (Boxed W (w.heap.size + 3) 30 (.int .i64 (lastE pre))) ∧ Below w.heap.size w W
theorem sInv_own (w : World) (p : Option Addr) (lo : Nat) (h : w.heap.size ≤ lo) : OwnFrom lo (SInv w p) :=
  OwnFrom.and (Own.from (qis_own _ _ _) _) (OwnFrom.and (Own.from (boxed_own _ _ _) _) (OwnFrom.and (Own.from (boxed_own _ _ _) _) (OwnFrom.and (Own.from (boxed_own _ _ _) _) (OwnFrom.and (Own.from (boxed_own _ _ _) _) (OwnFrom.and (Own.from (boxed_own _ _ _) _) (OwnFrom.and (ownFrom_below (Nat.le_refl _) h) (ownFrom_pure _ _)))))))
theorem sInvX_own (w : World) (lo : Nat) (h : w.heap.size ≤ lo) (c : Code) : OwnFrom lo (SInvX w c) :=
  OwnFrom.and (ownFrom_pure _ _) (OwnFrom.and (Own.from (boxed_own _ _ _) _) (OwnFrom.and (Own.from (boxed_own _ _ _) _) (OwnFrom.and (Own.from (boxed_own _ _ _) _) (OwnFrom.and (Own.from (boxed_own _ _ _) _) (ownFrom_below (Nat.le_refl _) h)))))

/-- The end of Scan: the four results lie in their boxes. -/
theorem fin14 {P : Ending → World → Prop} (w W : World) (D : Nat) (v : Value) (q1 q2 q3 : Int) (hK : W.heap[D]? = some (.deferred (some []))) (b0 : Boxed W w.heap.size 25 v) (b1 : Boxed W (w.heap.size + 1) 3 (.int .i64 q1)) (b2 : Boxed W (w.heap.size + 2) 3 (.int .i64 q2)) (b3 : Boxed W (w.heap.size + 3) 30 (.int .i64 q3))
    {tmps : Array Value} (h2 : tmps[2]?.getD undef = .pointer (some ⟨w.heap.size, 0, none⟩)) (h3 : tmps[3]?.getD undef = .pointer (some ⟨w.heap.size + 1, 0, none⟩)) (h4 : tmps[4]?.getD undef = .pointer (some ⟨w.heap.size + 2, 0, none⟩)) (h5 : tmps[5]?.getD undef = .pointer (some ⟨w.heap.size + 3, 0, none⟩))
    (hP : P (.returned (.tuple #[v, .int .i64 q1, .int .i64 q2, .int .i64 q3])) (W.putObj D (.deferred none))) :
    bodyPostM Fence.wide 5 Tryz.prog Tryz.f128 P .ret { tmps := tmps, defers := [{ target := .collected D, args := #[] }] } W := by
  refine ⟨by simp, .inl ⟨_, _, rfl, run_takeDeferred hK, ?_⟩⟩
  have c0 := cell_kept b0.cell (grownBy_putObj' W D (.deferred none)) (fun r e => by cases e; exact ⟨_, hK, rfl⟩)
  have c1 := cell_kept b1.cell (grownBy_putObj' W D (.deferred none)) (fun r e => by cases e; exact ⟨_, hK, rfl⟩)
  have c2 := cell_kept b2.cell (grownBy_putObj' W D (.deferred none)) (fun r e => by cases e; exact ⟨_, hK, rfl⟩)
  have c3 := cell_kept b3.cell (grownBy_putObj' W D (.deferred none)) (fun r e => by cases e; exact ⟨_, hK, rfl⟩)
  refine ⟨.tuple #[_, .int .i64 q1, .int .i64 q2, .int .i64 q3], ?_, hP⟩
  simp [results, Tryz.results128, go_sem, h2, h3, h4, h5, c0, c1, c2, c3]

set_option maxHeartbeats 2000000 in
theorem scan14 (p : Option Addr) (Q : World → Prop) (rd : Nat → ByteArray × Int) (L : List Item) (hL : Gives rd L) (hLl : L.length ≤ 10000) (w : World)
    (HQb : ∀ W W', Q W → Below W.heap.size W W' → Q W') (HQt : ∀ W W', Q W → Turn (GB w.heap.size (w.heap.size + 5)) W W' → Q W')
    (HR : ∀ W, Q W → ∀ i : Nat, Calls Tryz.prog 193 #[.pointer p, .int .i64 (i : Int)] W fun e w' => e = .returned (.tuple #[.string (rd i).1, .int .i64 (rd i).2]) ∧ Below W.heap.size W w')
    (hQ : Q w) :
    Calls Tryz.prog 128 #[.pointer p] w fun e w' => Below w.heap.size w w' ∧
      ((∃ v, (∀ x ∈ L, x.1.2 = 0) ∧ e = .returned (.tuple #[v, .int .i64 ((scanR L).occ : Int), .int .i64 ((scanR L).great : Int), .int .i64 0]) ∧ w'.ownsRow w.heap.size 9 1 v (scanR L).recs.length (strs (scanR L).recs)) ∨
       ((∃ x ∈ L, x.1.2 ≠ 0) ∧ e = .returned (.tuple #[.slice none 0 0, .int .i64 0, .int .i64 0, .int .i64 (lastE L)]))) := by
  have HS := Lib.hid (sectors40 p)
  have HLL := Lib.hid hL
  have HQB := Lib.hid HQb
  have HQT := Lib.hid HQt
  have HRD := Lib.hid HR
  have HQ := Lib.hid hQ
  clear hL HQb HQt HR hQ
  refine (callsIn_wide (n := 5)).1 ?_
  refine callsIn_of_wp_marks Tryz.func128 rfl trivial ?_ rfl
  simp only [Tryz.ntmps128, List.size_toArray, List.length_cons, List.length_nil, Nat.reduceAdd, Nat.reduceSub, Array.replicate_succ, Array.replicate_zero, List.push_toArray, List.append_toArray, List.nil_append, List.cons_append]
  gi_wp2_with (refine ⟨trivial, ?_⟩; gi_at_call 168; refine (callsIn_wide.2 (HS.out _)).mono ?_; rintro e w' ⟨rfl, rfl⟩)
  simp only [Nat.add_assoc, Nat.reduceAdd]
  have bA := ((((((Boxed.new w 25 (.slice none 0 0)).alloc (.cells #[.int .i64 0] 3)).alloc (.cells #[.int .i64 0] 3)).alloc (.cells #[.int .i64 0] 30)).alloc (.cells #[.slice none 0 0, .int .i64 0, .int .i64 0, .int .i64 0, .bool false, .int .i64 0, .int .i64 0, .slice none 0 0] 248)).alloc (.cells #[.pointer p] 59))
  have bB := (((((Boxed.new (w.alloc (.cells #[.slice none 0 0] 25)) 3 (.int .i64 0)).alloc (.cells #[.int .i64 0] 3)).alloc (.cells #[.int .i64 0] 30)).alloc (.cells #[.slice none 0 0, .int .i64 0, .int .i64 0, .int .i64 0, .bool false, .int .i64 0, .int .i64 0, .slice none 0 0] 248)).alloc (.cells #[.pointer p] 59))
  have bC := ((((Boxed.new ((w.alloc (.cells #[.slice none 0 0] 25)).alloc (.cells #[.int .i64 0] 3)) 3 (.int .i64 0)).alloc (.cells #[.int .i64 0] 30)).alloc (.cells #[.slice none 0 0, .int .i64 0, .int .i64 0, .int .i64 0, .bool false, .int .i64 0, .int .i64 0, .slice none 0 0] 248)).alloc (.cells #[.pointer p] 59))
  have bD := (((Boxed.new (((w.alloc (.cells #[.slice none 0 0] 25)).alloc (.cells #[.int .i64 0] 3)).alloc (.cells #[.int .i64 0] 3)) 30 (.int .i64 0)).alloc (.cells #[.slice none 0 0, .int .i64 0, .int .i64 0, .int .i64 0, .bool false, .int .i64 0, .int .i64 0, .slice none 0 0] 248)).alloc (.cells #[.pointer p] 59))
  have bE := (Below.heap_alloc _ (.cells #[.pointer p] 59) _ (by simp)).trans (heap_alloc_new ((((w.alloc (.cells #[.slice none 0 0] 25)).alloc (.cells #[.int .i64 0] 3)).alloc (.cells #[.int .i64 0] 3)).alloc (.cells #[.int .i64 0] 30)) (.cells #[.slice none 0 0, .int .i64 0, .int .i64 0, .int .i64 0, .bool false, .int .i64 0, .int .i64 0, .slice none 0 0] 248))
  have bF := Boxed.new (((((w.alloc (.cells #[.slice none 0 0] 25)).alloc (.cells #[.int .i64 0] 3)).alloc (.cells #[.int .i64 0] 3)).alloc (.cells #[.int .i64 0] 30)).alloc (.cells #[.slice none 0 0, .int .i64 0, .int .i64 0, .int .i64 0, .bool false, .int .i64 0, .int .i64 0, .slice none 0 0] 248)) 59 (.pointer p)
  have hB0 : Below w.heap.size w ((((((w.alloc (.cells #[.slice none 0 0] 25)).alloc (.cells #[.int .i64 0] 3)).alloc (.cells #[.int .i64 0] 3)).alloc (.cells #[.int .i64 0] 30)).alloc (.cells #[.slice none 0 0, .int .i64 0, .int .i64 0, .int .i64 0, .bool false, .int .i64 0, .int .i64 0, .slice none 0 0] 248)).alloc (.cells #[.pointer p] 59)) :=
    ((((((Below.refl _ w).alloc (Nat.le_refl _) _).alloc (by simp) _).alloc (by simp; omega) _).alloc (by simp; omega) _).alloc (by simp; omega) _).alloc (by simp; omega) _
  have hsz : ((((((w.alloc (.cells #[.slice none 0 0] 25)).alloc (.cells #[.int .i64 0] 3)).alloc (.cells #[.int .i64 0] 3)).alloc (.cells #[.int .i64 0] 30)).alloc (.cells #[.slice none 0 0, .int .i64 0, .int .i64 0, .int .i64 0, .bool false, .int .i64 0, .int .i64 0, .slice none 0 0] 248)).alloc (.cells #[.pointer p] 59)).heap.size = w.heap.size + 6 := by simp
  simp only [World.size_alloc, Nat.add_assoc, Nat.reduceAdd] at bB bC bD bE bF
  generalize ((((((w.alloc (.cells #[.slice none 0 0] 25)).alloc (.cells #[.int .i64 0] 3)).alloc (.cells #[.int .i64 0] 3)).alloc (.cells #[.int .i64 0] 30)).alloc (.cells #[.slice none 0 0, .int .i64 0, .int .i64 0, .int .i64 0, .bool false, .int .i64 0, .int .i64 0, .slice none 0 0] 248)).alloc (.cells #[.pointer p] 59)) = W0 at bA bB bC bD bE bF hB0 hsz ⊢
  have hq0 : QIs W0 w.heap.size (w.heap.size + 4) (scanR []) (.slice none 0 0) (.slice none 0 0) := ⟨bE, World.ownsRow_nil _ _ _ _, World.ownsRow_nil _ _ _ _, by omega⟩
  have hn : w.heap.size ≤ W0.heap.size := by omega
  refine wpIn_rangeFunc_ownH rfl (by omega) (gf := 192) (lb := #[.pointer (some ⟨w.heap.size + 5, 0, none⟩)]) rfl trivial (enters_of Tryz.func192 (by kernel_rfl) rfl)
    (iter58 4 (by omega) w.heap.size (w.heap.size + 5) (.pointer p) Q rd L HLL.out (by omega) HQB.out HQT.out HRD.out W0 (HQB.out _ _ HQ.out hB0) bF.cell)
    (fun h k => h.trans k (fun i hi => .inl hi))
    (fun W l o o' hl ho hc _ => ⟨rfl, rfl, rfl, by simp [World.putObj], fun k _ hk => World.putObj_heap_other (fun e => hk ⟨by omega, by omega⟩)⟩)
    (Below.refl _ _) (fun _ => rfl)
    (SInv w p) (SInvX w) (sInv_own w p _ hn) (sInvX_own w _ hn)
    ⟨⟨_, _, hq0⟩, bA, bB, bC, bD, bF, hB0, fun x hx => by simp at hx⟩
    (fun x a' _ => a' = { tmps := #[.pointer p, undef, .pointer (some ⟨w.heap.size, 0, none⟩), .pointer (some ⟨w.heap.size + 1, 0, none⟩), .pointer (some ⟨w.heap.size + 2, 0, none⟩), .pointer (some ⟨w.heap.size + 3, 0, none⟩), .pointer (some ⟨w.heap.size + 4, 0, none⟩), .string x.1.1, .int .i64 x.1.2, .pointer p,
        .func (.func 192) #[] #[.pointer (some ⟨w.heap.size + 5, 0, none⟩)], .string x.1.1, .int .i64 x.1.2, undef, undef, undef, undef, undef, undef, undef, undef, undef, undef, undef], defers := [] })
    (fun _ _ _ _ _ _ hs _ _ => hs) ?assign ?body ?done ?stop
  case assign =>
    rintro lp pre x W K hi hK
    unfold encR
    have HR := Lib.hid (hK _ W (KeepsFrom.refl _ _) (Turn.refl _ _) hi rfl)
    clear hK hi
    gi_wp2
    exact HR.out
  case body =>
    rintro lp pre ⟨⟨tx, er⟩, hx64⟩ a' W hlp ⟨rr, hrr⟩ ⟨⟨v1, v2, hq⟩, b0, b1, b2, b3, b5, hbel, hz⟩ rfl hlt
    have HX := Lib.hid hx64
    simp only at hx64 HX ⊢
    by_cases h0 : er = 0
    · have e0 : (er != (0 : Int)) = false := by rw [h0]; rfl
      have hok := scanR_okRd pre (by omega)
      have hvis : (scanR pre).vis < 1000000 := by
        have := (scanL_ok (pre.map (·.1.1))).2.2.2
        rw [List.length_map] at this
        show (scanL _).vis < _
        omega
      have HV := Lib.hid (visit41 hq hok hvis hbel.size tx (hx64 h0))
      have hG : ∀ k, RF (w.heap.size + 4) v1 v2 k → GB w.heap.size (w.heap.size + 5) k := fun k hk => by
        obtain ⟨cs, t, hc, ht⟩ := hq.cells hk
        refine ⟨hq.ge hk, ty_ne hc b5 (by rcases ht with rfl | rfl | rfl <;> decide)⟩
      have hK : ∀ k cs t, RF (w.heap.size + 4) v1 v2 k → W.heap[k]? = some (.cells cs t (0, 0)) → (t = 248 ∨ t = 9 ∨ t = 5) := fun k cs t hk hc => by
        obtain ⟨cs', t', hc', ht⟩ := hq.cells hk
        rw [hc] at hc'
        cases hc'
        exact ht
      have hbx : ∀ (W' : World) (b : Nat) (t : TypeId) (v : Value), Turn (RF (w.heap.size + 4) v1 v2) W W' → Boxed W b t v → ¬ (t = 248 ∨ t = 9 ∨ t = 5) → Boxed W' b t v := fun W' b t v ht hb hn =>
        (ht.block b (Array.getElem?_eq_some_iff.1 hb).1 (fun hk => hn (hK b _ t hk hb))).trans hb
      have HNX : Hid (∀ W', (∃ u1 u2, QIs W' w.heap.size (w.heap.size + 4) (visit (scanR pre) tx) u1 u2 ∧ Turn (RF (w.heap.size + 4) v1 v2) W W' ∧ ∀ k, RF (w.heap.size + 4) u1 u2 k → RF (w.heap.size + 4) v1 v2 k ∨ W.heap.size ≤ k) →
          KeepsFrom W0.heap.size W W' ∧ Turn (GB w.heap.size (w.heap.size + 5)) W W' ∧ SInv w p (pre ++ [⟨(tx, er), HX.out⟩]) W') := by
        rintro W' ⟨u1, u2, hq', ht', -⟩
        refine ⟨⟨ht'.size, fun k o _ hk ho => (ht'.block k (Array.getElem?_eq_some_iff.1 hk).1 (fun hr => ?_)).trans hk⟩, ht'.mono hG, ⟨u1, u2, by rw [scanR_snoc]; exact hq'⟩, hbx _ _ _ _ ht' b0 (by decide), hbx _ _ _ _ ht' b1 (by decide), hbx _ _ _ _ ht' b2 (by decide), hbx _ _ _ _ ht' b3 (by decide), hbx _ _ _ _ ht' b5 (by decide), hbel.trans (ht'.below w.heap.size hbel.size (fun k hk => hq.ge hk)), fun x hx => ?_⟩
        · obtain ⟨cs, t, hc, -⟩ := hq.cells hr
          rw [hc] at hk
          cases hk
          cases ho
        · rcases List.mem_append.1 hx with hx | hx
          · exact hz x hx
          · have : x = ⟨(tx, er), HX.out⟩ := by simpa using hx
            rw [this]; exact h0
      clear hq b0 b1 b2 b3 b5 hbel hz hok hvis hG hK hbx
      gi_wp2_with fail
      refine ⟨trivial, (CallsIn.inRound lp (callsIn_wide.2 HV.out)).mono ?_⟩
      rintro ee w2 ⟨rfl, hv⟩
      have HF := Lib.hid (HNX.out _ hv)
      clear hv HNX HV
      gi_wp2
      exact HF.out
    · have e0 : (er != (0 : Int)) = true := by rw [bne, Bool.not_eq_true', beq_eq_false_iff_ne]; exact h0
      have a0 := b0.cell
      have a1 := b1.cell
      have a2 := b2.cell
      have a3 := b3.cell
      have f0 := b0.frozen
      have f1 := b1.frozen
      have f2 := b2.frozen
      have f3 := b3.frozen
      have HF : Hid (KeepsFrom W0.heap.size W ((((W.setCell ⟨w.heap.size, 0, none⟩ (.slice none 0 0)).setCell ⟨w.heap.size + 1, 0, none⟩ (.int .i64 0)).setCell ⟨w.heap.size + 2, 0, none⟩ (.int .i64 0)).setCell ⟨w.heap.size + 3, 0, none⟩ (.int .i64 er)) ∧
          SInvX w .ret (pre ++ [⟨(tx, er), HX.out⟩]) ((((W.setCell ⟨w.heap.size, 0, none⟩ (.slice none 0 0)).setCell ⟨w.heap.size + 1, 0, none⟩ (.int .i64 0)).setCell ⟨w.heap.size + 2, 0, none⟩ (.int .i64 0)).setCell ⟨w.heap.size + 3, 0, none⟩ (.int .i64 er))) := by
        refine ⟨((((KeepsOthers.setCell _ _ _).trans (KeepsOthers.setCell _ _ _)).trans (KeepsOthers.setCell _ _ _)).trans (KeepsOthers.setCell _ _ _)).from _, ⟨rfl, pre, _, rfl, h0⟩, ?_, ?_, ?_, ?_, ?_⟩
        · exact (((b0.set _).other (by omega) _).other (by omega) _).other (by omega) _
        · exact (((b1.other (by omega) _).set _).other (by omega) _).other (by omega) _
        · exact (((b2.other (by omega) _).other (by omega) _).set _).other (by omega) _
        · have := (((b3.other (B' := w.heap.size) (by omega) (.slice none 0 0)).other (B' := w.heap.size + 1) (by omega) (.int .i64 0)).other (B' := w.heap.size + 2) (by omega) (.int .i64 0)).set (.int .i64 er)
          unfold lastE
          simpa using this
        · exact (((hbel.setCell (Nat.le_refl _) _).setCell (by simp only; omega) _).setCell (by simp only; omega) _).setCell (by simp only; omega) _
      clear b0 b1 b2 b3 b5 hq hbel hz
      gi_wp2
      exact HF.out
  case done =>
    rintro D ys W hD rfl ⟨⟨v1, v2, hq⟩, b0, b1, b2, b3, b5, hbel, hz⟩ hK
    have a0 := b0.cell
    have a1 := b1.cell
    have a2 := b2.cell
    have a3 := b3.cell
    have f0 := b0.frozen
    have f1 := b1.frozen
    have f2 := b2.frozen
    have f3 := b3.frozen
    obtain ⟨vA, vc, rfl⟩ := row_slice hq.o1
    obtain ⟨c0, c1, c2, -, -, -, -, -, -⟩ := rd_cells hq.row
    gi_wp2_with fail
    have HQQ := Lib.hid hq
    have HBB : Hid (Boxed W w.heap.size 25 (.slice none 0 0) ∧ Boxed W (w.heap.size + 1) 3 (.int .i64 0) ∧ Boxed W (w.heap.size + 2) 3 (.int .i64 0) ∧ Boxed W (w.heap.size + 3) 30 (.int .i64 0) ∧ Below w.heap.size w W ∧ W.heap[D]? = some (.deferred (some []))) := ⟨b0, b1, b2, b3, hbel, hK⟩
    clear hq b0 b1 b2 b3 b5 hbel hK
    gi_region
    have hK2 : ((((W.setCell ⟨w.heap.size, 0, none⟩ (.slice vA (scanR ys).recs.length vc)).setCell ⟨w.heap.size + 1, 0, none⟩ (.int .i64 ((scanR ys).occ : Int))).setCell ⟨w.heap.size + 2, 0, none⟩ (.int .i64 ((scanR ys).great : Int))).setCell ⟨w.heap.size + 3, 0, none⟩ (.int .i64 0)).drew.heap[D]? = some (.deferred (some [])) :=
      ((((KeepsOthers.setCell _ _ _).trans (KeepsOthers.setCell _ _ _)).trans (KeepsOthers.setCell _ _ _)).trans (KeepsOthers.setCell _ _ _)).same D _ HBB.out.2.2.2.2.2 rfl
    have e0 : Boxed ((((W.setCell ⟨w.heap.size, 0, none⟩ (.slice vA (scanR ys).recs.length vc)).setCell ⟨w.heap.size + 1, 0, none⟩ (.int .i64 ((scanR ys).occ : Int))).setCell ⟨w.heap.size + 2, 0, none⟩ (.int .i64 ((scanR ys).great : Int))).setCell ⟨w.heap.size + 3, 0, none⟩ (.int .i64 0)).drew w.heap.size 25 (.slice vA (scanR ys).recs.length vc) :=
      (((HBB.out.1.set _).other (by omega) _).other (by omega) _).other (by omega) _
    have e1 : Boxed ((((W.setCell ⟨w.heap.size, 0, none⟩ (.slice vA (scanR ys).recs.length vc)).setCell ⟨w.heap.size + 1, 0, none⟩ (.int .i64 ((scanR ys).occ : Int))).setCell ⟨w.heap.size + 2, 0, none⟩ (.int .i64 ((scanR ys).great : Int))).setCell ⟨w.heap.size + 3, 0, none⟩ (.int .i64 0)).drew (w.heap.size + 1) 3 (.int .i64 ((scanR ys).occ : Int)) :=
      (((HBB.out.2.1.other (B' := w.heap.size) (by omega) _).set _).other (by omega) _).other (by omega) _
    have e2 : Boxed ((((W.setCell ⟨w.heap.size, 0, none⟩ (.slice vA (scanR ys).recs.length vc)).setCell ⟨w.heap.size + 1, 0, none⟩ (.int .i64 ((scanR ys).occ : Int))).setCell ⟨w.heap.size + 2, 0, none⟩ (.int .i64 ((scanR ys).great : Int))).setCell ⟨w.heap.size + 3, 0, none⟩ (.int .i64 0)).drew (w.heap.size + 2) 3 (.int .i64 ((scanR ys).great : Int)) :=
      (((HBB.out.2.2.1.other (B' := w.heap.size) (by omega) _).other (B' := w.heap.size + 1) (by omega) _).set _).other (by omega) _
    have e3 : Boxed ((((W.setCell ⟨w.heap.size, 0, none⟩ (.slice vA (scanR ys).recs.length vc)).setCell ⟨w.heap.size + 1, 0, none⟩ (.int .i64 ((scanR ys).occ : Int))).setCell ⟨w.heap.size + 2, 0, none⟩ (.int .i64 ((scanR ys).great : Int))).setCell ⟨w.heap.size + 3, 0, none⟩ (.int .i64 0)).drew (w.heap.size + 3) 30 (.int .i64 0) :=
      (((HBB.out.2.2.2.1.other (B' := w.heap.size) (by omega) _).other (B' := w.heap.size + 1) (by omega) _).other (B' := w.heap.size + 2) (by omega) _).set _
    have hb2 : Below w.heap.size w ((((W.setCell ⟨w.heap.size, 0, none⟩ (.slice vA (scanR ys).recs.length vc)).setCell ⟨w.heap.size + 1, 0, none⟩ (.int .i64 ((scanR ys).occ : Int))).setCell ⟨w.heap.size + 2, 0, none⟩ (.int .i64 ((scanR ys).great : Int))).setCell ⟨w.heap.size + 3, 0, none⟩ (.int .i64 0)).drew :=
      ((((HBB.out.2.2.2.2.1.setCell (Nat.le_refl _) _).setCell (by simp only; omega) _).setCell (by simp only; omega) _).setCell (by simp only; omega) _).drew
    have ho2 : ((((W.setCell ⟨w.heap.size, 0, none⟩ (.slice vA (scanR ys).recs.length vc)).setCell ⟨w.heap.size + 1, 0, none⟩ (.int .i64 ((scanR ys).occ : Int))).setCell ⟨w.heap.size + 2, 0, none⟩ (.int .i64 ((scanR ys).great : Int))).setCell ⟨w.heap.size + 3, 0, none⟩ (.int .i64 0)).drew.ownsRow w.heap.size 9 1 (.slice vA (scanR ys).recs.length vc) (scanR ys).recs.length (strs (scanR ys).recs) := by
      refine row_keep HQQ.out.o1 fun k hk => ?_
      obtain ⟨cs, hc⟩ := row_ty HQQ.out.o1 hk
      have n0 := ty_ne hc HBB.out.1 (by decide)
      have n1 := ty_ne hc HBB.out.2.1 (by decide)
      have n2 := ty_ne hc HBB.out.2.2.1 (by decide)
      have n3 := ty_ne hc HBB.out.2.2.2.1 (by decide)
      show (World.setCell _ _ _).heap[k]? = _
      rw [Below.heap_setCell _ _ _ _ n3, Below.heap_setCell _ _ _ _ n2, Below.heap_setCell _ _ _ _ n1, Below.heap_setCell _ _ _ _ n0]
    generalize ((((W.setCell ⟨w.heap.size, 0, none⟩ (.slice vA (scanR ys).recs.length vc)).setCell ⟨w.heap.size + 1, 0, none⟩ (.int .i64 ((scanR ys).occ : Int))).setCell ⟨w.heap.size + 2, 0, none⟩ (.int .i64 ((scanR ys).great : Int))).setCell ⟨w.heap.size + 3, 0, none⟩ (.int .i64 0)).drew = W2 at hK2 e0 e1 e2 e3 hb2 ho2 ⊢
    have HP : Hid (Below w.heap.size w (W2.putObj D (.deferred none)) ∧ (W2.putObj D (.deferred none)).ownsRow w.heap.size 9 1 (.slice vA (scanR ys).recs.length vc) (scanR ys).recs.length (strs (scanR ys).recs)) :=
      ⟨hb2.trans (belowK_b (w := w) (Nat.le_refl _) W2 D _ _ (by omega) hK2 rfl rfl), ownsRow_putObj ho2 _ hK2 rfl⟩
    clear c0 c1 c2 a0 a1 a2 a3 f0 f1 f2 f3 HBB HQQ hb2 ho2
    have HZZ := Lib.hid hz
    clear hz
    gi_wp2
    exact fin14 w W2 D _ _ _ _ hK2 e0 e1 e2 e3 rfl rfl rfl rfl ⟨HP.out.1, .inl ⟨_, HZZ.out, rfl, HP.out.2⟩⟩
  case stop =>
    rintro D c pre W hD hpre ⟨⟨rfl, l, x, rfl, hx⟩, b0, b1, b2, b3, hbel⟩ hK
    have hLE : l ++ [x] = L := by
      obtain ⟨r, hr⟩ := hpre
      have hlen : l.length < L.length := by rw [← hr]; simp
      have hg : L[l.length] = x := by
        have : L[l.length]? = some x := by rw [← hr]; simp
        exact (List.getElem?_eq_some_iff.1 this).2
      have h3 := (HLL.out.at_ l.length hlen).2.2 (by rw [hg]; exact hx)
      have : r = [] := by
        have h := congrArg List.length hr
        simp at h
        exact List.eq_nil_of_length_eq_zero (by omega)
      rw [← hr, this, List.append_nil]
    have HF : Hid (Below w.heap.size w (W.putObj D (.deferred none)) ∧ ∃ x ∈ L, x.1.2 ≠ 0) := by
      refine ⟨hbel.trans (belowK_b (w := w) (Nat.le_refl _) W D _ _ (by omega) hK rfl rfl), x, ?_, hx⟩
      rw [← hLE]; simp
    rw [hLE] at b3
    gi_wp2
    exact fin14 w W D _ _ _ _ hK b0 b1 b2 b3 rfl rfl rfl rfl ⟨HF.out.1, .inr ⟨HF.out.2, rfl⟩⟩
end Go.Proofs.YtjanddnlhaionaaGreatDoor.L6
namespace Go.Proofs.YtjanddnlhaionaaGreatDoor.L6
open Go.RowKit Go.Shelf

theorem sh_size {d : D} (h : Ok d) {i : Nat} (hi : i < d.S.length) : (sh d i d.W.length).size = 64 := sh_64 h hi _ (Nat.le_refl _)
def itemsG : List Item := [⟨(ByteArray.empty, 9), fun h => by simp at h⟩]
def itemsD (d : D) (h : Ok d) : List Item := (List.finRange d.S.length).map fun i => ⟨(sh d i.1 d.W.length, 0), fun _ => sh_size h i.2⟩
theorem itemsD_len (d : D) (h : Ok d) : (itemsD d h).length = d.S.length := by simp [itemsD]
theorem itemsD_scan (d : D) (h : Ok d) : scanR (itemsD d h) = scanD d := by
  unfold scanR scanD itemsD shown
  rw [List.map_map]
  congr 1
  refine List.ext_getElem (by simp) fun i h1 h2 => ?_
  simp
theorem gives_gone (d : D) (hg : d.gone = true) : Gives (fun i => (readS d i, readE d i)) itemsG := by
  refine ⟨fun i h => ?_, fun h => ?_⟩
  · have h0 : i = 0 := by simp [itemsG] at h; exact h
    subst h0
    refine ⟨?_, by simp [itemsG], fun _ => by simp [itemsG]⟩
    simp [itemsG, readS, readE, hg]
  · have := h _ (List.mem_cons_self)
    simp at this
theorem gives_live (d : D) (h : Ok d) (hg : d.gone = false) : Gives (fun i => (readS d i, readE d i)) (itemsD d h) := by
  refine ⟨fun i hi => ?_, fun _ => ?_⟩
  · rw [itemsD_len] at hi
    have hb : hasB d (i : Int) = true := by rw [hasB_iff]; omega
    refine ⟨?_, by simp [itemsD], fun hne => absurd (by simp [itemsD]) hne⟩
    simp [itemsD, readS, readE, hg, hb]
  · rw [itemsD_len]
    have hb : hasB d (d.S.length : Int) = false := by
      cases hq : hasB d (d.S.length : Int) with
      | false => rfl
      | true => rw [hasB_iff] at hq; omega
    simp [readE, hg, hb]

theorem scanP {F : Nat → Prop} {b : Nat} {d : D} {w : World} (h : PAt w F b d) (hw : d.W.length ≤ 1000000) :
    Calls Tryz.prog 128 #[.pointer (some ⟨b, 0, none⟩)] w fun e w' => Below w.heap.size w w' ∧
      if d.gone then e = .returned (.tuple #[.slice none 0 0, .int .i64 0, .int .i64 0, .int .i64 9])
      else ∃ v, e = .returned (.tuple #[v, .int .i64 ((scanD d).occ : Int), .int .i64 ((scanD d).great : Int), .int .i64 0]) ∧ w'.ownsRow w.heap.size 9 1 v (scanD d).recs.length (strs (scanD d).recs) := by
  have hQt : ∀ W W', PAt W F b d → Turn (GB w.heap.size (w.heap.size + 5)) W W' → PAt W' F b d := fun W W' hp ht => hp.keep ht (fun k hk hg => by have := h.lt k hk; have := hg.1; omega)
  have hn2 := h.ok.n2
  have hR : ∀ W, PAt W F b d → ∀ i : Nat, Calls Tryz.prog 193 #[.pointer (some ⟨b, 0, none⟩), .int .i64 (i : Int)] W fun e w' => e = .returned (.tuple #[.string (readS d (i : Int)), .int .i64 (readE d (i : Int))]) ∧ Below W.heap.size W w' := fun W hp i => read22 hp i hw
  cases hg : d.gone with
  | true =>
    refine (scan14 (some ⟨b, 0, none⟩) (fun W => PAt W F b d) (fun i : Nat => (readS d i, readE d i)) itemsG (gives_gone d hg) (by simp [itemsG]) w (fun W W' hp hb => hp.below hb) hQt hR h).mono ?_
    rintro e w' ⟨hb, ⟨v, hz, -⟩ | ⟨-, he⟩⟩
    · have := hz _ (List.mem_cons_self)
      simp at this
    · refine ⟨hb, ?_⟩
      rw [if_pos rfl, he]
      rfl
  | false =>
    refine (scan14 (some ⟨b, 0, none⟩) (fun W => PAt W F b d) (fun i : Nat => (readS d i, readE d i)) (itemsD d h.ok) (gives_live d h.ok hg) (by rw [itemsD_len]; omega) w (fun W W' hp hb => hp.below hb) hQt hR h).mono ?_
    rintro e w' ⟨hb, ⟨v, -, he, ho⟩ | ⟨⟨x, hx, hne⟩, -⟩⟩
    · refine ⟨hb, ?_⟩
      rw [if_neg (by simp)]
      rw [itemsD_scan] at he ho
      exact ⟨v, he, ho⟩
    · exfalso
      unfold itemsD at hx
      rw [List.mem_map] at hx
      obtain ⟨i, -, rfl⟩ := hx
      exact hne rfl

/-! ### The tape in memory -/
def logRow (b : Nat) (t : T) : Array Value := #[.pointer (some ⟨b, 0, none⟩), .int .i64 (t.life : Int), .int .i64 (t.count : Int), .int .i64 (t.pos : Int), .int .i64 t.err]
structure LogAt (w : World) (bt bl b : Nat) (t : T) : Prop where
  rt : w.heap[bt]? = some (.cells #[.pointer (some ⟨bl, 0, none⟩)] 203 (0, 0))
  rl : w.heap[bl]? = some (.cells (logRow b t) 201 (0, 0))
theorem great_lt (l : List ByteArray) : (scanL l).great < 4294967296 := by
  unfold scanL
  rw [show l = l.reverse.reverse by simp]
  generalize l.reverse = m
  induction m with
  | nil => simp [rd0]
  | cons a m ih =>
    rw [List.reverse_cons, List.foldl_append]
    show (visit _ a).great < _
    rw [visit_eq]
    have hp : (parseS a.data.toList).life < 4294967296 := by
      unfold parseS says
      have h4 : num (a.data.toList.take 4) < 4294967296 := by
        refine Nat.lt_of_lt_of_le (num_lt _) ?_
        exact Nat.pow_le_pow_right (n := 256) (by omega) (show (a.data.toList.take 4).length ≤ 4 by rw [List.length_take]; omega)
      by_cases hb : badSize a.data.toList = true
      · simp [hb, zeroS]
      · by_cases hv : isValid a.data.toList = true
        · simp only [hb, hv, if_true, Bool.false_eq_true, if_false, Option.getD_some, secOf]
          exact h4
        · simp [hb, hv, zeroS]
    split
    · simp only [rd2]; omega
    · unfold takeS
      split <;> (simp only [rd2]; omega)
theorem occ_le (l : List ByteArray) : (scanL l).occ ≤ l.length := by
  have hv : ∀ l, (scanL l).vis = l.length := fun l => (scanL_ok l).2.2.2
  unfold scanL at hv ⊢
  rw [show l = l.reverse.reverse by simp]
  generalize l.reverse = m
  induction m with
  | nil => simp [rd0]
  | cons a m ih =>
    have hv' := hv m.reverse
    rw [List.reverse_cons, List.foldl_append, List.length_append]
    show (visit _ a).occ ≤ _
    rw [visit_eq]
    split
    · simp only [rd2]; omega
    · unfold takeS
      split
      · simp only [rd2, List.length_singleton]; omega
      · simp only [rd2]; omega
end Go.Proofs.YtjanddnlhaionaaGreatDoor.L6
