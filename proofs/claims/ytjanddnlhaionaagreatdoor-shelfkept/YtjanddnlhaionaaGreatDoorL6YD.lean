/-
  Contract of take. No condition.
-/
import Derived.Test.YtjanddnlhaionaaGreatDoorL6YC
namespace Go.Proofs.YtjanddnlhaionaaGreatDoor.L6
open Go.RowKit

/-- The reader in the middle of take, and the sector in its box. -/
structure QS (w : World) (B r : Nat) (v1 v2 : Value) (s : Sec) (rd : Rd) (u1 u2 : Value) (W : World) : Prop where
  q : QIs W B r rd u1 u2
  s : W.heap[w.heap.size]? = some (.cells (secV s) 289 (0, 0))
  t : Turn (RF r v1 v2) w W
  g : ∀ k, RF r u1 u2 k → RF r v1 v2 k ∨ w.heap.size ≤ k
set_option maxRecDepth 100000 in
theorem QS.set {w : World} {B r : Nat} {v1 v2 : Value} {s : Sec} {rd rd' : Rd} {u1 u2 : Value} {W : World} (h : QS w B r v1 v2 s rd u1 u2 W) (j : Nat) (u : Value) (hr : rd'.recs = rd.recs) (hd : rd'.data = rd.data) (hu : (rdRow rd u1 u2).setIfInBounds j u = rdRow rd' u1 u2) : QS w B r v1 v2 s rd' u1 u2 (W.setCell ⟨r, j, none⟩ u) :=
  ⟨h.q.set j u hr hd hu, by rw [Below.heap_setCell _ _ _ _ (fun e => ty_ne h.s h.q.row (by decide) e)]; exact h.s, h.t.setCell _ _ (.inl (.inl rfl)), h.g⟩
set_option maxRecDepth 100000 in
theorem QS.drew {w : World} {B r : Nat} {v1 v2 : Value} {s : Sec} {rd : Rd} {u1 u2 : Value} {W : World} (h : QS w B r v1 v2 s rd u1 u2 W) : QS w B r v1 v2 s rd u1 u2 W.drew :=
  ⟨h.q.keep (fun _ _ => rfl), h.s, h.t.drew, h.g⟩
set_option maxRecDepth 100000 in
theorem QS.data' {w : World} {B r : Nat} {v1 v2 : Value} {s : Sec} {rd rd' : Rd} {u1 u2 u : Value} {W w4 : World} (h : QS w B r v1 v2 s rd u1 u2 W) (hg : W.grownBy w4 u2.ownBlock) (ho : w4.ownsRow B 5 1 u rd'.data.length (bytesV rd'.data)) (hat : ∀ k, u.ownBlock = some k → u2.ownBlock = some k ∨ W.heap.size ≤ k) (hr : rd'.recs = rd.recs) (hu : (rdRow rd u1 u2).setIfInBounds 7 u = rdRow rd' u1 u) : QS w B r v1 v2 s rd' u1 u (w4.setCell ⟨r, 7, none⟩ u) := by
  refine ⟨h.q.data' hg ho hr hu, ?_, ?_, ?_⟩
  · rw [Below.heap_setCell _ _ _ _ (fun e => ty_ne h.s h.q.row (by decide) e), hg.block _ (Array.getElem?_eq_some_iff.1 h.s).1 (fun e => ?_)]
    · exact h.s
    · obtain ⟨cs, hc⟩ := row_ty h.q.o2 e.symm
      exact ty_ne h.s hc (by decide) rfl
  · refine (h.t.trans (Turn.of_grown (F := fun k => u2.ownBlock = some k) hg (fun k e => e)) (fun k e => h.g k (.inr (.inr e)))).setCell _ _ (.inl (.inl rfl))
  · intro k hk
    rcases hk with hk | hk | hk
    · exact h.g k (.inl hk)
    · exact h.g k (.inr (.inl hk))
    · rcases hat k hk with h1 | h1
      · exact h.g k (.inr (.inr h1))
      · exact .inr (Nat.le_trans h.t.size h1)
set_option maxRecDepth 100000 in
theorem QS.recs' {w : World} {B r : Nat} {v1 v2 : Value} {s : Sec} {rd rd' : Rd} {u1 u2 u : Value} {W w4 : World} (h : QS w B r v1 v2 s rd u1 u2 W) (hg : W.grownBy w4 u1.ownBlock) (ho : w4.ownsRow B 9 1 u rd'.recs.length (strs rd'.recs)) (hat : ∀ k, u.ownBlock = some k → u1.ownBlock = some k ∨ W.heap.size ≤ k) (hd : rd'.data = rd.data) (hu : (rdRow rd u1 u2).setIfInBounds 0 u = rdRow rd' u u2) : QS w B r v1 v2 s rd' u u2 (w4.setCell ⟨r, 0, none⟩ u) := by
  refine ⟨h.q.recs' hg ho hd hu, ?_, ?_, ?_⟩
  · rw [Below.heap_setCell _ _ _ _ (fun e => ty_ne h.s h.q.row (by decide) e), hg.block _ (Array.getElem?_eq_some_iff.1 h.s).1 (fun e => ?_)]
    · exact h.s
    · obtain ⟨cs, hc⟩ := row_ty h.q.o1 e.symm
      exact ty_ne h.s hc (by decide) rfl
  · refine (h.t.trans (Turn.of_grown (F := fun k => u1.ownBlock = some k) hg (fun k e => e)) (fun k e => h.g k (.inr (.inl e)))).setCell _ _ (.inl (.inl rfl))
  · intro k hk
    rcases hk with hk | hk | hk
    · exact h.g k (.inl hk)
    · rcases hat k hk with h1 | h1
      · exact h.g k (.inr (.inl h1))
      · exact .inr (Nat.le_trans h.t.size h1)
    · exact h.g k (.inr (.inr hk))
set_option maxRecDepth 100000 in
theorem QS.nilData {w : World} {B r : Nat} {v1 v2 : Value} {s : Sec} {rd rd' : Rd} {u1 u2 : Value} {W : World} (h : QS w B r v1 v2 s rd u1 u2 W) (hr : rd'.recs = rd.recs) (hd : rd'.data = []) (hu : (rdRow rd u1 u2).setIfInBounds 7 (.slice none 0 0) = rdRow rd' u1 (.slice none 0 0)) : QS w B r v1 v2 s rd' u1 (.slice none 0 0) (W.setCell ⟨r, 7, none⟩ (.slice none 0 0)) := by
  refine ⟨⟨by rw [setCell_eq_setRow W r 7 _ _ _ _ h.q.row, hu]; exact setRow_heap W r _ _ _ _ h.q.row, ?_, by rw [hd]; exact World.ownsRow_nil _ _ _ _, h.q.br⟩, ?_, h.t.setCell _ _ (.inl (.inl rfl)), fun k hk => ?_⟩
  · rw [hr]
    exact row_keep h.q.o1 fun k e => Below.heap_setCell _ _ _ _ (h.q.ne1 e)
  · rw [Below.heap_setCell _ _ _ _ (fun e => ty_ne h.s h.q.row (by decide) e)]; exact h.s
  · rcases hk with hk | hk | hk
    · exact h.g k (.inl hk)
    · exact h.g k (.inr (.inl hk))
    · cases hk
set_option maxRecDepth 100000 in
theorem QS.alloc {w : World} {B r : Nat} {v1 v2 : Value} {s : Sec} {rd : Rd} {u1 u2 : Value} {W : World} (h : QS w B r v1 v2 s rd u1 u2 W) (o : Obj) : QS w B r v1 v2 s rd u1 u2 (W.alloc o) :=
  ⟨h.q.below ((Below.refl _ _).alloc (Nat.le_refl _) _), by rw [Below.heap_alloc _ _ _ (Array.getElem?_eq_some_iff.1 h.s).1]; exact h.s, h.t.alloc _, h.g⟩
set_option maxRecDepth 100000 in
theorem conv_own70 {B : Nat} {v : Value} {n : Nat} {l : List UInt8} {w : World} (h : w.ownsRow B 5 1 v n (bytesV l)) (hn : n = l.length) :
    (convert 124 9 v).run Tryz.prog w = .ok (.string (mkB l)) w := by
  subst hn
  rcases h.2 with ⟨e1, e2⟩ | ⟨g, cap', cur, e, _, hg, _, _, _, ht⟩
  · have hl : l = [] := List.length_eq_zero_iff.1 e2
    subst hl
    subst e1
    exact run_convert_bytes_nil w 124 5 Tryz.underlying124 Tryz.underlying5 0 0 9 Tryz.under9
  · subst e
    unfold mkB
    rw [← strOf_bytes]
    refine run_convert_bytes_arg w 124 5 Tryz.underlying124 Tryz.underlying5 g 0 _ cap' _ (by simp) (fun i hi => ?_) 9 Tryz.under9
    have hc := World.ownsRow.cells (g := g) h rfl i (.int .u8 ((l.map fun c => (c.toNat : Int)).getD i 0)) (by simp [bytesV, List.getElem?_eq_getElem (show i < l.length by simpa using hi)])
    have hplain : (⟨g, 0, none⟩ : Addr).add i = ⟨g, i, none⟩ := by unfold Addr.add; split <;> simp_all
    rw [hplain] at hc
    rw [Nat.zero_add]
    exact hc
set_option maxRecDepth 100000 in
theorem run_append_str_at {P : Program} {w : World} (t u ty : TypeId) (base : Nat) (e : TypeId) (i : TypeInfo) (ht : P.underlying t = some (.slice e)) (hu : P.underlying u = some .string) (hi : P.info? e = some i) (hz : i.zero = some (.int .u8 0)) (hsize : i.size = 1) (hby : i.bytes = 1)
    (v : Value) (n : Nat) (xs : List Value) (hown : w.ownsRow base e 1 v n xs) (s : ByteArray) (hb : n + s.size ≤ 140737488355328) (hbase : base ≤ w.heap.size) :
    ∃ v' w', (Builtin.append_ #[t, u] ty #[v, .string s]).run P w = .ok v' w' ∧ w'.ownsRow base e 1 v' (n + s.size) (xs ++ bytesV s.data.toList) ∧ w.grownBy w' v.ownBlock ∧ ∀ k, v'.ownBlock = some k → v.ownBlock = some k ∨ w.heap.size ≤ k := by
  obtain ⟨v', w', hr, h2, h3, -⟩ := Lib.run_append_own_string (P := P) w base t u ty e i ht hu hi hz hsize hby v n xs hown s (by unfold maxLen; omega) hb hbase
  refine ⟨v', w', hr, h2, h3, fun k hk => ?_⟩
  have hxl : xs.length = n := by simpa using hown.1
  rcases hown.2 with ⟨hv, hn⟩ | ⟨g, cap, cur, hv, hbg, hg, hnc, hcm, hcs, htake⟩
  · right
    subst hv hn
    have hx : xs = [] := List.eq_nil_of_length_eq_zero hxl
    subst hx
    obtain ⟨v2, w2, hr2, h22, -, -⟩ := Lib.run_append_own_string (P := P) w w.heap.size t u ty e i ht hu hi hz hsize hby (.slice none 0 0) 0 [] (World.ownsRow_nil _ _ _ _) s (by unfold maxLen; omega) hb (Nat.le_refl _)
    rw [hr] at hr2
    injection hr2 with e1 e2
    subst e1
    exact row_ge h22 hk
  · subst hv
    by_cases hroom : n + s.size ≤ cap
    · left
      have hcs' : cur.size = cap := by simpa using hcs
      have hr2 := Lib.run_append_room_string (P := P) w t u ty e i ht hu hi hsize g n cap cur hg s hroom (by omega)
      rw [hr] at hr2
      injection hr2 with e1 e2
      rw [e1] at hk
      exact hk
    · right
      have holds : ∀ j u, xs[j]? = some u → w.cell? ((⟨g, 0, none⟩ : Addr).add j) = some u := hown.cells (g := g) rfl
      have hr2 := Lib.run_append_grow_string (P := P) w t u ty e i (.int .u8 0) ht hu hi hz ⟨g, 0, none⟩ n cap xs (by rw [hsize]; simpa using hxl) holds s (by omega) (by omega) (by rw [hby]; exact growslice_fits (by omega) (by omega))
      rw [hr] at hr2
      injection hr2 with e1 e2
      rw [e1] at hk
      have : w.heap.size = k := by simpa [Value.ownBlock] using hk
      omega
set_option maxRecDepth 100000 in
/-- append(b, s...), s a string, at a step of a region that draws. -/
theorem step_append_str {P : Program} {w : World} {ops : Array Oper} {o : Oper} {a : Act} {K : Act → World → Prop} {Q : Exit → Act → World → Prop} {E : Prop} (hgd : o.guard = none) (sl x : Operand) (t u : TypeId)
    (ho : o.op = .call { callee := .builtin .append, args := #[sl, x], argTypes := #[t, u] })
    (base : Nat) (e : TypeId) (i : TypeInfo) (ht : P.underlying t = some (.slice e)) (hu : P.underlying u = some .string) (hi : P.info? e = some i) (hz : i.zero = some (.int .u8 0)) (hsize : i.size = 1) (hby : i.bytes = 1)
    (v : Value) (n : Nat) (xs : List Value) (hs : a.eval sl = v) (hown : w.ownsRow base e 1 v n xs) (s : ByteArray) (hx : a.eval x = .string s) (hb : n + s.size ≤ 140737488355328) (hbase : base ≤ w.heap.size)
    (h : ∀ A cap w', w'.ownsRow base e 1 (.slice A (n + s.size) cap) (n + s.size) (xs ++ bytesV s.data.toList) → w.grownBy w' v.ownBlock → (∀ k, (Value.slice A (n + s.size) cap).ownBlock = some k → v.ownBlock = some k ∨ w.heap.size ≤ k) → K (a.put o.dst (.slice A (n + s.size) cap)) w') :
    if Region.wanted o (yielded ops a.tmps) = true then Oper.wp P o a w K Q else E := by
  have hw : Region.wanted o (yielded ops a.tmps) = true := by simp [Region.wanted, hgd]
  rw [if_pos hw]
  obtain ⟨v', w', hr, h2, h3, h4⟩ := run_append_str_at (P := P) (w := w) t u o.type base e i ht hu hi hz hsize hby v n xs hown s hb hbase
  obtain ⟨A, cap, rfl⟩ := row_slice h2
  unfold Oper.wp execOp
  simp only [ho, resolve, invoke, builtin, Sem.run_bind, Sem.run_pure, Result.andThen_ok, List.map_toArray, List.map_cons, List.map_nil, hs, hx, hr]
  exact h A cap w' h2 h3 h4

set_option maxRecDepth 100000 in
set_option maxHeartbeats 1000000 in
theorem take61 {w : World} {B r : Nat} {rd : Rd} {v1 v2 : Value} (h : QIs w B r rd v1 v2) (hok : OkRd rd) (hB : B ≤ w.heap.size) (s : Sec) (hs : s.data.length ≤ 51) :
    Calls Tryz.prog 196 #[.pointer (some ⟨r, 0, none⟩), .agg (secV s)] w fun e w' => e = .returned (.tuple #[]) ∧ ∃ u1 u2, QIs w' B r (takeS rd s) u1 u2 ∧ Turn (RF r v1 v2) w w' ∧ ∀ k, RF r u1 u2 k → RF r v1 v2 k ∨ w.heap.size ≤ k := by
  have hb : Below w.heap.size w (w.alloc (.cells (secV s) 289)) := (Below.refl _ _).alloc (Nat.le_refl _) _
  have hq0 : QS w B r v1 v2 s rd v1 v2 (w.alloc (.cells (secV s) 289)) := ⟨h.below hb, heap_alloc_new _ _, Turn.of_below hb, fun k hk => .inl hk⟩
  have hq1 := hq0.set (rd' := { rd with life := s.life }) 5 (.int .i64 (s.life : Int)) rfl rfl rfl
  have hq2 := hq1.set (rd' := { rd with life := s.life, parts := rd.parts + 1 }) 6 (.int .i64 ((rd.parts : Int) + 1)) rfl rfl rfl
  have HQ2 := Lib.hid hq2
  obtain ⟨b0, -, -, -, -⟩ := sec_cells hq0.s
  obtain ⟨-, -, -, -, -, c5, c6, -, cf⟩ := rd_cells hq0.q.row
  have hrlt : r < w.heap.size := h.lt (.inl rfl)
  have hp := hok.p
  have hok' := hok
  have HH := Lib.hid h
  obtain ⟨i0, hi, hz0, hz1, hz2⟩ := info5
  obtain ⟨i9, hi9, hz90, hz91, hz92⟩ := info9
  have hcf := cf 5
  have hcf6 := cf 6
  generalize hX : secV s = X at b0 c5 c6 cf hcf hcf6 HQ2 ⊢
  have HRL := Lib.hid hrlt
  clear h hok hq0 hq1 hq2 hb cf hX hrlt
  go_enter Tryz.func196, Tryz.ntmps196
  go_upto_region 3 with fail
  generalize ((w.alloc (.cells X 289)).setCell ⟨r, 5, none⟩ (.int .i64 (s.life : Int))).setCell ⟨r, 6, none⟩ (.int .i64 ((rd.parts : Int) + 1)) = w3 at HQ2
  clear b0 c5 c6 hcf hcf6
  have HQD := Lib.hid HQ2.out.drew
  obtain ⟨c0, -, -, c3, -, -, -, c7, cf⟩ := rd_cells HQD.out.q.row
  obtain ⟨-, -, -, b3, b4⟩ := sec_cells HQD.out.s
  have hcf0 := cf 0
  have hcf7 := cf 7
  have hdd := hok'.d
  have HMS : Hid ((mkB s.data).size = s.data.length) := mkB_size _
  have HO2 := Lib.hid HQD.out.q.o2
  have HFIN : Hid (∀ A cap w4, w4.ownsRow B 5 1 (.slice A (rd.data.length + (mkB s.data).size) cap) (rd.data.length + (mkB s.data).size) (bytesV rd.data ++ bytesV (mkB s.data).data.toList) → w3.drew.grownBy w4 v2.ownBlock → (∀ k, (Value.slice A (rd.data.length + (mkB s.data).size) cap).ownBlock = some k → v2.ownBlock = some k ∨ w3.drew.heap.size ≤ k) →
      w4.cell? ⟨r, 7, none⟩ = some v2 ∧ w4.frozen? ⟨r, 7, none⟩ = false ∧ QS w B r v1 v2 s { rd with life := s.life, parts := rd.parts + 1, data := rd.data ++ s.data } v1 (.slice A (rd.data.length + (mkB s.data).size) cap) (w4.setCell ⟨r, 7, none⟩ (.slice A (rd.data.length + (mkB s.data).size) cap))) := by
    intro A cap w4 ho hg hat
    have hrow : w4.heap[r]? = _ := (hg.block r (HQD.out.q.lt (.inl rfl)) (fun e => HQD.out.q.ne2 e.symm rfl)).trans HQD.out.q.row
    obtain ⟨-, -, -, -, -, -, -, d7, df⟩ := rd_cells hrow
    refine ⟨d7, df 7, HQD.out.data' hg ?_ hat rfl rfl⟩
    show w4.ownsRow B 5 1 _ (rd.data ++ s.data).length (bytesV (rd.data ++ s.data))
    rw [List.length_append, bytesV_append, ← HMS.out]
    exact ho
  go_cut [] from 16 (fun wx => ∃ U2, QS w B r v1 v2 s { rd with life := s.life, parts := rd.parts + 1, data := rd.data ++ s.data } v1 U2 wx)
  case first =>
    go_region_law (refine step_append_str rfl (.tmp 20) (.tmp 22) 124 9 rfl B 5 i0 Tryz.underlying124 Tryz.under9 hi hz0 hz1 hz2 v2 rd.data.length (bytesV rd.data) (by simp [Act.eval]) HO2.out (mkB s.data) (by simp [Act.eval]) (by rw [HMS.out]; omega) (Nat.le_trans hB HQD.out.t.size) ?_; intro A cap w4 ho4 hg4 hat4; obtain ⟨q1, q2, q3⟩ := HFIN.out _ _ _ ho4 hg4 hat4; have HF := Lib.hid q3; clear ho4 hg4 hat4 q3)
    all_goals
      go_wp2_with fail
      go_meet
      case rel => exact ⟨_, HF.out⟩
  case rest =>
    obtain ⟨U2, hq⟩ := hcut
    have HQ := Lib.hid hq
    clear hq HFIN HO2 HQD HQ2 c0 c3 c7 cf b3 b4 hcf0 hcf7
    obtain ⟨-, -, -, b3, -⟩ := sec_cells HQ.out.s
    cases hl : s.last with
    | false =>
      have HT : Hid (takeS rd s = { rd with life := s.life, parts := rd.parts + 1, data := rd.data ++ s.data }) := by unfold Hid takeS; rw [hl]; rfl
      rw [hl] at b3
      go_wp2
      go_end0
      rw [HT.out]
      exact ⟨rfl, _, _, HQ.out.q, HQ.out.t, HQ.out.g⟩
    | true =>
      have HT : Hid (takeS rd s = { rd with life := s.life, recs := rd.recs ++ [mkB (rd.data ++ s.data)], occ := rd.vis, parts := 0, data := [] }) := by unfold Hid takeS; rw [hl]; rfl
      rw [hl] at b3
      have HQD := Lib.hid HQ.out.drew
      obtain ⟨c0, -, -, c3, -, -, -, c7, cf⟩ := rd_cells HQD.out.q.row
      have hcf0 := cf 0
      have hcv := conv_own70 HQD.out.q.o2 rfl
      have hrr := hok'.r
      obtain ⟨S, hS⟩ : ∃ S, mkB (rd.data ++ s.data) = S := ⟨_, rfl⟩
      simp only at hcv
      rw [hS] at hcv HT
      have HQA := Lib.hid (HQD.out.alloc (.cells #[.string S] 9))
      obtain ⟨d0, -, -, d3, -, -, -, d7, df⟩ := rd_cells HQA.out.q.row
      have hdf0 := df 0
      obtain ⟨e0, -, -, -, -, -, -, e7, ef⟩ := rd_cells (HQ.out.alloc (.cells #[.string S] 9)).q.row
      have hef0 := ef 0
      have hcva := conv_own70 HQA.out.q.o2 rfl
      simp only at hcva
      rw [hS] at hcva
      have HNE : Hid (∀ j u, ([.string S] : List Value)[j]? = some u → (wc.drew.alloc (.cells #[.string S] 9)).cell? ((⟨wc.heap.size, 0, none⟩ : Addr).add j) = some u) := fun j u hu => World.news_of_block (cs := #[.string S]) (t := 9) (fr := (0, 0)) (heap_alloc_new wc.drew _) j u hu
      have HO1 := Lib.hid HQA.out.q.o1
      have HFIN : Hid (∀ g' cap w4, w4.ownsRow B 9 1 (.slice (some ⟨g', 0, none⟩) (rd.recs.length + 1) cap) (rd.recs.length + 1) (strs rd.recs ++ [.string S]) → (wc.drew.alloc (.cells #[.string S] 9)).grownBy w4 v1.ownBlock → (v1.ownBlock = some g' ∨ g' = (wc.drew.alloc (.cells #[.string S] 9)).heap.size) →
          w4.cell? ⟨r, 0, none⟩ = some v1 ∧ w4.frozen? ⟨r, 0, none⟩ = false ∧ QS w B r v1 v2 s { rd with life := s.life, parts := rd.parts + 1, data := rd.data ++ s.data, recs := rd.recs ++ [S] } (.slice (some ⟨g', 0, none⟩) (rd.recs.length + 1) cap) U2 (w4.setCell ⟨r, 0, none⟩ (.slice (some ⟨g', 0, none⟩) (rd.recs.length + 1) cap))) := by
        intro g' cap w4 ho hg hat
        have hrow : w4.heap[r]? = _ := (hg.block r (HQA.out.q.lt (.inl rfl)) (fun e => HQA.out.q.ne1 e.symm rfl)).trans HQA.out.q.row
        obtain ⟨d0, -, -, -, -, -, -, -, df⟩ := rd_cells hrow
        refine ⟨d0, df 0, HQA.out.recs' hg ?_ (fun k hk => ?_) rfl rfl⟩
        · show w4.ownsRow B 9 1 _ (rd.recs ++ [S]).length (strs (rd.recs ++ [S]))
          unfold strs
          rw [List.length_append, List.map_append]
          exact ho
        · have : g' = k := by simpa [Value.ownBlock] using hk
          rcases hat with h1 | h1
          · left; rw [h1, this]
          · right; omega
      go_upto_region 5 with fail
      go_cut [] from 28 (fun wx => ∃ U1, QS w B r v1 v2 s { rd with life := s.life, parts := rd.parts + 1, data := rd.data ++ s.data, recs := rd.recs ++ [S] } U1 U2 wx)
      case first =>
        go_region_law (refine step_append_lies _ rfl (.tmp 32) (.tmp 38) 25 rfl B 9 i9 _ 1 16 Tryz.underlying25 hi9 hz90 hz91 hz92 rfl (by omega) v1 rd.recs.length (strs rd.recs) (by simp [Act.eval]) HO1.out ⟨wc.heap.size, 0, none⟩ 1 1 [.string S] (by simp [Act.eval]) rfl HNE.out (by intro u hu; simp at hu; subst hu; rfl) (by omega) (by unfold maxLen; omega) (by omega) (Nat.le_trans hB HQA.out.t.size) _ rfl ?_; intro g' cap w4 ho4 hg4 hat4 hlt4; obtain ⟨q1, q2, q3⟩ := HFIN.out _ _ _ ho4 hg4 hat4; have HF := Lib.hid q3; clear ho4 hg4 hat4 q3)
        all_goals
          go_wp2_with fail
          go_meet
          case rel => exact ⟨_, HF.out⟩
      case rest =>
        obtain ⟨U1, hq⟩ := hcut
        have HQ5 := Lib.hid hq
        clear hq HFIN HO1 HNE HQA HQD c0 c3 c7 cf d0 d3 d7 df e0 e7 ef hcf0 hdf0 hef0 hcv hcva b3
        have h6 := HQ5.out.set (rd' := { rd with life := s.life, parts := rd.parts + 1, data := rd.data ++ s.data, recs := rd.recs ++ [S], occ := rd.vis }) 1 (.int .i64 (rd.vis : Int)) rfl rfl rfl
        have h7 := h6.set (rd' := { rd with life := s.life, parts := 0, data := rd.data ++ s.data, recs := rd.recs ++ [S], occ := rd.vis }) 6 (.int .i64 0) rfl rfl rfl
        have HF := Lib.hid (h7.nilData (rd' := { rd with life := s.life, parts := 0, data := [], recs := rd.recs ++ [S], occ := rd.vis }) rfl rfl rfl)
        obtain ⟨-, c1, -, c3, -, -, c6, c7, cf⟩ := rd_cells HQ5.out.q.row
        have hcf1 := cf 1
        have hcf6 := cf 6
        have hcf7 := cf 7
        clear h6 h7 cf
        go_wp2
        go_end0
        rw [HT.out]
        exact ⟨rfl, _, _, HF.out.q, HF.out.t, HF.out.g⟩
end Go.Proofs.YtjanddnlhaionaaGreatDoor.L6
