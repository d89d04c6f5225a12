/-
  The contract of separate. No condition but bounds on lengths. Lists that are copied step by step: what is read through the copy at each step. No condition. The contracts of copyOf and List. No condition but bounds on lengths.
-/
import Derived.Test.YtjanddnlhaionaaGreatDoorL4x3
import Derived.LaidEqlPtr
import Derived.Laws.Pointers
import Derived.Deep.LoopGhost
set_option maxRecDepth 100000
namespace Go.Proofs.YtjanddnlhaionaaGreatDoor.L4
open Go.RowKit

set_option maxHeartbeats 400000 in
theorem isPow46 (n : Nat) (w : World) (hn : n ≤ 1000000) : Calls Tryz.prog 202 #[.int .i64 n] w fun e w' => (∃ t, e = .returned (.bool t)) ∧ w = w' := by
  go_enter Tryz.func202, Tryz.ntmps202
  go_wp2_with fail
  go_ret
  exact ⟨⟨_, rfl⟩, rfl⟩

theorem rcells_length (D : List (C × Value)) : (rcells D).length = D.length * 4 := by
  induction D with
  | nil => rfl
  | cons x D ih => rw [rcells_cons, List.length_append, ih, List.length_cons]; show 4 + _ = _; omega
theorem addr_add (b o j : Nat) : (⟨b, o, none⟩ : Addr).add j = ⟨b, o + j, none⟩ := by
  unfold Addr.add
  split
  · rename_i h; subst h; rfl
  · rfl
def fixU (n : Nat) (v : Value) : Value := if n = 0 then .slice none 0 0 else v
/-- The cells D, the lists of the first k mended, in the row cur. -/
structure OwnK (D : List (C × Value)) (c k : Nat) (cur : Array Value) : Prop where
  size : cur.size = c * 4
  cells : ∀ i (h : i < D.length), cur[i * 4]? = some (.int .i64 D[i].1.k) ∧ cur[i * 4 + 1]? = some (.int .i64 D[i].1.n) ∧ cur[i * 4 + 2]? = some (.string D[i].1.s) ∧ cur[i * 4 + 3]? = some (if i < k then fixU D[i].1.l.length D[i].2 else D[i].2)
theorem OwnK.start {D : List (C × Value)} {c : Nat} {cur : Array Value} (hs : cur.size = c * 4) (ht : cur.toList.take (D.length * 4) = rcells D) : OwnK D c 0 cur := by
  refine ⟨hs, fun i h => ?_⟩
  have hc : ∀ j, j < 4 → cur[i * 4 + j]? = (rowC D[i])[j]? := fun j hj => by
    rw [← rcells_get D i j h hj, ← ht, List.getElem?_take, if_pos (by omega), Array.getElem?_toList]
  exact ⟨hc 0 (by omega), hc 1 (by omega), hc 2 (by omega), by rw [if_neg (by omega)]; exact hc 3 (by omega)⟩
theorem OwnK.mend {D : List (C × Value)} {c k : Nat} {cur : Array Value} (h : OwnK D c k cur) (hk : k < D.length) (hz : D[k].1.l.length = 0) : OwnK D c (k + 1) (cur.setIfInBounds (k * 4 + 3) (.slice none 0 0)) := by
  refine ⟨by rw [Array.size_setIfInBounds]; exact h.size, fun i hi => ?_⟩
  obtain ⟨c0, c1, c2, c3⟩ := h.cells i hi
  refine ⟨?_, ?_, ?_, ?_⟩
  · rw [Array.getElem?_setIfInBounds_ne (by omega)]; exact c0
  · rw [Array.getElem?_setIfInBounds_ne (by omega)]; exact c1
  · rw [Array.getElem?_setIfInBounds_ne (by omega)]; exact c2
  · by_cases e : i = k
    · subst e
      have hlt : i * 4 + 3 < cur.size := by
        obtain ⟨h1, _⟩ := Array.getElem?_eq_some_iff.1 c3
        exact h1
      rw [Array.getElem?_setIfInBounds_self_of_lt hlt, if_pos (by omega)]
      unfold fixU
      rw [if_pos hz]
    · rw [Array.getElem?_setIfInBounds_ne (by omega), c3]
      by_cases e2 : i < k
      · rw [if_pos e2, if_pos (by omega)]
      · rw [if_neg e2, if_neg (by omega)]
theorem OwnK.next {D : List (C × Value)} {c k : Nat} {cur : Array Value} (h : OwnK D c k cur) (hk : k < D.length) (hz : D[k].1.l.length ≠ 0) : OwnK D c (k + 1) cur := by
  refine ⟨h.size, fun i hi => ?_⟩
  obtain ⟨c0, c1, c2, c3⟩ := h.cells i hi
  refine ⟨c0, c1, c2, ?_⟩
  rw [c3]
  by_cases e : i = k
  · subst e
    rw [if_neg (by omega), if_pos (by omega)]
    unfold fixU
    rw [if_neg hz]
  · by_cases e2 : i < k
    · rw [if_pos e2, if_pos (by omega)]
    · rw [if_neg e2, if_neg (by omega)]

def itemC (g dep : Nat) (x : Nat × Option Addr) : List Value := [.pointer (some ⟨g, x.1 * 4 + 3, none⟩), .int .i64 ((dep + 1 : Nat) : Int), .pointer x.2]
def icells (g dep : Nat) (its : List (Nat × Option Addr)) : List Value := its.flatMap (itemC g dep)
theorem icells_append (g dep : Nat) (a b : List (Nat × Option Addr)) : icells g dep (a ++ b) = icells g dep a ++ icells g dep b := by simp [icells]

/-- The lists in the first k cells that are not empty, with the cell above that is remembered. -/
structure Its (D : List (C × Value)) (b o : Nat) (ab : Option Addr) (k : Nat) (its : List (Nat × Option Addr)) : Prop where
  lt : ∀ x ∈ its, ∃ h : x.1 < D.length, x.1 < k ∧ D[x.1].1.l.length ≠ 0 ∧ (x.2 = ab ∨ x.2 = some ⟨b, o + x.1 * 4, none⟩)
  inc : its.Pairwise (fun x y => x.1 < y.1)
  cnt : (its.map (fun x => cntC ((D.map (·.1)).getD x.1 (.mk 0 0 ⟨#[]⟩ [])))).sum ≤ cntL ((D.map (·.1)).take k)
theorem Its.start (D : List (C × Value)) (b o : Nat) (ab : Option Addr) : Its D b o ab 0 [] := ⟨by simp, List.Pairwise.nil, by simp⟩
theorem Its.len {D : List (C × Value)} {b o : Nat} {ab : Option Addr} {k : Nat} {its : List (Nat × Option Addr)} (h : Its D b o ab k its) (hD : D.length ≤ 5000) : its.length ≤ 5000 := by
  have key : ∀ (n : Nat) (l : List (Nat × Option Addr)), l.Pairwise (fun x y => x.1 < y.1) → (∀ x ∈ l, n ≤ x.1 ∧ x.1 < D.length) → l.length + n ≤ D.length ∨ l = [] := by
    intro n l
    induction l generalizing n with
    | nil => intro _ _; exact .inr rfl
    | cons y l ih =>
      intro hp hl
      rw [List.pairwise_cons] at hp
      have hy := hl y (List.mem_cons_self ..)
      rcases ih (y.1 + 1) hp.2 (fun x hx => ⟨hp.1 x hx, (hl x (List.mem_cons_of_mem _ hx)).2⟩) with h1 | h1
      · left; rw [List.length_cons]; omega
      · left; subst h1; simp; omega
  rcases key 0 its h.inc (fun x hx => by obtain ⟨h1, _⟩ := h.lt x hx; exact ⟨Nat.zero_le _, h1⟩) with h1 | h1
  · omega
  · subst h1; simp
theorem Its.skip {D : List (C × Value)} {b o : Nat} {ab : Option Addr} {k : Nat} {its : List (Nat × Option Addr)} (h : Its D b o ab k its) (hk : k < D.length) : Its D b o ab (k + 1) its := by
  refine ⟨fun x hx => ?_, h.inc, ?_⟩
  · obtain ⟨h1, h2, h3, h4⟩ := h.lt x hx
    exact ⟨h1, by omega, h3, h4⟩
  · have := cntL_take (D.map (·.1)) k (by simpa using hk)
    have := h.cnt
    omega
theorem Its.add {D : List (C × Value)} {b o : Nat} {ab : Option Addr} {k : Nat} {its : List (Nat × Option Addr)} (h : Its D b o ab k its) (hk : k < D.length) (hz : D[k].1.l.length ≠ 0) (a : Option Addr) (ha : a = ab ∨ a = some ⟨b, o + k * 4, none⟩) : Its D b o ab (k + 1) (its ++ [(k, a)]) := by
  refine ⟨fun x hx => ?_, ?_, ?_⟩
  · rcases List.mem_append.1 hx with hx | hx
    · obtain ⟨h1, h2, h3, h4⟩ := h.lt x hx
      exact ⟨h1, by omega, h3, h4⟩
    · rw [List.mem_singleton] at hx
      subst hx
      exact ⟨hk, by simp only; omega, hz, ha⟩
  · rw [List.pairwise_append]
    refine ⟨h.inc, List.pairwise_singleton _ _, fun x hx y hy => ?_⟩
    rw [List.mem_singleton] at hy
    subst hy
    obtain ⟨h1, h2, -⟩ := h.lt x hx
    exact h2
  · have h1 := cntL_take (D.map (·.1)) k (by simpa using hk)
    have h2 := h.cnt
    rw [List.map_append, List.sum_append]
    have e : (D.map (·.1)).getD k (.mk 0 0 ⟨#[]⟩ []) = (D.map (·.1))[k]'(by simpa using hk) := by
      rw [List.getD_eq_getElem?_getD, List.getElem?_eq_getElem (by simpa using hk)]; rfl
    simp only [List.map_cons, List.map_nil, List.sum_cons, List.sum_nil, e]
    omega

theorem Tryz.info257 : (Tryz.prog.info? 257).map (fun i => (i.zero, i.size, i.bytes)) = some (some (.agg #[.pointer none, .int .i64 0, .pointer none]), 3, 24) := by kernel_rfl
theorem info73 : ∃ i, Tryz.prog.info? 257 = some i ∧ i.zero = some (.agg #[.pointer none, .int .i64 0, .pointer none]) ∧ i.size = 3 ∧ i.bytes = 24 := by
  have h := Tryz.info257
  cases hq : Tryz.prog.info? 257 with
  | none => simp [hq] at h
  | some i =>
    simp [hq] at h
    exact ⟨i, rfl, h.1, h.2.1, h.2.2⟩

theorem cells_of_cell {w : World} {b o : Nat} {v : Value} (h : w.cell? ⟨b, o, none⟩ = some v) : ∃ cs t fr, w.heap[b]? = some (.cells cs t fr) := by
  unfold World.cell? at h
  simp only at h
  cases hq : w.heap[b]? with
  | none => rw [hq] at h; simp at h
  | some x =>
    rw [hq] at h
    cases x with
    | cells cs t fr => exact ⟨cs, t, fr, rfl⟩
    | _ => simp at h
theorem info25sz : ∃ j, Tryz.prog.info? 38 = some j ∧ j.size ≠ 0 := by
  obtain ⟨i, h, _, h2, _⟩ := info25
  exact ⟨i, h, by omega⟩
def AnyB (w : World) (r : Result Bool) : Prop := ∃ t n, r = .ok t (w.drewN n)
theorem same_any (w : World) (a b : Addr) (ha : ∃ cs t fr, w.heap[a.block]? = some (.cells cs t fr)) (hb : ∃ cs t fr, w.heap[b.block]? = some (.cells cs t fr)) (hf : w.frozen? a = false) : AnyB w ((sameAddr a b).run Tryz.prog w) := by
  obtain ⟨ca, ta, fa, ha⟩ := ha
  obtain ⟨cb, tb, fb, hb⟩ := hb
  by_cases hbl : a.block = b.block
  · exact ⟨a == b, 0, by simp [sameAddr, hbl]; rfl⟩
  · simp only [sameAddr]
    simp [hbl, hf, noView, viewAt, World.shape?, ha, hb, mayBeOne, stringish]
    repeat (first | exact ⟨_, 0, rfl⟩ | exact ⟨_, 1, rfl⟩ | split)
theorem eql71 (w : World) (a : Addr) (ab : Option Addr) (ha : ∃ cs t fr, w.heap[a.block]? = some (.cells cs t fr)) (hb : ∀ b, ab = some b → ∃ cs t fr, w.heap[b.block]? = some (.cells cs t fr)) (hf : w.frozen? a = false) :
    ∃ t n, (binOp .eql 255 (.pointer (some a)) (.pointer ab)).run Tryz.prog w = .ok (.bool t) (w.drewN n) := by
  cases ab with
  | none => exact ⟨false, 0, by rw [run_eql_pointer_nil w 255 (some a) (by kernel_rfl)]; rfl⟩
  | some b =>
    obtain ⟨t, n, h⟩ := same_any w a b ha (hb b rfl) hf
    obtain ⟨j, hj, hz⟩ := info25sz
    refine ⟨t, n, ?_⟩
    have hd : ∀ d : Nat, (Op.equalIn (d + 1) 255 (.pointer (some a)) (.pointer (some b))).run Tryz.prog w = .ok t (w.drewN n) := fun d => by
      simp [Op.equalIn, run_underlying Tryz.underlying255, sizeOf, typeInfo, hj, hz, h]
    simp only [binOp]
    simp [Op.equal, Op.maxDepth, hd 9999]
theorem wpList_ptr_eql {P : Program} {ops : Array Oper} {o : Oper} {rest : List Oper} {a : Act} {w w' : World} {Q : Exit → Act → World → Prop} (hg : o.guard = none) (t t2 : TypeId) (x y : Operand) (ho : o.op = .binOp .eql t x y t2) (p q : Option Addr) (v : Value)
    (hx : a.eval x = .pointer p) (hy : a.eval y = .pointer q) (hrun : (binOp .eql t (.pointer p) (.pointer q)).run P w = .ok v w') (h : wpList P ops Q rest (a.put o.dst v) w') : wpList P ops Q (o :: rest) a w := by
  refine wpList_plain hg fun K hK => ?_
  have he : (eqGuard .eql t x y (.pointer p) (.pointer q)).run P w = .ok () w := rfl
  unfold Oper.wp
  simp [execOp, ho, hx, hy, hrun, he]
  exact hK _ _ h

/-- The state of separate, k cells behind it. -/
structure SepK (w : World) (Qb Qo : Nat) (T : TypeId) (row : Array Value) (dep : Nat) (ab : Option Addr) (D : List (C × Value)) (b o c k : Nat) (ins : Value) (wr : World) : Prop where
  grown : w.grownBy wr (some Qb)
  box : wr.heap[w.heap.size]? = some (.cells #[.pointer (some ⟨Qb, Qo, none⟩), .int .i64 dep, .pointer ab] 257 (0, 0))
  q : wr.heap[Qb]? = some (.cells (row.setIfInBounds Qo (.slice (some ⟨w.heap.size + 1, 0, none⟩) D.length c)) T (0, 0))
  own : ∃ cur, wr.heap[w.heap.size + 1]? = some (.cells cur 38 (0, 0)) ∧ OwnK D c k cur
  its : ∃ its, Its D b o ab k its ∧ wr.ownsRow (w.heap.size + 2) 257 3 ins its.length (icells (w.heap.size + 1) dep its) ∧ (its = [] → ins = .slice none 0 0)

theorem SepK.drewN {w : World} {Qb Qo : Nat} {T : TypeId} {row : Array Value} {dep : Nat} {ab : Option Addr} {D : List (C × Value)} {b o c k : Nat} {ins : Value} {wr : World} (h : SepK w Qb Qo T row dep ab D b o c k ins wr) (n : Nat) : SepK w Qb Qo T row dep ab D b o c k ins (wr.drewN n) :=
  ⟨grown_trans h.grown (grown_drewN wr n _), h.box, h.q, h.own, h.its⟩

theorem SepK.lt {w : World} {Qb Qo : Nat} {T : TypeId} {row : Array Value} {dep : Nat} {ab : Option Addr} {D : List (C × Value)} {b o c k : Nat} {ins : Value} {wr : World} (h : SepK w Qb Qo T row dep ab D b o c k ins wr) : w.heap.size + 1 < wr.heap.size := by
  obtain ⟨cur, hc, _⟩ := h.own
  exact (Array.getElem?_eq_some_iff.1 hc).1
theorem SepK.mend {w : World} {Qb Qo : Nat} {T : TypeId} {row : Array Value} {dep : Nat} {ab : Option Addr} {D : List (C × Value)} {b o c k : Nat} {ins : Value} {wr : World} (h : SepK w Qb Qo T row dep ab D b o c k ins wr) (hk : k < D.length) (hz : D[k].1.l.length = 0) (hQ : Qb < w.heap.size) :
    SepK w Qb Qo T row dep ab D b o c (k + 1) ins (wr.setCell ⟨w.heap.size + 1, k * 4 + 3, none⟩ (.slice none 0 0)) := by
  obtain ⟨cur, hc, hok⟩ := h.own
  obtain ⟨its, hi, ho, hn⟩ := h.its
  refine ⟨grown_past h.grown (grown_set wr _ _ _) (fun i e => by injection e with e; omega), (Below.heap_setCell _ _ _ _ (by simp only; omega)).trans h.box, (Below.heap_setCell _ _ _ _ (by simp only; omega)).trans h.q, ⟨_, set_row hc _ _, hok.mend hk hz⟩, ⟨its, hi.skip hk, ?_, hn⟩⟩
  refine World.ownsRow.kept ho (grown_set wr (w.heap.size + 1) (k * 4 + 3) (.slice none 0 0)) ?_
  cases hv : ins.ownBlock with
  | none => exact .inl rfl
  | some g => exact .inr fun e => by have := (ho.lt g hv).1; injection e with e; omega
theorem SepK.add {w : World} {Qb Qo : Nat} {T : TypeId} {row : Array Value} {dep : Nat} {ab : Option Addr} {D : List (C × Value)} {b o c k : Nat} {ins : Value} {wr w6 : World} {its : List (Nat × Option Addr)} {X : Obj} {g c6 : Nat} (h : SepK w Qb Qo T row dep ab D b o c k ins wr) (hk : k < D.length) (hz : D[k].1.l.length ≠ 0) (a : Option Addr) (ha : a = ab ∨ a = some ⟨b, o + k * 4, none⟩)
    (hi : Its D b o ab k its) (hio : wr.ownsRow (w.heap.size + 2) 257 3 ins its.length (icells (w.heap.size + 1) dep its))
    (ho : w6.ownsRow (w.heap.size + 2) 257 3 (.slice (some ⟨g, 0, none⟩) (its.length + 1) c6) (its.length + 1) (icells (w.heap.size + 1) dep its ++ itemC (w.heap.size + 1) dep (k, a))) (hg : ((wr.alloc X).alloc X).drew.grownBy w6 ins.ownBlock) (hQ : Qb < w.heap.size) :
    SepK w Qb Qo T row dep ab D b o c (k + 1) (.slice (some ⟨g, 0, none⟩) (its.length + 1) c6) w6 := by
  have hlt := h.lt
  have hz2 : (((wr.alloc X).alloc X).drew).heap.size = wr.heap.size + 2 := by show ((wr.alloc X).alloc X).heap.size = _; simp
  have hb : ∀ i, i < wr.heap.size → i < w.heap.size + 2 → w6.heap[i]? = wr.heap[i]? := fun i h1 h2 => by
    rw [hg.block i (by omega) (fun e => by have := (hio.lt i e.symm).1; omega)]
    show ((wr.alloc X).alloc X).heap[i]? = _
    rw [Below.heap_alloc _ _ _ (by simp; omega), Below.heap_alloc _ _ _ h1]
  obtain ⟨cur, hc, hok⟩ := h.own
  have hs := hg.size
  refine ⟨⟨hg.os.trans h.grown.os, hg.tape.trans h.grown.tape, hg.output.trans h.grown.output, by have := h.grown.size; omega, fun i hi hn => (hb i (by omega) (by omega)).trans (h.grown.block i hi hn)⟩, (hb _ (by omega) (by omega)).trans h.box, (hb _ (by omega) (by omega)).trans h.q, ⟨cur, (hb _ (by omega) (by omega)).trans hc, hok.next hk hz⟩, ⟨its ++ [(k, a)], hi.add hk hz a ha, ?_, fun e => by simp at e⟩⟩
  rw [icells_append, List.length_append]
  exact ho


set_option maxHeartbeats 6400000 in
theorem separate39 (Qb Qo dep : Nat) (ab : Option Addr) (T : TypeId) (row : Array Value) (b o cap : Nat) (D : List (C × Value)) (w : World) (hQ : w.heap[Qb]? = some (.cells row T (0, 0))) (hQo : row[Qo]? = some (.slice (some ⟨b, o, none⟩) D.length cap))
    (hD : 0 < D.length) (hD2 : D.length ≤ 5000) (hdep : dep ≤ 900000) (hr : ∀ i (h : i < D.length), RowAt w b (o + i * 4) D[i].1 D[i].2) (hsl : ∀ i (h : i < D.length), ∃ A c, D[i].2 = .slice A D[i].1.l.length c)
    (hfz : ∀ i, i < D.length → w.frozen? ⟨b, o + i * 4, none⟩ = false) (hbQ : b < w.heap.size ∧ b ≠ Qb) (hab : ∀ a, ab = some a → a.block < w.heap.size ∧ a.block ≠ Qb ∧ ∃ cs t fr, w.heap[a.block]? = some (.cells cs t fr)) :
    Calls Tryz.prog 174 #[.agg #[.pointer (some ⟨Qb, Qo, none⟩), .int .i64 dep, .pointer ab]] w fun e w' => ∃ ins' t ins c k, e = .returned (.tuple #[ins', .bool t]) ∧ D.length ≤ c ∧ c ≤ maxLen ∧ k ≤ D.length ∧ SepK w Qb Qo T row dep ab D b o c k ins w' ∧ (t = false → k = D.length ∧ ins' = ins) := by
  obtain ⟨i0, hi, hz0, hz1, hz2⟩ := info25
  have g0 : w.cell? ⟨Qb, Qo, none⟩ = some (.slice (some ⟨b, o, none⟩) D.length cap) := by rw [cell_of_row w Qb Qo row T (0, 0) hQ]; exact hQo
  have HQ := Lib.hid hQ
  have HQo := Lib.hid hQo
  have hQl := (Array.getElem?_eq_some_iff.1 hQ).1
  have HR := Lib.hid hr
  have HSL := Lib.hid hsl
  have HAB := Lib.hid hab
  have HFZ := Lib.hid hfz
  have HBQ := Lib.hid hbQ
  have hcells : ∀ j u, (rcells D)[j]? = some u → w.cell? ((⟨b, o, none⟩ : Addr).add j) = some u := by
    intro j u hu
    have hj : j < D.length * 4 := by
      have h1 := (List.getElem?_eq_some_iff.1 hu).1
      have h2 := rcells_length D
      omega
    have hi4 : j / 4 < D.length := by omega
    have e : j = j / 4 * 4 + j % 4 := by omega
    have r := hr (j / 4) hi4
    rw [e, rcells_get D (j / 4) (j % 4) hi4 (by omega)] at hu
    have hadd : (⟨b, o, none⟩ : Addr).add j = ⟨b, o + j / 4 * 4 + j % 4, none⟩ := by
      rw [addr_add, show o + j = o + j / 4 * 4 + j % 4 by omega]
    rw [hadd]
    have h4 : j % 4 = 0 ∨ j % 4 = 1 ∨ j % 4 = 2 ∨ j % 4 = 3 := by omega
    rcases h4 with h4 | h4 | h4 | h4 <;> rw [h4] at hu ⊢
    · rw [← hu]; exact r.c0
    · rw [← hu]; exact r.c1
    · rw [← hu]; exact r.c2
    · rw [← hu]; exact r.c3
  have hone : ∀ u ∈ rcells D, u.oneCell' = true := by
    intro u hu
    unfold rcells at hu
    obtain ⟨x, hx, hu⟩ := List.mem_flatMap.1 hu
    obtain ⟨i, hi, rfl⟩ := List.getElem_of_mem hx
    obtain ⟨A, c, e⟩ := hsl i hi
    simp only [rowC, List.mem_cons, List.not_mem_nil, or_false] at hu
    rcases hu with rfl | rfl | rfl | rfl
    · rfl
    · rfl
    · rfl
    · rw [e]; rfl
  have HCE := Lib.hid hcells
  have HON := Lib.hid hone
  have hrl := rcells_length D
  have HRL := Lib.hid hrl
  clear hcells hone hr hsl hab hfz hbQ hQ hQo hrl
  go_enter Tryz.func174, Tryz.ntmps174
  go_wp2_with (at_builtin; go_must (refine wpList_append_lies _ rfl _ _ 36 rfl (w.heap.size + 1) 38 i0 _ 4 56 Tryz.underlying36 hi hz0 hz1 hz2 rfl (by omega) _ 0 [] rfl ?own ⟨b, o, none⟩ D.length cap (rcells D) rfl ?len ?news HON.out hD ?c3 ?c4 ?c5 _ rfl ?_))
  case own => exact World.ownsRow_nil _ _ _ _
  case len => exact HRL.out
  case news =>
    intro j u hu
    exact (World.grownBy_alloc w _ none).cell (HCE.out j u hu) (by simp)
  case c3 => unfold maxLen; omega
  case c4 => omega
  case c5 => simp
  rintro g c w2 ho hg hgl hlt
  have hgn : g = w.heap.size + 1 := by
    rcases hgl with h | h
    · simp [Value.ownBlock] at h
    · exact h
  subst hgn
  have hw1 : (w.alloc (.cells #[.pointer (some ⟨Qb, Qo, none⟩), .int .i64 dep, .pointer ab] 257)).heap.size = w.heap.size + 1 := by simp
  have hgo : ∀ k, k < w.heap.size + 1 → w2.heap[k]? = (w.alloc (.cells #[.pointer (some ⟨Qb, Qo, none⟩), .int .i64 dep, .pointer ab] 257)).heap[k]? := fun k hk => hg.block k (by omega) (by simp [Value.ownBlock])
  have hbox : w2.heap[w.heap.size]? = some (.cells #[.pointer (some ⟨Qb, Qo, none⟩), .int .i64 dep, .pointer ab] 257 (0, 0)) := (hgo _ (by omega)).trans (heap_alloc_new w _)
  have hQ2 : w2.heap[Qb]? = some (.cells row T (0, 0)) := by rw [hgo Qb (by omega), Below.heap_alloc _ _ _ hQl]; exact HQ.out
  obtain ⟨cur, hcur, hDc, hcm, hcz, htk⟩ : ∃ cur, w2.heap[w.heap.size + 1]? = some (.cells cur 38 (0, 0)) ∧ D.length ≤ c ∧ c ≤ maxLen ∧ cur.size = c * 4 ∧ cur.toList.take (D.length * 4) = rcells D := by
    rcases ho.2 with ⟨h, _⟩ | ⟨g', c', cur, h, _, h1, h2, h3, h4, h5⟩
    · cases h
    · cases h; exact ⟨cur, h1, h2, h3, h4, h5⟩
  have hgw2 : w.grownBy w2 (some Qb) := ⟨hg.os, hg.tape, hg.output, by have := hg.size; omega, fun k hk _ => (hgo k (by omega)).trans (Below.heap_alloc _ _ _ hk)⟩
  have HS0 : Hid (SepK w Qb Qo T row dep ab D b o c 0 (.slice none 0 0) (w2.setCell ⟨Qb, Qo, none⟩ (.slice (some ⟨w.heap.size + 1, 0, none⟩) D.length c))) :=
    ⟨grown_trans hgw2 (grown_set w2 Qb Qo _), (Below.heap_setCell _ _ _ _ (by simp only; omega)).trans hbox, set_row hQ2 Qo _, ⟨cur, (Below.heap_setCell _ _ _ _ (by simp only; omega)).trans hcur, OwnK.start hcz htk⟩, ⟨[], Its.start _ _ _ _, World.ownsRow_nil _ _ _ _, fun _ => rfl⟩⟩
  have x0 : w2.cell? ⟨w.heap.size, 0, none⟩ = some (.pointer (some ⟨Qb, Qo, none⟩)) := cell_of_row w2 _ 0 _ 257 (0, 0) hbox
  have x1 : w2.cell? ⟨Qb, Qo, none⟩ = some (.slice (some ⟨b, o, none⟩) D.length cap) := by rw [cell_of_row w2 Qb Qo row T (0, 0) hQ2]; exact HQo.out
  have x2 : w2.frozen? ⟨Qb, Qo, none⟩ = false := by simp [World.frozen?, hQ2]
  have HCM := Lib.hid hcm
  unfold maxLen at hcm
  clear ho hg hgl hgo hbox hQ2 hcur htk hcz hgw2 hw1 hlt
  go_wp2_with fail
  go_loopw [2, 20] (fun s2 s20 wr => ∃ (k : Nat), k ≤ D.length ∧ s20 = .int .i64 k ∧ Hid (SepK w Qb Qo T row dep ab D b o c k s2 wr)) (fun _ s20 _ => D.length - (intOf s20).toNat)
  case atStart => exact ⟨0, Nat.zero_le _, rfl, HS0⟩
  case round =>
    obtain ⟨k, hk, rfl, HK⟩ := hrel
    clear x0 x1 x2 HS0
    have hS := HK.out
    have y0 : wr.cell? ⟨w.heap.size, 0, none⟩ = some (.pointer (some ⟨Qb, Qo, none⟩)) := cell_of_row wr _ 0 _ 257 (0, 0) hS.box
    have y1 : wr.cell? ⟨w.heap.size, 1, none⟩ = some (.int .i64 dep) := cell_of_row wr _ 1 _ 257 (0, 0) hS.box
    have y2 : wr.cell? ⟨w.heap.size, 2, none⟩ = some (.pointer ab) := cell_of_row wr _ 2 _ 257 (0, 0) hS.box
    by_cases hlt : k < D.length
    · obtain ⟨cur, hcur, hok⟩ := hS.own
      obtain ⟨A, cc, hAc⟩ := HSL.out k hlt
      have hc3 := (hok.cells k hlt).2.2.2
      rw [if_neg (by omega), hAc] at hc3
      have y3 : wr.cell? ⟨w.heap.size + 1, k * 4 + 3, none⟩ = some (.slice A D[k].1.l.length cc) := by rw [cell_of_row wr _ _ cur 38 (0, 0) hcur]; exact hc3
      have z3 : wr.frozen? ⟨w.heap.size + 1, k * 4 + 3, none⟩ = false := by simp [World.frozen?, hcur]
      obtain ⟨ln, hln⟩ : ∃ ln, D[k].1.l.length = ln := ⟨_, rfl⟩
      rw [hln] at y3
      have hbq := HBQ.out
      obtain ⟨t, nq, heq⟩ := eql71 wr.drew ⟨b, o + k * 4, none⟩ ab (by
          obtain ⟨cs, t, fr, h⟩ := cells_of_cell (HR.out k hlt).c0
          exact ⟨cs, t, fr, (hS.grown.block b hbq.1 (fun e => hbq.2 (by injection e))).trans h⟩)
        (fun a ha => by
          obtain ⟨h1, h2, cs, t, fr, h3⟩ := HAB.out a ha
          exact ⟨cs, t, fr, (hS.grown.block _ h1 (fun e => h2 (by injection e))).trans h3⟩)
        (by
          have := HFZ.out k hlt
          rw [← this]
          exact World.frozen?_of_block (a := ⟨b, o + k * 4, none⟩) (hS.grown.block b hbq.1 (fun e => hbq.2 (by injection e))))
      have HEQ := Lib.hid heq
      have HK1 := Lib.hid (HK.out.drewN (1 + nq))
      have hwn : (wr.drew).drewN nq = wr.drewN (1 + nq) := by
        unfold World.drew World.drewN
        simp only
        congr 1
        omega
      have HWN := Lib.hid hwn
      have y0' : (wr.drewN (1 + nq)).cell? ⟨w.heap.size, 0, none⟩ = some (.pointer (some ⟨Qb, Qo, none⟩)) := y0
      have y1' : (wr.drewN (1 + nq)).cell? ⟨w.heap.size, 1, none⟩ = some (.int .i64 dep) := y1
      have y2' : (wr.drewN (1 + nq)).cell? ⟨w.heap.size, 2, none⟩ = some (.pointer ab) := y2
      have y3' : (wr.drewN (1 + nq)).cell? ⟨w.heap.size + 1, k * 4 + 3, none⟩ = some (.slice A ln cc) := y3
      have z3' : (wr.drewN (1 + nq)).frozen? ⟨w.heap.size + 1, k * 4 + 3, none⟩ = false := z3
      clear hS hcur hok hc3 hAc heq hwn hbq
      go_wp2_with fail
      go_still_tail 5, (by kernel_rfl)
      change wpList _ _ _ _ _ (World.drew _)
      refine wpList_ptr_eql rfl 255 255 _ _ rfl (some ⟨b, o + k * 4, none⟩) ab (.bool t) rfl rfl HEQ.out ?_
      rw [HWN.out]
      generalize wr.drewN (1 + nq) = wn at HK1 y0' y1' y2' y3' z3' ⊢
      simp only [Act.put]
      clear y0 y1 y2 y3 z3 HK HEQ HWN
      cases t with
      | true =>
        go_wp2_with fail
        go_ret2
        exact ⟨_, _, u2, c, k, rfl, hDc, HCM.out, hk, HK1.out, fun h => by cases h⟩
      | false =>
        by_cases hz : ln = 0
        · subst hz
          have HN := Lib.hid (HK1.out.mend hlt hln hQl)
          go_wp2_with fail
          go_roundw
          case rel => exact ⟨k + 1, by omega, by go_num, HN⟩
          case measure => simp [intOf]; omega
        · have hz' : ((ln : Int) == 0) = false := beq_eq_false_iff_ne.2 (by omega)
          have hwz := HK1.out.lt
          have al1 : ∀ ob : Obj, (wn.alloc ob).cell? ⟨w.heap.size, 1, none⟩ = some (.int .i64 dep) := fun ob => (World.cell?_alloc_past _ _ _ (by omega)).trans y1'
          have al2 : ∀ ob : Obj, (wn.alloc ob).cell? ⟨w.heap.size, 2, none⟩ = some (.pointer ab) := fun ob => (World.cell?_alloc_past _ _ _ (by omega)).trans y2'
          have HPW : Hid (∀ w, Calls Tryz.prog 202 #[.int .i64 ((dep : Int) + 1)] w fun e w' => (∃ t, e = .returned (.bool t)) ∧ w = w') := fun w => by
            have := isPow46 (dep + 1) w (by omega)
            rw [Int.natCast_add] at this
            exact this
          obtain ⟨its, hits, hio, hin⟩ := HK1.out.its
          obtain ⟨Ai, capi, hu2⟩ : ∃ Ai capi, u2 = .slice Ai its.length capi := by
            rcases hio.2 with ⟨h1, h2⟩ | ⟨g, cp, _, h1, _⟩
            · exact ⟨none, 0, by rw [h1, h2]⟩
            · exact ⟨_, cp, h1⟩
          subst hu2
          have HIT := Lib.hid hits
          have HIO := Lib.hid hio
          have hitl : its.length ≤ 5000 := hits.len hD2
          obtain ⟨i3, hi3, hz03, hz13, hz23⟩ := info73
          clear hits hio hin
          go_wp2_with fail
          go_region
          go_wp2_with fail
          refine (HPW.out _).mono ?_
          rintro e w5 ⟨⟨t5, rfl⟩, rfl⟩
          cases t5 with
          | true =>
            have HIO3 : Hid (((wn.alloc (.cells #[.pointer (some ⟨w.heap.size + 1, k * 4 + 3, none⟩), .int .i64 ((dep : Int) + 1), .pointer (some ⟨b, o + k * 4, none⟩)] 257)).alloc (.cells #[.pointer (some ⟨w.heap.size + 1, k * 4 + 3, none⟩), .int .i64 ((dep : Int) + 1), .pointer (some ⟨b, o + k * 4, none⟩)] 257)).drew.ownsRow (w.heap.size + 2) 257 3 (.slice Ai its.length capi) its.length (icells (w.heap.size + 1) dep its)) :=
              World.ownsRow.kept (World.ownsRow.alloc (World.ownsRow.alloc HIO.out _) _) (grown_drewN _ 1 none) (by cases (Value.slice Ai its.length capi).ownBlock <;> simp)
            have HNW : Hid (∀ j u, (itemC (w.heap.size + 1) dep (k, (some ⟨b, o + k * 4, none⟩)))[j]? = some u → ((wn.alloc (.cells #[.pointer (some ⟨w.heap.size + 1, k * 4 + 3, none⟩), .int .i64 ((dep : Int) + 1), .pointer (some ⟨b, o + k * 4, none⟩)] 257)).alloc (.cells #[.pointer (some ⟨w.heap.size + 1, k * 4 + 3, none⟩), .int .i64 ((dep : Int) + 1), .pointer (some ⟨b, o + k * 4, none⟩)] 257)).drew.cell? ((⟨wn.heap.size + 1, 0, none⟩ : Addr).add j) = some u) := by
              refine World.news_of_block (cs := #[.pointer (some ⟨w.heap.size + 1, k * 4 + 3, none⟩), .int .i64 ((dep : Int) + 1), .pointer (some ⟨b, o + k * 4, none⟩)]) (t := 257) (fr := (0, 0)) ?_
              exact heap_alloc2_new wn _ _
            go_wp2_with (at_builtin; go_must (refine wpList_append_lies _ rfl _ _ 258 rfl (w.heap.size + 2) 257 i3 _ 3 24 Tryz.underlying258 hi3 hz03 hz13 hz23 rfl (by omega) _ its.length (icells (w.heap.size + 1) dep its) rfl HIO3.out ⟨wn.heap.size + 1, 0, none⟩ 1 1 (itemC (w.heap.size + 1) dep (k, (some ⟨b, o + k * 4, none⟩))) rfl rfl HNW.out ?one1 (by omega) ?c31 ?c41 ?c51 _ rfl ?_))
            case one1 => simp [itemC, Value.oneCell']
            case c31 => unfold maxLen; omega
            case c41 => omega
            case c51 => show w.heap.size + 2 ≤ (((wn.alloc _).alloc _)).heap.size; simp; omega
            rintro g c6 w6 ho6 hg6 hgl6 hlt6
            have HN := Lib.hid (HK1.out.add hlt (by rw [hln]; exact hz) (some ⟨b, o + k * 4, none⟩) (.inr rfl) HIT.out HIO.out ho6 hg6 hQl)
            clear ho6 hg6 hgl6 HIO3 HNW
            go_wp2_with fail
            go_roundw
            case rel => exact ⟨k + 1, by omega, by go_num, HN⟩
            case measure => simp [intOf]; omega
          | false =>
            have HIO3 : Hid (((wn.alloc (.cells #[.pointer (some ⟨w.heap.size + 1, k * 4 + 3, none⟩), .int .i64 ((dep : Int) + 1), .pointer ab] 257)).alloc (.cells #[.pointer (some ⟨w.heap.size + 1, k * 4 + 3, none⟩), .int .i64 ((dep : Int) + 1), .pointer ab] 257)).drew.ownsRow (w.heap.size + 2) 257 3 (.slice Ai its.length capi) its.length (icells (w.heap.size + 1) dep its)) :=
              World.ownsRow.kept (World.ownsRow.alloc (World.ownsRow.alloc HIO.out _) _) (grown_drewN _ 1 none) (by cases (Value.slice Ai its.length capi).ownBlock <;> simp)
            have HNW : Hid (∀ j u, (itemC (w.heap.size + 1) dep (k, ab))[j]? = some u → ((wn.alloc (.cells #[.pointer (some ⟨w.heap.size + 1, k * 4 + 3, none⟩), .int .i64 ((dep : Int) + 1), .pointer ab] 257)).alloc (.cells #[.pointer (some ⟨w.heap.size + 1, k * 4 + 3, none⟩), .int .i64 ((dep : Int) + 1), .pointer ab] 257)).drew.cell? ((⟨wn.heap.size + 1, 0, none⟩ : Addr).add j) = some u) := by
              refine World.news_of_block (cs := #[.pointer (some ⟨w.heap.size + 1, k * 4 + 3, none⟩), .int .i64 ((dep : Int) + 1), .pointer ab]) (t := 257) (fr := (0, 0)) ?_
              exact heap_alloc2_new wn _ _
            go_wp2_with (at_builtin; go_must (refine wpList_append_lies _ rfl _ _ 258 rfl (w.heap.size + 2) 257 i3 _ 3 24 Tryz.underlying258 hi3 hz03 hz13 hz23 rfl (by omega) _ its.length (icells (w.heap.size + 1) dep its) rfl HIO3.out ⟨wn.heap.size + 1, 0, none⟩ 1 1 (itemC (w.heap.size + 1) dep (k, ab)) rfl rfl HNW.out ?one2 (by omega) ?c32 ?c42 ?c52 _ rfl ?_))
            case one2 => simp [itemC, Value.oneCell']
            case c32 => unfold maxLen; omega
            case c42 => omega
            case c52 => show w.heap.size + 2 ≤ (((wn.alloc _).alloc _)).heap.size; simp; omega
            rintro g c6 w6 ho6 hg6 hgl6 hlt6
            have HN := Lib.hid (HK1.out.add hlt (by rw [hln]; exact hz) ab (.inl rfl) HIT.out HIO.out ho6 hg6 hQl)
            clear ho6 hg6 hgl6 HIO3 HNW
            go_wp2_with fail
            go_roundw
            case rel => exact ⟨k + 1, by omega, by go_num, HN⟩
            case measure => simp [intOf]; omega
    · clear y0 y1 y2 hS
      have hkD : k = D.length := by omega
      go_wp2_with fail
      go_ret2
      exact ⟨_, _, u2, c, k, rfl, hDc, HCM.out, hk, HK.out, fun _ => ⟨hkD, rfl⟩⟩
end Go.Proofs.YtjanddnlhaionaaGreatDoor.L4
namespace Go.Proofs.YtjanddnlhaionaaGreatDoor.L4
open Go.RowKit
variable {lo : Nat}

/-- The block lies from lo on, and (where lo is not 0) holds cells, none of them frozen. -/
def Unf (lo : Nat) (w : World) (b : Nat) : Prop := lo ≤ b ∧ (0 < lo → ∃ cs t, w.heap[b]? = some (.cells cs t (0, 0)))
theorem Unf.keep {w w' : World} {b : Nat} (h : Unf lo w b) (hb : w'.heap[b]? = w.heap[b]?) : Unf lo w' b := by
  refine ⟨h.1, fun hlo => ?_⟩
  obtain ⟨cs, t, h⟩ := h.2 hlo
  exact ⟨cs, t, hb.trans h⟩
theorem Unf.frozen {w : World} {b : Nat} (h : Unf lo w b) (hlo : 0 < lo) (o : Nat) : w.frozen? ⟨b, o, none⟩ = false := by
  obtain ⟨cs, t, h⟩ := h.2 hlo
  simp [World.frozen?, h]
/-- The slice v reads as the cells l, below block B, and no block there bears frozen cells. -/
def LNF (lo : Nat) (w : World) (B : Nat) : Nat → Value → List C → Prop
  | 0, _, _ => False
  | d + 1, v, l => ∃ A cap, v = .slice A l.length cap ∧ l.length ≤ cap ∧ cap ≤ maxLen ∧ (0 < l.length → ∃ b o, A = some ⟨b, o, none⟩ ∧ b < B ∧ ∀ i (h : i < l.length), ∃ u, RowAt w b (o + i * 4) l[i] u ∧ Wf l[i] ∧ Unf lo w b ∧ w.frozen? ⟨b, o + i * 4, none⟩ = false ∧ LNF lo w B d u l[i].l)
theorem LNF.lat {w : World} {B : Nat} : ∀ {d : Nat} {v : Value} {l : List C}, LNF lo w B d v l → LAt w B d v l
  | 0, _, _, h => h
  | d + 1, v, l, h => by
    obtain ⟨A, cap, rfl, h1, h2, h3⟩ := h
    refine ⟨A, cap, rfl, h1, h2, fun hl => ?_⟩
    obtain ⟨b, o, rfl, hb, hr⟩ := h3 hl
    refine ⟨b, o, rfl, hb, fun i hi => ?_⟩
    obtain ⟨u, r, f, _, _, s⟩ := hr i hi
    exact ⟨u, r, f, LNF.lat s⟩
theorem LNF.keep {w w' : World} {B B' : Nat} (hB : B ≤ B') (hb : ∀ k, k < B → w'.heap[k]? = w.heap[k]?) : ∀ {d : Nat} {v : Value} {l : List C}, LNF lo w B d v l → LNF lo w' B' d v l
  | 0, _, _, h => h
  | d + 1, v, l, h => by
    obtain ⟨A, cap, rfl, h1, h2, h3⟩ := h
    refine ⟨A, cap, rfl, h1, h2, fun hl => ?_⟩
    obtain ⟨b, o, rfl, hb', hr⟩ := h3 hl
    refine ⟨b, o, rfl, by omega, fun i hi => ?_⟩
    obtain ⟨u, r, f, z, zf, s⟩ := hr i hi
    exact ⟨u, r.keep fun o => cell_same (hb b hb') o, f, z.keep (hb b hb'), (World.frozen?_of_block (a := ⟨b, o + i * 4, none⟩) (hb b hb')).trans zf, LNF.keep hB hb s⟩
theorem LNF.slice {w : World} {B d : Nat} {u : Value} {l : List C} (h : LNF lo w B d u l) : ∃ A cap, u = .slice A l.length cap := h.lat.slice

/-- Blocks of the old, and rows of cells. -/
def SS (lo B : Nat) (w0 w : World) (b : Nat) : Prop := (b < B ∧ Unf lo w0 b) ∨ (w0.heap.size ≤ b ∧ ∃ cs, w.heap[b]? = some (.cells cs 38 (0, 0)))
theorem SS.lt {B : Nat} {w0 w : World} {b : Nat} (h : SS lo B w0 w b) (hB : B ≤ w0.heap.size) (hz : w0.heap.size ≤ w.heap.size) : b < w.heap.size := by
  rcases h with h | ⟨_, cs, h⟩
  · have := h.1; omega
  · exact (Array.getElem?_eq_some_iff.1 h).1
theorem LNF.lin {B : Nat} {w0 w : World} (hB : B ≤ w0.heap.size) (hb : Below w0.heap.size w0 w) : ∀ {d : Nat} {v : Value} {l : List C}, LNF lo w0 B d v l → LIn w (SS lo B w0 w) d v l
  | 0, _, _, h => h
  | d + 1, v, l, h => by
    obtain ⟨A, cap, rfl, h1, h2, h3⟩ := h
    refine ⟨A, cap, rfl, h1, h2, fun hl => ?_⟩
    obtain ⟨b, o, rfl, hb', hr⟩ := h3 hl
    obtain ⟨_, _, _, z0, _⟩ := hr 0 hl
    refine ⟨b, o, rfl, .inl ⟨hb', z0⟩, fun i hi => ?_⟩
    obtain ⟨u, r, f, _, _, s⟩ := hr i hi
    exact ⟨u, r.keep fun o => cell_same (hb.block b (by omega)) o, f, LNF.lin hB hb s⟩

theorem LIn.up {w : World} {S : Nat → Prop} : ∀ {d d' : Nat} {v : Value} {l : List C}, LIn w S d v l → d ≤ d' → LIn w S d' v l
  | 0, _, _, _, h, _ => h.elim
  | d + 1, 0, _, _, _, hd => by omega
  | d + 1, d' + 1, v, l, h, hd => by
    obtain ⟨A, cap, rfl, h1, h2, h3⟩ := h
    refine ⟨A, cap, rfl, h1, h2, fun hl => ?_⟩
    obtain ⟨b, o, rfl, hb, hr⟩ := h3 hl
    refine ⟨b, o, rfl, hb, fun i hi => ?_⟩
    obtain ⟨u, r, f, s⟩ := hr i hi
    exact ⟨u, r, f, LIn.up s (by omega)⟩

/-- A place that held a slice holds another that reads as the same list: all that reads through it reads as before. -/
theorem LIn.turn {w w' : World} {S S' : Nat → Prop} {B B' : Nat} {qb qo : Nat} {A : Option Addr} {n cap : Nat} {v' : Value} {l : List C} {d d' : Nat} (hS : ∀ b, S b → S' b) (hSB : ∀ b, S b → b < B') (hq : w.cell? ⟨qb, qo, none⟩ = some (.slice A n cap)) (hl : LAt w B d (.slice A n cap) l) (hq' : w'.cell? ⟨qb, qo, none⟩ = some v') (hl' : LIn w' S' d' v' l)
    (hk : ∀ b o, S b → ¬ (b = qb ∧ o = qo) → w'.cell? ⟨b, o, none⟩ = w.cell? ⟨b, o, none⟩) : ∀ {D : Nat} {u : Value} {ll : List C}, LIn w S D u ll → LIn w' S' (D + d') u ll
  | 0, _, _, h => h.elim
  | D + 1, u, ll, h => by
    obtain ⟨Au, cu, rfl, h1, h2, h3⟩ := h
    rw [show D + 1 + d' = (D + d') + 1 by omega]
    refine ⟨Au, cu, rfl, h1, h2, fun h0 => ?_⟩
    obtain ⟨b, o, rfl, hb, hr⟩ := h3 h0
    refine ⟨b, o, rfl, hS b hb, fun i hi => ?_⟩
    obtain ⟨ui, r, f, s⟩ := hr i hi
    have ne : ∀ (o' : Nat) (x : Value), w.cell? ⟨b, o', none⟩ = some x → (∀ A n cap, x ≠ .slice A n cap) → w'.cell? ⟨b, o', none⟩ = some x := by
      intro o' x hx hn
      rw [hk b o' hb (fun e => by
        obtain ⟨e1, e2⟩ := e
        subst e1 e2
        rw [hq] at hx
        injection hx with hx
        exact hn _ _ _ hx.symm)]
      exact hx
    have r0 := ne _ _ r.c0 (fun _ _ _ e => by cases e)
    have r1 := ne _ _ r.c1 (fun _ _ _ e => by cases e)
    have r2 := ne _ _ r.c2 (fun _ _ _ e => by cases e)
    by_cases e : b = qb ∧ o + i * 4 + 3 = qo
    · obtain ⟨e1, e2⟩ := e
      subst e1 e2
      have h3 := r.c3
      rw [hq] at h3
      injection h3 with h3
      subst h3
      have := LAt.one (s.lat hSB) hl
      exact ⟨v', ⟨r0, r1, r2, hq'⟩, f, by rw [this]; exact hl'.up (by omega)⟩
    · exact ⟨ui, ⟨r0, r1, r2, (hk b _ hb e).trans r.c3⟩, f, LIn.turn hS hSB hq hl hq' hl' hk s⟩

theorem choose_rows {α : Type} (n : Nat) (p : Nat → α → Prop) (h : ∀ i, i < n → ∃ x, p i x) : ∃ l : List α, l.length = n ∧ ∀ i (hi : i < l.length), p i l[i] := by
  induction n with
  | zero => exact ⟨[], rfl, fun i hi => by cases hi⟩
  | succ n ih =>
    obtain ⟨l, hl, hp⟩ := ih fun i hi => h i (by omega)
    obtain ⟨x, hx⟩ := h n (by omega)
    refine ⟨l ++ [x], by simp [hl], fun i hi => ?_⟩
    by_cases hi' : i < l.length
    · rw [List.getElem_append_left hi']; exact hp i hi'
    · have : i = l.length := by simp at hi; omega
      subst this
      simpa [hl] using hx

/-- The rows of a list that is not empty. -/
theorem LNF.rows {w0 : World} {B d : Nat} {v : Value} {l : List C} (h : LNF lo w0 B (d + 1) v l) (hl : 0 < l.length) : ∃ (D : List (C × Value)) (b o cap : Nat), D.map (·.1) = l ∧ v = .slice (some ⟨b, o, none⟩) D.length cap ∧ b < B ∧ D.length ≤ cap ∧
    ∀ i (h : i < D.length), RowAt w0 b (o + i * 4) D[i].1 D[i].2 ∧ Wf D[i].1 ∧ w0.frozen? ⟨b, o + i * 4, none⟩ = false ∧ LNF lo w0 B d D[i].2 D[i].1.l := by
  obtain ⟨A, cap, rfl, h1, h2, h3⟩ := h
  obtain ⟨b, o, rfl, hb, hr⟩ := h3 hl
  obtain ⟨D, hDl, hD⟩ := choose_rows l.length (fun i (x : C × Value) => ∃ h : i < l.length, x.1 = l[i] ∧ RowAt w0 b (o + i * 4) x.1 x.2 ∧ Wf x.1 ∧ w0.frozen? ⟨b, o + i * 4, none⟩ = false ∧ LNF lo w0 B d x.2 x.1.l) (fun i hi => by
    obtain ⟨u, r, f, _, zf, s⟩ := hr i hi
    exact ⟨(l[i], u), hi, rfl, r, f, zf, s⟩)
  refine ⟨D, b, o, cap, ?_, by rw [hDl], hb, by omega, fun i hi => ?_⟩
  · apply List.ext_getElem (by simpa using hDl)
    intro i h4 h5
    rw [List.getElem_map]
    obtain ⟨_, e, _⟩ := hD i (by simpa using h4)
    exact e
  · obtain ⟨_, _, h⟩ := hD i hi
    exact h

/-- Behind separate: what is read at the place that it turned. -/
theorem sep_list {B : Nat} {w0 wc w' : World} {Qb Qo dep : Nat} {T : TypeId} {row : Array Value} {ab : Option Addr} {D : List (C × Value)} {b o c k : Nat} {ins : Value} {d : Nat} (hS : SepK wc Qb Qo T row dep ab D b o c k ins w') (hB : B ≤ w0.heap.size) (hwc : w0.heap.size ≤ wc.heap.size) (hb : Below w0.heap.size w0 w') (hc : D.length ≤ c) (hc2 : c ≤ maxLen)
    (hD : ∀ i (h : i < D.length), Wf D[i].1 ∧ LNF lo w0 B (d + 1) D[i].2 D[i].1.l) : LIn w' (SS lo B w0 w') (d + 2) (.slice (some ⟨wc.heap.size + 1, 0, none⟩) D.length c) (D.map (·.1)) := by
  obtain ⟨cur, hcur, hok⟩ := hS.own
  refine ⟨some ⟨wc.heap.size + 1, 0, none⟩, c, by rw [List.length_map], by rw [List.length_map]; exact hc, hc2, fun _ => ⟨wc.heap.size + 1, 0, rfl, .inr ⟨by omega, cur, hcur⟩, fun i hi => ?_⟩⟩
  rw [List.length_map] at hi
  obtain ⟨c0, c1, c2, c3⟩ := hok.cells i hi
  obtain ⟨hwf, hl⟩ := hD i hi
  have hc : ∀ j, w'.cell? ⟨wc.heap.size + 1, 0 + i * 4 + j, none⟩ = cur[i * 4 + j]? := fun j => by rw [Nat.zero_add, cell_of_row w' _ _ cur 38 (0, 0) hcur]
  refine ⟨if i < k then fixU D[i].1.l.length D[i].2 else D[i].2, ?_, by simpa using hwf, ?_⟩
  · simp only [List.getElem_map]
    exact ⟨(hc 0).trans c0, (hc 1).trans c1, (hc 2).trans c2, (hc 3).trans c3⟩
  · simp only [List.getElem_map]
    have hl' : LIn w' (SS lo B w0 w') (d + 1) D[i].2 D[i].1.l := hl.lin hB hb
    split
    · unfold fixU
      split
      · rename_i h0
        rw [List.length_eq_zero_iff.1 h0]
        exact LIn.nil _ _ _
      · exact hl'
    · exact hl'

theorem sep_below {w0 wc w' : World} {Qb Qo dep : Nat} {T : TypeId} {row : Array Value} {ab : Option Addr} {D : List (C × Value)} {b o c k : Nat} {ins : Value} (hS : SepK wc Qb Qo T row dep ab D b o c k ins w') (hb : Below w0.heap.size w0 wc) (hQ : w0.heap.size ≤ Qb) : Below w0.heap.size w0 w' := by
  have hg := hS.grown
  have := hb.size
  exact hb.trans ⟨hg.os, hg.tape, hg.output, hg.size, fun i hi => hg.block i (by omega) (fun e => by injection e; omega)⟩
theorem sep_SS {B : Nat} {w0 wc w' : World} {Qb Qo dep : Nat} {T : TypeId} {row : Array Value} {ab : Option Addr} {D : List (C × Value)} {b o c k : Nat} {ins : Value} (hS : SepK wc Qb Qo T row dep ab D b o c k ins w') (hQ : wc.heap[Qb]? = some (.cells row T (0, 0))) : ∀ x, SS lo B w0 wc x → SS lo B w0 w' x := by
  intro x hx
  rcases hx with hx | ⟨h0, cs, hx⟩
  · exact .inl hx
  · right
    refine ⟨h0, ?_⟩
    by_cases e : x = Qb
    · subst e
      rw [hQ] at hx
      injection hx with hx
      injection hx with e1 e2
      subst e2
      exact ⟨_, hS.q⟩
    · exact ⟨cs, (hS.grown.block x (Array.getElem?_eq_some_iff.1 hx).1 (fun h => e (by injection h))).trans hx⟩
theorem sep_cell {wc w' : World} {Qb Qo dep : Nat} {T : TypeId} {row : Array Value} {ab : Option Addr} {D : List (C × Value)} {b o c k : Nat} {ins : Value} (hS : SepK wc Qb Qo T row dep ab D b o c k ins w') (hQ : wc.heap[Qb]? = some (.cells row T (0, 0))) : ∀ x y, x < wc.heap.size → ¬ (x = Qb ∧ y = Qo) → w'.cell? ⟨x, y, none⟩ = wc.cell? ⟨x, y, none⟩ := by
  intro x y hx hn
  by_cases e : x = Qb
  · subst e
    rw [cell_of_row w' x y _ T (0, 0) hS.q, cell_of_row wc x y _ T (0, 0) hQ, Array.getElem?_setIfInBounds_ne (fun e => hn ⟨rfl, e.symm⟩)]
  · exact cell_same (hS.grown.block x hx (fun h => e (by injection h))) y

/-- Behind separate: what the copy reads as. -/
theorem sep_out {B : Nat} {w0 wc w' : World} {Qb Qo dep : Nat} {T : TypeId} {row : Array Value} {ab : Option Addr} {D : List (C × Value)} {b o cap c k : Nat} {ins : Value} {d d0 D0 : Nat} {v0 : Value} {l0 : List C} (hB : B ≤ w0.heap.size) (hS : SepK wc Qb Qo T row dep ab D b o c k ins w') (hb : Below w0.heap.size w0 wc) (hQge : w0.heap.size ≤ Qb) (hQ : wc.heap[Qb]? = some (.cells row T (0, 0)))
    (hv : row[Qo]? = some (.slice (some ⟨b, o, none⟩) D.length cap)) (hl : LNF lo w0 B d0 (.slice (some ⟨b, o, none⟩) D.length cap) (D.map (·.1))) (hc : D.length ≤ c) (hc2 : c ≤ maxLen) (hD : ∀ i (h : i < D.length), Wf D[i].1 ∧ LNF lo w0 B (d + 1) D[i].2 D[i].1.l)
    (ho : wc.heap[w0.heap.size]? = some (.cells #[v0] 36 (0, 0))) (hr : LIn wc (SS lo B w0 wc) D0 v0 l0) : ∃ v1 D1, w'.heap[w0.heap.size]? = some (.cells #[v1] 36 (0, 0)) ∧ LIn w' (SS lo B w0 w') D1 v1 l0 := by
  have hb' := sep_below hS hb hQge
  have hnew := sep_list hS hB hb.size hb' hc hc2 hD
  have hq : wc.cell? ⟨Qb, Qo, none⟩ = some (.slice (some ⟨b, o, none⟩) D.length cap) := by rw [cell_of_row wc Qb Qo row T (0, 0) hQ]; exact hv
  have hlw : LAt wc wc.heap.size d0 (.slice (some ⟨b, o, none⟩) D.length cap) (D.map (·.1)) := (hl.lat.below (hb.mono hB)).more (by have := hb.size; omega)
  have hlt : Qo < row.size := (Array.getElem?_eq_some_iff.1 hv).1
  have hq' : w'.cell? ⟨Qb, Qo, none⟩ = some (.slice (some ⟨wc.heap.size + 1, 0, none⟩) D.length c) := by
    rw [cell_of_row w' Qb Qo _ T (0, 0) hS.q, Array.getElem?_setIfInBounds_self_of_lt hlt]
  have hSB : ∀ x, SS lo B w0 wc x → x < wc.heap.size := fun x hx => hx.lt hB hb.size
  by_cases e : Qb = w0.heap.size
  · have hqq := hS.q
    rw [e] at hQ hqq
    rw [ho] at hQ
    injection hQ with hQ
    injection hQ with e1 e2
    subst e1 e2
    have hQo : Qo = 0 := by simp at hlt; exact hlt
    subst hQo
    have hv0 : v0 = .slice (some ⟨b, o, none⟩) D.length cap := by simpa using hv
    subst hv0
    have h1 : l0 = D.map (·.1) := LAt.one (hr.lat hSB) hlw
    subst h1
    exact ⟨_, _, hqq, hnew⟩
  · refine ⟨v0, D0 + (d + 2), ?_, LIn.turn (sep_SS hS hQ) hSB hq hlw hq' hnew (fun x y hx hn => sep_cell hS hQ x y (hSB x hx) hn) hr⟩
    rw [hS.grown.block w0.heap.size (Array.getElem?_eq_some_iff.1 ho).1 (fun h => e (by injection h with h; exact h.symm))]
    exact ho
end Go.Proofs.YtjanddnlhaionaaGreatDoor.L4
namespace Go.Proofs.YtjanddnlhaionaaGreatDoor.L4
open Go.RowKit
variable {lo : Nat}

/-- A list that is still to be copied. -/
structure PI where
  qb : Nat
  qo : Nat
  dep : Nat
  ab : Option Addr
  l : List C
def piC (x : PI) : List Value := [.pointer (some ⟨x.qb, x.qo, none⟩), .int .i64 x.dep, .pointer x.ab]
structure PIok (lo B : Nat) (w0 wr : World) (tot : Nat) (x : PI) : Prop where
  ge : w0.heap.size ≤ x.qb
  place : ∃ row T v d, wr.heap[x.qb]? = some (.cells row T (0, 0)) ∧ (T = 36 ∨ T = 38) ∧ row[x.qo]? = some v ∧ LNF lo w0 B d v x.l
  above : ∀ a, x.ab = some a → a.block < w0.heap.size ∧ ∃ cs t fr, w0.heap[a.block]? = some (.cells cs t fr)
  deep : x.dep + 1 + cntL x.l ≤ tot
structure CopyK (lo B : Nat) (w0 : World) (l0 : List C) (gk : Nat) (s4 : Value) (wr : World) : Prop where
  below : Below w0.heap.size w0 wr
  items : ∃ its : List PI, (∀ x ∈ its, PIok lo B w0 wr (1 + cntL l0) x) ∧ its.Pairwise (fun x y => ¬ (x.qb = y.qb ∧ x.qo = y.qo)) ∧ wr.ownsRow (w0.heap.size + 1) 257 3 s4 its.length (its.flatMap piC) ∧ (its.map (fun x => 1 + cntL x.l)).sum = gk
  small : gk ≤ 1 + cntL l0
  out : ∃ v D, wr.heap[w0.heap.size]? = some (.cells #[v] 36 (0, 0)) ∧ LIn wr (SS lo B w0 wr) D v l0

theorem sum_length (its : List PI) : its.length ≤ (its.map (fun x => 1 + cntL x.l)).sum := by
  induction its with
  | nil => simp
  | cons x its ih => simp only [List.length_cons, List.map_cons, List.sum_cons]; omega

theorem PIok.keep {B : Nat} {w0 wr w' : World} {tot : Nat} {x : PI} (h : PIok lo B w0 wr tot x) (hk : w'.heap[x.qb]? = wr.heap[x.qb]?) : PIok lo B w0 w' tot x := by
  obtain ⟨row, T, v, d, h1, h2, h3, h4⟩ := h.place
  exact ⟨h.ge, ⟨row, T, v, d, hk.trans h1, h2, h3, h4⟩, h.above, h.deep⟩
theorem PIok.lt {B : Nat} {w0 wr : World} {tot : Nat} {x : PI} (h : PIok lo B w0 wr tot x) : x.qb < wr.heap.size := by
  obtain ⟨row, T, v, d, h1, h2, h3, h4⟩ := h.place
  exact (Array.getElem?_eq_some_iff.1 h1).1

/-- The block of the work is none that is copied. -/
theorem own73 {w : World} {base : Nat} {v : Value} {n : Nat} {xs : List Value} (h : w.ownsRow base 257 3 v n xs) {g : Nat} (hg : v.ownBlock = some g) : ∃ cs, w.heap[g]? = some (.cells cs 257 (0, 0)) := by
  rcases h.2 with ⟨rfl, _⟩ | ⟨g', cap, cur, rfl, _, h1, _⟩
  · simp [Value.ownBlock] at hg
  · simp [Value.ownBlock] at hg
    subst hg
    exact ⟨cur, h1⟩

theorem ownsRow_cut {w : World} {base g cap n : Nat} {e : TypeId} {size : Nat} {xs ys : List Value} (h : w.ownsRow base e size (.slice (some ⟨g, 0, none⟩) (n + 1) cap) (n + 1) (xs ++ ys)) (hx : xs.length = n * size) : w.ownsRow base e size (.slice (some ⟨g, 0, none⟩) n cap) n xs := by
  refine ⟨hx, .inr ?_⟩
  rcases h.2 with ⟨h1, _⟩ | ⟨g', cap', cur, h1, hb, h2, h3, h4, h5, h6⟩
  · cases h1
  · cases h1
    refine ⟨g, cap, cur, rfl, hb, h2, by omega, h4, h5, ?_⟩
    have h7 : List.take (n * size) (xs ++ ys) = xs := by rw [← hx, List.take_left]
    have := congrArg (List.take (n * size)) h6
    rw [List.take_take, Nat.min_eq_left (Nat.mul_le_mul_right _ (Nat.le_succ _)), h7] at this
    exact this
theorem pic_length (its : List PI) : (its.flatMap piC).length = its.length * 3 := by
  induction its with
  | nil => rfl
  | cons x its ih => rw [List.flatMap_cons, List.length_append, ih, List.length_cons]; show 3 + _ = _; omega

/-- What came out of separate, as lists that are still to be copied. -/
def newPI (g dep : Nat) (D : List (C × Value)) (x : Nat × Option Addr) : PI := ⟨g, x.1 * 4 + 3, dep + 1, x.2, ((D.map (fun p : C × Value => p.1)).getD x.1 (C.mk 0 0 ⟨#[]⟩ [])).l⟩
theorem newPI_cells (g dep : Nat) (D : List (C × Value)) (its : List (Nat × Option Addr)) : (its.map (newPI g dep D)).flatMap piC = icells g dep its := by
  induction its with
  | nil => rfl
  | cons x its ih => rw [List.map_cons, List.flatMap_cons, ih]; rfl
theorem newPI_sum (g dep : Nat) (D : List (C × Value)) (its : List (Nat × Option Addr)) : ((its.map (newPI g dep D)).map (fun x => 1 + cntL x.l)).sum = (its.map (fun x => cntC ((D.map (·.1)).getD x.1 (.mk 0 0 ⟨#[]⟩ [])))).sum := by
  induction its with
  | nil => rfl
  | cons x its ih =>
    simp only [List.map_cons, List.sum_cons]
    rw [ih, cntC_l]
    rfl

/-- The work behind separate. -/
theorem CopyK.next {B : Nat} {w0 wc w' : World} {l0 : List C} {init : List PI} {x : PI} {T : TypeId} {row : Array Value} {D : List (C × Value)} {b o c d : Nat} {ins : Value}
    (hb : Below w0.heap.size w0 wc) (hit : ∀ y ∈ init ++ [x], PIok lo B w0 wc (1 + cntL l0) y) (hpw : (init ++ [x]).Pairwise (fun x y => ¬ (x.qb = y.qb ∧ x.qo = y.qo)))
    (hS : SepK wc x.qb x.qo T row x.dep x.ab D b o c D.length ins w') (hQ : wc.heap[x.qb]? = some (.cells row T (0, 0))) (hT : T = 36 ∨ T = 38) (hDl : D.map (·.1) = x.l) (hbl : b < w0.heap.size)
    (hD : ∀ i (h : i < D.length), RowAt w0 b (o + i * 4) D[i].1 D[i].2 ∧ LNF lo w0 B (d + 1) D[i].2 D[i].1.l) :
    ∃ its, Its D b o x.ab D.length its ∧ w'.ownsRow (wc.heap.size + 2) 257 3 ins its.length (icells (wc.heap.size + 1) x.dep its) ∧ (its = [] → ins = .slice none 0 0) ∧
      (∀ y ∈ init ++ its.map (newPI (wc.heap.size + 1) x.dep D), PIok lo B w0 w' (1 + cntL l0) y) ∧ (init ++ its.map (newPI (wc.heap.size + 1) x.dep D)).Pairwise (fun x y => ¬ (x.qb = y.qb ∧ x.qo = y.qo)) ∧
      ((init ++ its.map (newPI (wc.heap.size + 1) x.dep D)).map (fun x => 1 + cntL x.l)).sum < ((init ++ [x]).map (fun x => 1 + cntL x.l)).sum := by
  obtain ⟨its, hi, ho, hn⟩ := hS.its
  obtain ⟨cur, hcur, hok⟩ := hS.own
  have hx := hit x (by simp)
  have hz := hb.size
  rw [List.pairwise_append] at hpw
  refine ⟨its, hi, ho, hn, ?_, ?_, ?_⟩
  · intro y hy
    rcases List.mem_append.1 hy with hy | hy
    · have hy' := hit y (List.mem_append_left _ hy)
      by_cases e : y.qb = x.qb
      · obtain ⟨row', T', v, d', h1, h2, h3, h4⟩ := hy'.place
        rw [e, hQ] at h1
        injection h1 with h1
        injection h1 with e1 e2
        subst e1 e2
        have hne : x.qo ≠ y.qo := fun e2 => hpw.2.2 y hy x (by simp) ⟨e, e2.symm⟩
        exact ⟨hy'.ge, ⟨_, T, v, d', by rw [e]; exact hS.q, hT, by rw [Array.getElem?_setIfInBounds_ne hne]; exact h3, h4⟩, hy'.above, hy'.deep⟩
      · exact hy'.keep (hS.grown.block _ hy'.lt (fun h => e (by injection h)))
    · obtain ⟨⟨i, a⟩, hia, rfl⟩ := List.mem_map.1 hy
      obtain ⟨h1, h2, h3, h4⟩ := hi.lt _ hia
      simp only at h1 h2 h3 h4
      have hg : (D.map (·.1)).getD i (.mk 0 0 ⟨#[]⟩ []) = D[i].1 := by
        rw [List.getD_eq_getElem?_getD, List.getElem?_eq_getElem (by simpa using h1)]
        simp
      have hc3 := (hok.cells i h1).2.2.2
      rw [if_pos h2] at hc3
      unfold fixU at hc3
      rw [if_neg h3] at hc3
      refine ⟨by show w0.heap.size ≤ wc.heap.size + 1; omega, ⟨cur, 38, D[i].2, d + 1, hcur, .inr rfl, hc3, by show LNF lo _ _ _ _ ((D.map (fun p : C × Value => p.1)).getD i (C.mk 0 0 ⟨#[]⟩ [])).l; rw [hg]; exact (hD i h1).2⟩, ?_, ?_⟩
      · intro aa ha
        rcases h4 with h4 | h4
        · exact hx.above aa (by rw [← h4]; exact ha)
        · have : aa = ⟨b, o + i * 4, none⟩ := by
            have h5 : some aa = some ⟨b, o + i * 4, none⟩ := by rw [← h4]; exact ha.symm
            injection h5
          subst this
          exact ⟨hbl, cells_of_cell (hD i h1).1.c0⟩
      · show x.dep + 1 + 1 + cntL ((D.map (fun p : C × Value => p.1)).getD i (C.mk 0 0 ⟨#[]⟩ [])).l ≤ _
        rw [hg]
        have h5 := hx.deep
        have h6 : cntC D[i].1 ≤ cntL x.l := by rw [← hDl]; exact cntL_mem (List.mem_map.2 ⟨D[i], List.getElem_mem h1, rfl⟩)
        rw [cntC_l] at h6
        omega
  · rw [List.pairwise_append]
    refine ⟨hpw.1, ?_, ?_⟩
    · rw [List.pairwise_map]
      refine hi.inc.imp ?_
      rintro ⟨i, a⟩ ⟨j, a'⟩ hij ⟨_, e⟩
      simp only [newPI] at e hij
      omega
    · intro y hy z hz2 e
      obtain ⟨⟨i, a⟩, hia, rfl⟩ := List.mem_map.1 hz2
      have := (hit y (List.mem_append_left _ hy)).lt
      have e1 : y.qb = wc.heap.size + 1 := e.1
      omega
  · rw [List.map_append, List.map_append, List.sum_append, List.sum_append, newPI_sum]
    have h1 := hi.cnt
    rw [hDl] at h1
    have h2 : cntL (x.l.take D.length) ≤ cntL x.l := cntL_take_le _ _
    rw [hDl]
    simp only [List.map_cons, List.map_nil, List.sum_cons, List.sum_nil]
    omega

set_option maxHeartbeats 800000 in
theorem separate39_nil (Qb Qo dep : Nat) (ab : Option Addr) (T : TypeId) (row : Array Value) (A : Option Addr) (cap : Nat) (w : World) (hQ : w.heap[Qb]? = some (.cells row T (0, 0))) (hQo : row[Qo]? = some (.slice A 0 cap)) :
    Calls Tryz.prog 174 #[.agg #[.pointer (some ⟨Qb, Qo, none⟩), .int .i64 dep, .pointer ab]] w fun e w' => e = .returned (.tuple #[.slice none 0 0, .bool false]) ∧ w' = (w.setCell ⟨Qb, Qo, none⟩ (.slice none 0 0)).alloc (.cells #[.pointer (some ⟨Qb, Qo, none⟩), .int .i64 dep, .pointer ab] 257) := by
  have hQl := (Array.getElem?_eq_some_iff.1 hQ).1
  have g0 : w.cell? ⟨Qb, Qo, none⟩ = some (.slice A 0 cap) := by rw [cell_of_row w Qb Qo row T (0, 0) hQ]; exact hQo
  have z0 : w.frozen? ⟨Qb, Qo, none⟩ = false := by simp [World.frozen?, hQ]
  clear hQ hQo
  cases A with
  | none =>
    go_enter Tryz.func174, Tryz.ntmps174
    go_wp2_with fail
    go_loopw [2, 20] (fun s2 s20 wr => s2 = .slice none 0 0 ∧ s20 = .int .i64 0 ∧ wr = (w.setCell ⟨Qb, Qo, none⟩ (.slice none 0 0)).alloc (.cells #[.pointer (some ⟨Qb, Qo, none⟩), .int .i64 dep, .pointer ab] 257)) (fun _ _ _ => 0)
    case atStart => exact ⟨rfl, rfl, rfl⟩
    case round =>
      obtain ⟨rfl, rfl, rfl⟩ := hrel
      go_wp2_with fail
      go_ret2
      exact ⟨rfl, rfl⟩
  | some a =>
    go_enter Tryz.func174, Tryz.ntmps174
    go_wp2_with fail
    go_loopw [2, 20] (fun s2 s20 wr => s2 = .slice none 0 0 ∧ s20 = .int .i64 0 ∧ wr = (w.setCell ⟨Qb, Qo, none⟩ (.slice none 0 0)).alloc (.cells #[.pointer (some ⟨Qb, Qo, none⟩), .int .i64 dep, .pointer ab] 257)) (fun _ _ _ => 0)
    case atStart => exact ⟨rfl, rfl, rfl⟩
    case round =>
      obtain ⟨rfl, rfl, rfl⟩ := hrel
      go_wp2_with fail
      go_ret2
      exact ⟨rfl, rfl⟩

theorem nil_heap {wc : World} {Qb Qo : Nat} {X : Obj} (i : Nat) (hi : i < wc.heap.size) (hn : i ≠ Qb) : ((wc.setCell ⟨Qb, Qo, none⟩ (.slice none 0 0)).alloc X).heap[i]? = wc.heap[i]? := by
  rw [Below.heap_alloc _ _ _ (by simp [World.setCell]; exact hi), Below.heap_setCell _ _ _ _ hn]
theorem nil_row {wc : World} {Qb Qo : Nat} {T : TypeId} {row : Array Value} {X : Obj} (hQ : wc.heap[Qb]? = some (.cells row T (0, 0))) : ((wc.setCell ⟨Qb, Qo, none⟩ (.slice none 0 0)).alloc X).heap[Qb]? = some (.cells (row.setIfInBounds Qo (.slice none 0 0)) T (0, 0)) := by
  rw [Below.heap_alloc _ _ _ (by simp [World.setCell]; exact (Array.getElem?_eq_some_iff.1 hQ).1)]
  exact set_row hQ Qo _
theorem nil_out {B : Nat} {w0 wc : World} {Qb Qo : Nat} {T : TypeId} {row : Array Value} {X : Obj} {A : Option Addr} {cap d0 D0 : Nat} {v0 : Value} {l0 : List C} (hB : B ≤ w0.heap.size) (hb : Below w0.heap.size w0 wc) (hQ : wc.heap[Qb]? = some (.cells row T (0, 0))) (hv : row[Qo]? = some (.slice A 0 cap)) (hl : LNF lo w0 B d0 (.slice A 0 cap) [])
    (ho : wc.heap[w0.heap.size]? = some (.cells #[v0] 36 (0, 0))) (hr : LIn wc (SS lo B w0 wc) D0 v0 l0) : ∃ v1 D1, ((wc.setCell ⟨Qb, Qo, none⟩ (.slice none 0 0)).alloc X).heap[w0.heap.size]? = some (.cells #[v1] 36 (0, 0)) ∧ LIn ((wc.setCell ⟨Qb, Qo, none⟩ (.slice none 0 0)).alloc X) (SS lo B w0 ((wc.setCell ⟨Qb, Qo, none⟩ (.slice none 0 0)).alloc X)) D1 v1 l0 := by
  have hq : wc.cell? ⟨Qb, Qo, none⟩ = some (.slice A 0 cap) := by rw [cell_of_row wc Qb Qo row T (0, 0) hQ]; exact hv
  have hlw : LAt wc wc.heap.size d0 (.slice A 0 cap) [] := (hl.lat.below (hb.mono hB)).more (by have := hb.size; omega)
  have hlt : Qo < row.size := (Array.getElem?_eq_some_iff.1 hv).1
  have hrow := nil_row (Qo := Qo) (X := X) hQ
  have hheap := fun i hi hn => nil_heap (wc := wc) (Qb := Qb) (Qo := Qo) (X := X) i hi hn
  have hQl := (Array.getElem?_eq_some_iff.1 hQ).1
  generalize (wc.setCell ⟨Qb, Qo, none⟩ (.slice none 0 0)).alloc X = w' at hrow hheap
  have hq' : w'.cell? ⟨Qb, Qo, none⟩ = some (.slice none 0 0) := by
    rw [cell_of_row w' Qb Qo _ T (0, 0) hrow, Array.getElem?_setIfInBounds_self_of_lt hlt]
  have hSB : ∀ x, SS lo B w0 wc x → x < wc.heap.size := fun x hx => hx.lt hB hb.size
  by_cases e : Qb = w0.heap.size
  · rw [e] at hQ hrow
    rw [ho] at hQ
    injection hQ with hQ
    injection hQ with e1 e2
    subst e1 e2
    have hQo : Qo = 0 := by simp at hlt; exact hlt
    subst hQo
    have hv0 : v0 = .slice A 0 cap := by simpa using hv
    subst hv0
    have h1 : l0 = [] := LAt.one (hr.lat hSB) hlw
    subst h1
    exact ⟨_, 1, hrow, LIn.nil _ _ _⟩
  · refine ⟨v0, D0 + 1, (hheap _ (Array.getElem?_eq_some_iff.1 ho).1 (fun h => e h.symm)).trans ho, LIn.turn (fun x hx => ?_) hSB hq hlw hq' (LIn.nil _ _ _) (fun x y hx hn => ?_) hr⟩
    · rcases hx with hx | ⟨h0, cs, hx⟩
      · exact .inl hx
      · right
        refine ⟨h0, ?_⟩
        by_cases e2 : x = Qb
        · subst e2
          rw [hQ] at hx
          injection hx with hx
          injection hx with e3 e4
          subst e4
          exact ⟨_, hrow⟩
        · exact ⟨cs, (hheap x (Array.getElem?_eq_some_iff.1 hx).1 e2).trans hx⟩
    · by_cases e2 : x = Qb
      · subst e2
        rw [cell_of_row w' x y _ T (0, 0) hrow, cell_of_row wc x y _ T (0, 0) hQ, Array.getElem?_setIfInBounds_ne (fun e => hn ⟨rfl, e.symm⟩)]
      · exact cell_same (hheap x (hSB x hx) e2) y
theorem nil_items {B : Nat} {w0 wc : World} {tot : Nat} {init : List PI} {x : PI} {T : TypeId} {row : Array Value} {X : Obj} (hit : ∀ y ∈ init ++ [x], PIok lo B w0 wc tot y) (hpw : (init ++ [x]).Pairwise (fun x y => ¬ (x.qb = y.qb ∧ x.qo = y.qo))) (hQ : wc.heap[x.qb]? = some (.cells row T (0, 0))) :
    (∀ y ∈ init, PIok lo B w0 ((wc.setCell ⟨x.qb, x.qo, none⟩ (.slice none 0 0)).alloc X) tot y) ∧ init.Pairwise (fun x y => ¬ (x.qb = y.qb ∧ x.qo = y.qo)) := by
  rw [List.pairwise_append] at hpw
  refine ⟨fun y hy => ?_, hpw.1⟩
  have hy' := hit y (List.mem_append_left _ hy)
  by_cases e : y.qb = x.qb
  · obtain ⟨row', T', v, d', h1, h2, h3, h4⟩ := hy'.place
    rw [e, hQ] at h1
    injection h1 with h1
    injection h1 with e1 e2
    subst e1 e2
    have hne : x.qo ≠ y.qo := fun e2 => hpw.2.2 y hy x (by simp) ⟨e, e2.symm⟩
    exact ⟨hy'.ge, ⟨_, T, v, d', by rw [e]; exact nil_row hQ, h2, by rw [Array.getElem?_setIfInBounds_ne hne]; exact h3, h4⟩, hy'.above, hy'.deep⟩
  · exact hy'.keep (nil_heap _ hy'.lt e)
end Go.Proofs.YtjanddnlhaionaaGreatDoor.L4
