/-
  Contracts of sectors and Scan. No condition.
-/
import Derived.Test.YtjanddnlhaionaaGreatDoorL6YF
namespace Go.Proofs.YtjanddnlhaionaaGreatDoor.L6
open Go.RowKit Go.Shelf
attribute [local go_sem] Oper.semAt_some

set_option maxRecDepth 100000 in
set_option maxHeartbeats 400000 in
theorem sectors40 (p : Option Addr) (w : World) :
    Calls Tryz.prog 168 #[.pointer p] w fun e w' => e = .returned (.func (.func 192) #[] #[.pointer (some ⟨w.heap.size, 0, none⟩)]) ∧ w' = w.alloc (.cells #[.pointer p] 59) := by
  go_enter Tryz.func168, Tryz.ntmps168
  go_wp2
  go_ret
  exact ⟨rfl, rfl⟩

def scanR (l : List Item) : Rd := scanL (l.map (·.1.1))
set_option maxRecDepth 100000 in
theorem scanR_snoc (l : List Item) (x : Item) : scanR (l ++ [x]) = visit (scanR l) x.1.1 := by
  unfold scanR scanL; rw [List.map_append, List.foldl_append]; rfl
set_option maxRecDepth 100000 in
theorem visit_ok (r : Rd) (t : ByteArray) (n : Nat) (h : r.recs.length ≤ n ∧ r.data.length ≤ 51 * n ∧ r.parts ≤ n ∧ r.vis = n) : (visit r t).recs.length ≤ n + 1 ∧ (visit r t).data.length ≤ 51 * (n + 1) ∧ (visit r t).parts ≤ n + 1 ∧ (visit r t).vis = n + 1 := by
  obtain ⟨h1, h2, h3, h4⟩ := h
  rw [visit_eq]
  split
  · refine ⟨?_, ?_, ?_, ?_⟩ <;> (simp only [rd2]; omega)
  · have hd := parseS_data t.data.toList
    unfold takeS
    split
    · simp only [rd2, List.length_append, List.length_singleton, List.length_nil]; omega
    · simp only [rd2, List.length_append]; omega
set_option maxRecDepth 100000 in
theorem scanL_ok (l : List ByteArray) : (scanL l).recs.length ≤ l.length ∧ (scanL l).data.length ≤ 51 * l.length ∧ (scanL l).parts ≤ l.length ∧ (scanL l).vis = l.length := by
  unfold scanL
  rw [show l = l.reverse.reverse by simp]
  generalize l.reverse = m
  induction m with
  | nil => simp [rd0]
  | cons a m ih =>
    rw [List.reverse_cons, List.foldl_append, List.length_append]
    exact visit_ok _ _ _ ih
set_option maxRecDepth 100000 in
theorem scanR_okRd (l : List Item) (h : l.length ≤ 10000) : OkRd (scanR l) := by
  have := scanL_ok (l.map (·.1.1))
  rw [List.length_map] at this
  unfold scanR
  exact ⟨by omega, by omega, by omega, by omega⟩

set_option maxRecDepth 100000 in
theorem qis_own (B r : Nat) (f : List Item → Rd) : Own (fun pre W => ∃ v1 v2, QIs W B r (f pre) v1 v2) := by
  rintro s X Y row ⟨v1, v2, h⟩ hg hr
  refine ⟨v1, v2, h.keep fun k hk => hg.block k (h.lt hk) (fun e => ?_)⟩
  obtain ⟨o, ho, hc⟩ := hr k e.symm
  obtain ⟨cs, t, hcs, -⟩ := h.cells hk
  rw [hcs] at ho
  cases ho
  cases hc

/-- Between two rounds of Scan. -/
def SInv (w : World) (p : Option Addr) (pre : List Item) (W : World) : Prop :=
  (∃ v1 v2, QIs W w.heap.size (w.heap.size + 4) (scanR pre) v1 v2) ∧ Boxed W w.heap.size 25 (.slice none 0 0) ∧ Boxed W (w.heap.size + 1) 3 (.int .i64 0) ∧ Boxed W (w.heap.size + 2) 3 (.int .i64 0) ∧ Boxed W (w.heap.size + 3) 30 (.int .i64 0) ∧ Boxed W (w.heap.size + 5) 59 (.pointer p) ∧ Below w.heap.size w W ∧ ∀ x ∈ pre, x.1.2 = 0
def lastE (l : List Item) : Int := match l.getLast? with | some x => x.1.2 | none => 0
def SInvX (w : World) (c : Code) (pre : List Item) (W : World) : Prop :=
  (c = .ret ∧ ∃ l x, pre = l ++ [x] ∧ x.1.2 ≠ 0) ∧ Boxed W w.heap.size 25 (.slice none 0 0) ∧ Boxed W (w.heap.size + 1) 3 (.int .i64 0) ∧ Boxed W (w.heap.size + 2) 3 (.int .i64 0) ∧ (Boxed W (w.heap.size + 3) 30 (.int .i64 (lastE pre))) ∧ Below w.heap.size w W
set_option maxRecDepth 100000 in
theorem sInv_own (w : World) (p : Option Addr) (lo : Nat) (h : w.heap.size ≤ lo) : OwnFrom lo (SInv w p) :=
  OwnFrom.and (Own.from (qis_own _ _ _) _) (OwnFrom.and (Own.from (boxed_own _ _ _) _) (OwnFrom.and (Own.from (boxed_own _ _ _) _) (OwnFrom.and (Own.from (boxed_own _ _ _) _) (OwnFrom.and (Own.from (boxed_own _ _ _) _) (OwnFrom.and (Own.from (boxed_own _ _ _) _) (OwnFrom.and (ownFrom_below (Nat.le_refl _) h) (ownFrom_pure _ _)))))))
set_option maxRecDepth 100000 in
theorem sInvX_own (w : World) (lo : Nat) (h : w.heap.size ≤ lo) (c : Code) : OwnFrom lo (SInvX w c) :=
  OwnFrom.and (ownFrom_pure _ _) (OwnFrom.and (Own.from (boxed_own _ _ _) _) (OwnFrom.and (Own.from (boxed_own _ _ _) _) (OwnFrom.and (Own.from (boxed_own _ _ _) _) (OwnFrom.and (Own.from (boxed_own _ _ _) _) (ownFrom_below (Nat.le_refl _) h)))))

set_option maxRecDepth 100000 in
/-- The end of Scan: the four results lie in their boxes. -/
theorem fin14 {P : Ending → World → Prop} (w W : World) (D : Nat) (v : Value) (q1 q2 q3 : Int) (hK : W.heap[D]? = some (.deferred (some []))) (b0 : Boxed W w.heap.size 25 v) (b1 : Boxed W (w.heap.size + 1) 3 (.int .i64 q1)) (b2 : Boxed W (w.heap.size + 2) 3 (.int .i64 q2)) (b3 : Boxed W (w.heap.size + 3) 30 (.int .i64 q3))
    {tmps : Array Value} (h2 : tmps[2]?.getD undef = .pointer (some ⟨w.heap.size, 0, none⟩)) (h3 : tmps[3]?.getD undef = .pointer (some ⟨w.heap.size + 1, 0, none⟩)) (h4 : tmps[4]?.getD undef = .pointer (some ⟨w.heap.size + 2, 0, none⟩)) (h5 : tmps[5]?.getD undef = .pointer (some ⟨w.heap.size + 3, 0, none⟩))
    (hP : P (.returned (.tuple #[v, .int .i64 q1, .int .i64 q2, .int .i64 q3])) (W.putObj D (.deferred none))) :
    bodyPostM Fence.wide 5 Tryz.prog Tryz.f128 P .ret { tmps := tmps, defers := [{ target := .collected D, args := #[] }] } W := by
  refine ⟨by simp, .inl ⟨_, _, rfl, run_takeDeferred hK, ?_⟩⟩
  have c0 := cell_kept b0.cell (grownBy_putObj' W D (.deferred none)) (fun r e => by cases e; exact ⟨_, hK, rfl⟩)
  have c1 := cell_kept b1.cell (grownBy_putObj' W D (.deferred none)) (fun r e => by cases e; exact ⟨_, hK, rfl⟩)
  have c2 := cell_kept b2.cell (grownBy_putObj' W D (.deferred none)) (fun r e => by cases e; exact ⟨_, hK, rfl⟩)
  have c3 := cell_kept b3.cell (grownBy_putObj' W D (.deferred none)) (fun r e => by cases e; exact ⟨_, hK, rfl⟩)
  refine ⟨.tuple #[_, .int .i64 q1, .int .i64 q2, .int .i64 q3], ?_, hP⟩
  simp [results, Tryz.results128, go_sem, h2, h3, h4, h5, c0, c1, c2, c3]

set_option maxRecDepth 100000 in
set_option maxHeartbeats 2000000 in
theorem scan14 (p : Option Addr) (Q : World → Prop) (rd : Nat → ByteArray × Int) (L : List Item) (hL : Gives rd L) (hLl : L.length ≤ 10000) (w : World)
    (HQb : ∀ W W', Q W → Below W.heap.size W W' → Q W') (HQt : ∀ W W', Q W → Turn (GB w.heap.size (w.heap.size + 5)) W W' → Q W')
    (HR : ∀ W, Q W → ∀ i : Nat, Calls Tryz.prog 193 #[.pointer p, .int .i64 (i : Int)] W fun e w' => e = .returned (.tuple #[.string (rd i).1, .int .i64 (rd i).2]) ∧ Below W.heap.size W w')
    (hQ : Q w) :
    Calls Tryz.prog 128 #[.pointer p] w fun e w' => Below w.heap.size w w' ∧
      ((∃ v, (∀ x ∈ L, x.1.2 = 0) ∧ e = .returned (.tuple #[v, .int .i64 ((scanR L).occ : Int), .int .i64 ((scanR L).great : Int), .int .i64 0]) ∧ w'.ownsRow w.heap.size 9 1 v (scanR L).recs.length (strs (scanR L).recs)) ∨
       ((∃ x ∈ L, x.1.2 ≠ 0) ∧ e = .returned (.tuple #[.slice none 0 0, .int .i64 0, .int .i64 0, .int .i64 (lastE L)]))) := by
  have HS := Lib.hid (sectors40 p)
  have HLL := Lib.hid hL
  have HQB := Lib.hid HQb
  have HQT := Lib.hid HQt
  have HRD := Lib.hid HR
  have HQ := Lib.hid hQ
  clear hL HQb HQt HR hQ
  refine (callsIn_wide (n := 5)).1 ?_
  refine callsIn_of_wp_marks Tryz.func128 rfl trivial ?_ rfl
  simp only [Tryz.ntmps128, List.size_toArray, List.length_cons, List.length_nil, Nat.reduceAdd, Nat.reduceSub, Array.replicate_succ, Array.replicate_zero, List.push_toArray, List.append_toArray, List.nil_append, List.cons_append]
  gi_wp2_with (refine ⟨trivial, ?_⟩; gi_at_call 168; refine (callsIn_wide.2 (HS.out _)).mono ?_; rintro e w' ⟨rfl, rfl⟩)
  simp only [Nat.add_assoc, Nat.reduceAdd]
  have bA := ((((((Boxed.new w 25 (.slice none 0 0)).alloc (.cells #[.int .i64 0] 3)).alloc (.cells #[.int .i64 0] 3)).alloc (.cells #[.int .i64 0] 30)).alloc (.cells #[.slice none 0 0, .int .i64 0, .int .i64 0, .int .i64 0, .bool false, .int .i64 0, .int .i64 0, .slice none 0 0] 248)).alloc (.cells #[.pointer p] 59))
  have bB := (((((Boxed.new (w.alloc (.cells #[.slice none 0 0] 25)) 3 (.int .i64 0)).alloc (.cells #[.int .i64 0] 3)).alloc (.cells #[.int .i64 0] 30)).alloc (.cells #[.slice none 0 0, .int .i64 0, .int .i64 0, .int .i64 0, .bool false, .int .i64 0, .int .i64 0, .slice none 0 0] 248)).alloc (.cells #[.pointer p] 59))
  have bC := ((((Boxed.new ((w.alloc (.cells #[.slice none 0 0] 25)).alloc (.cells #[.int .i64 0] 3)) 3 (.int .i64 0)).alloc (.cells #[.int .i64 0] 30)).alloc (.cells #[.slice none 0 0, .int .i64 0, .int .i64 0, .int .i64 0, .bool false, .int .i64 0, .int .i64 0, .slice none 0 0] 248)).alloc (.cells #[.pointer p] 59))
  have bD := (((Boxed.new (((w.alloc (.cells #[.slice none 0 0] 25)).alloc (.cells #[.int .i64 0] 3)).alloc (.cells #[.int .i64 0] 3)) 30 (.int .i64 0)).alloc (.cells #[.slice none 0 0, .int .i64 0, .int .i64 0, .int .i64 0, .bool false, .int .i64 0, .int .i64 0, .slice none 0 0] 248)).alloc (.cells #[.pointer p] 59))
  have bE := (Below.heap_alloc _ (.cells #[.pointer p] 59) _ (by simp)).trans (heap_alloc_new ((((w.alloc (.cells #[.slice none 0 0] 25)).alloc (.cells #[.int .i64 0] 3)).alloc (.cells #[.int .i64 0] 3)).alloc (.cells #[.int .i64 0] 30)) (.cells #[.slice none 0 0, .int .i64 0, .int .i64 0, .int .i64 0, .bool false, .int .i64 0, .int .i64 0, .slice none 0 0] 248))
  have bF := Boxed.new (((((w.alloc (.cells #[.slice none 0 0] 25)).alloc (.cells #[.int .i64 0] 3)).alloc (.cells #[.int .i64 0] 3)).alloc (.cells #[.int .i64 0] 30)).alloc (.cells #[.slice none 0 0, .int .i64 0, .int .i64 0, .int .i64 0, .bool false, .int .i64 0, .int .i64 0, .slice none 0 0] 248)) 59 (.pointer p)
  have hB0 : Below w.heap.size w ((((((w.alloc (.cells #[.slice none 0 0] 25)).alloc (.cells #[.int .i64 0] 3)).alloc (.cells #[.int .i64 0] 3)).alloc (.cells #[.int .i64 0] 30)).alloc (.cells #[.slice none 0 0, .int .i64 0, .int .i64 0, .int .i64 0, .bool false, .int .i64 0, .int .i64 0, .slice none 0 0] 248)).alloc (.cells #[.pointer p] 59)) :=
    ((((((Below.refl _ w).alloc (Nat.le_refl _) _).alloc (by simp) _).alloc (by simp; omega) _).alloc (by simp; omega) _).alloc (by simp; omega) _).alloc (by simp; omega) _
  have hsz : ((((((w.alloc (.cells #[.slice none 0 0] 25)).alloc (.cells #[.int .i64 0] 3)).alloc (.cells #[.int .i64 0] 3)).alloc (.cells #[.int .i64 0] 30)).alloc (.cells #[.slice none 0 0, .int .i64 0, .int .i64 0, .int .i64 0, .bool false, .int .i64 0, .int .i64 0, .slice none 0 0] 248)).alloc (.cells #[.pointer p] 59)).heap.size = w.heap.size + 6 := by simp
  simp only [World.size_alloc, Nat.add_assoc, Nat.reduceAdd] at bB bC bD bE bF
  generalize ((((((w.alloc (.cells #[.slice none 0 0] 25)).alloc (.cells #[.int .i64 0] 3)).alloc (.cells #[.int .i64 0] 3)).alloc (.cells #[.int .i64 0] 30)).alloc (.cells #[.slice none 0 0, .int .i64 0, .int .i64 0, .int .i64 0, .bool false, .int .i64 0, .int .i64 0, .slice none 0 0] 248)).alloc (.cells #[.pointer p] 59)) = W0 at bA bB bC bD bE bF hB0 hsz ⊢
  have hq0 : QIs W0 w.heap.size (w.heap.size + 4) (scanR []) (.slice none 0 0) (.slice none 0 0) := ⟨bE, World.ownsRow_nil _ _ _ _, World.ownsRow_nil _ _ _ _, by omega⟩
  have hn : w.heap.size ≤ W0.heap.size := by omega
  refine wpIn_rangeFunc_ownH rfl (by omega) (gf := 192) (lb := #[.pointer (some ⟨w.heap.size + 5, 0, none⟩)]) rfl trivial (enters_of Tryz.func192 (by kernel_rfl) rfl)
    (iter58 4 (by omega) w.heap.size (w.heap.size + 5) (.pointer p) Q rd L HLL.out (by omega) HQB.out HQT.out HRD.out W0 (HQB.out _ _ HQ.out hB0) bF.cell)
    (fun h k => h.trans k (fun i hi => .inl hi))
    (fun W l o o' hl ho hc _ => ⟨rfl, rfl, rfl, by simp [World.putObj], fun k _ hk => World.putObj_heap_other (fun e => hk ⟨by omega, by omega⟩)⟩)
    (Below.refl _ _) (fun _ => rfl)
    (SInv w p) (SInvX w) (sInv_own w p _ hn) (sInvX_own w _ hn)
    ⟨⟨_, _, hq0⟩, bA, bB, bC, bD, bF, hB0, fun x hx => by simp at hx⟩
    (fun x a' _ => a' = { tmps := #[.pointer p, undef, .pointer (some ⟨w.heap.size, 0, none⟩), .pointer (some ⟨w.heap.size + 1, 0, none⟩), .pointer (some ⟨w.heap.size + 2, 0, none⟩), .pointer (some ⟨w.heap.size + 3, 0, none⟩), .pointer (some ⟨w.heap.size + 4, 0, none⟩), .string x.1.1, .int .i64 x.1.2, .pointer p,
        .func (.func 192) #[] #[.pointer (some ⟨w.heap.size + 5, 0, none⟩)], .string x.1.1, .int .i64 x.1.2, undef, undef, undef, undef, undef, undef, undef, undef, undef, undef, undef], defers := [] })
    (fun _ _ _ _ _ _ hs _ _ => hs) ?assign ?body ?done ?stop
  case assign =>
    rintro lp pre x W K hi hK
    unfold encR
    have HR := Lib.hid (hK _ W (KeepsFrom.refl _ _) (Turn.refl _ _) hi rfl)
    clear hK hi
    gi_wp2
    exact HR.out
  case body =>
    rintro lp pre ⟨⟨tx, er⟩, hx64⟩ a' W hlp ⟨rr, hrr⟩ ⟨⟨v1, v2, hq⟩, b0, b1, b2, b3, b5, hbel, hz⟩ rfl hlt
    have HX := Lib.hid hx64
    simp only at hx64 HX ⊢
    by_cases h0 : er = 0
    · have e0 : (er != (0 : Int)) = false := by rw [h0]; rfl
      have hok := scanR_okRd pre (by omega)
      have hvis : (scanR pre).vis < 1000000 := by
        have := (scanL_ok (pre.map (·.1.1))).2.2.2
        rw [List.length_map] at this
        show (scanL _).vis < _
        omega
      have HV := Lib.hid (visit41 hq hok hvis hbel.size tx (hx64 h0))
      have hG : ∀ k, RF (w.heap.size + 4) v1 v2 k → GB w.heap.size (w.heap.size + 5) k := fun k hk => by
        obtain ⟨cs, t, hc, ht⟩ := hq.cells hk
        refine ⟨hq.ge hk, ty_ne hc b5 (by rcases ht with rfl | rfl | rfl <;> decide)⟩
      have hK : ∀ k cs t, RF (w.heap.size + 4) v1 v2 k → W.heap[k]? = some (.cells cs t (0, 0)) → (t = 248 ∨ t = 9 ∨ t = 5) := fun k cs t hk hc => by
        obtain ⟨cs', t', hc', ht⟩ := hq.cells hk
        rw [hc] at hc'
        cases hc'
        exact ht
      have hbx : ∀ (W' : World) (b : Nat) (t : TypeId) (v : Value), Turn (RF (w.heap.size + 4) v1 v2) W W' → Boxed W b t v → ¬ (t = 248 ∨ t = 9 ∨ t = 5) → Boxed W' b t v := fun W' b t v ht hb hn =>
        (ht.block b (Array.getElem?_eq_some_iff.1 hb).1 (fun hk => hn (hK b _ t hk hb))).trans hb
      have HNX : Hid (∀ W', (∃ u1 u2, QIs W' w.heap.size (w.heap.size + 4) (visit (scanR pre) tx) u1 u2 ∧ Turn (RF (w.heap.size + 4) v1 v2) W W' ∧ ∀ k, RF (w.heap.size + 4) u1 u2 k → RF (w.heap.size + 4) v1 v2 k ∨ W.heap.size ≤ k) →
          KeepsFrom W0.heap.size W W' ∧ Turn (GB w.heap.size (w.heap.size + 5)) W W' ∧ SInv w p (pre ++ [⟨(tx, er), HX.out⟩]) W') := by
        rintro W' ⟨u1, u2, hq', ht', -⟩
        refine ⟨⟨ht'.size, fun k o _ hk ho => (ht'.block k (Array.getElem?_eq_some_iff.1 hk).1 (fun hr => ?_)).trans hk⟩, ht'.mono hG, ⟨u1, u2, by rw [scanR_snoc]; exact hq'⟩, hbx _ _ _ _ ht' b0 (by decide), hbx _ _ _ _ ht' b1 (by decide), hbx _ _ _ _ ht' b2 (by decide), hbx _ _ _ _ ht' b3 (by decide), hbx _ _ _ _ ht' b5 (by decide), hbel.trans (ht'.below w.heap.size hbel.size (fun k hk => hq.ge hk)), fun x hx => ?_⟩
        · obtain ⟨cs, t, hc, -⟩ := hq.cells hr
          rw [hc] at hk
          cases hk
          cases ho
        · rcases List.mem_append.1 hx with hx | hx
          · exact hz x hx
          · have : x = ⟨(tx, er), HX.out⟩ := by simpa using hx
            rw [this]; exact h0
      clear hq b0 b1 b2 b3 b5 hbel hz hok hvis hG hK hbx
      gi_wp2_with fail
      refine ⟨trivial, (CallsIn.inRound lp (callsIn_wide.2 HV.out)).mono ?_⟩
      rintro ee w2 ⟨rfl, hv⟩
      have HF := Lib.hid (HNX.out _ hv)
      clear hv HNX HV
      gi_wp2
      exact HF.out
    · have e0 : (er != (0 : Int)) = true := by rw [bne, Bool.not_eq_true', beq_eq_false_iff_ne]; exact h0
      have a0 := b0.cell
      have a1 := b1.cell
      have a2 := b2.cell
      have a3 := b3.cell
      have f0 := b0.frozen
      have f1 := b1.frozen
      have f2 := b2.frozen
      have f3 := b3.frozen
      have HF : Hid (KeepsFrom W0.heap.size W ((((W.setCell ⟨w.heap.size, 0, none⟩ (.slice none 0 0)).setCell ⟨w.heap.size + 1, 0, none⟩ (.int .i64 0)).setCell ⟨w.heap.size + 2, 0, none⟩ (.int .i64 0)).setCell ⟨w.heap.size + 3, 0, none⟩ (.int .i64 er)) ∧
          SInvX w .ret (pre ++ [⟨(tx, er), HX.out⟩]) ((((W.setCell ⟨w.heap.size, 0, none⟩ (.slice none 0 0)).setCell ⟨w.heap.size + 1, 0, none⟩ (.int .i64 0)).setCell ⟨w.heap.size + 2, 0, none⟩ (.int .i64 0)).setCell ⟨w.heap.size + 3, 0, none⟩ (.int .i64 er))) := by
        refine ⟨((((KeepsOthers.setCell _ _ _).trans (KeepsOthers.setCell _ _ _)).trans (KeepsOthers.setCell _ _ _)).trans (KeepsOthers.setCell _ _ _)).from _, ⟨rfl, pre, _, rfl, h0⟩, ?_, ?_, ?_, ?_, ?_⟩
        · exact (((b0.set _).other (by omega) _).other (by omega) _).other (by omega) _
        · exact (((b1.other (by omega) _).set _).other (by omega) _).other (by omega) _
        · exact (((b2.other (by omega) _).other (by omega) _).set _).other (by omega) _
        · have := (((b3.other (B' := w.heap.size) (by omega) (.slice none 0 0)).other (B' := w.heap.size + 1) (by omega) (.int .i64 0)).other (B' := w.heap.size + 2) (by omega) (.int .i64 0)).set (.int .i64 er)
          unfold lastE
          simpa using this
        · exact (((hbel.setCell (Nat.le_refl _) _).setCell (by simp only; omega) _).setCell (by simp only; omega) _).setCell (by simp only; omega) _
      clear b0 b1 b2 b3 b5 hq hbel hz
      gi_wp2
      exact HF.out
  case done =>
    rintro D ys W hD rfl ⟨⟨v1, v2, hq⟩, b0, b1, b2, b3, b5, hbel, hz⟩ hK
    have a0 := b0.cell
    have a1 := b1.cell
    have a2 := b2.cell
    have a3 := b3.cell
    have f0 := b0.frozen
    have f1 := b1.frozen
    have f2 := b2.frozen
    have f3 := b3.frozen
    obtain ⟨vA, vc, rfl⟩ := row_slice hq.o1
    obtain ⟨c0, c1, c2, -, -, -, -, -, -⟩ := rd_cells hq.row
    gi_wp2_with fail
    have HQQ := Lib.hid hq
    have HBB : Hid (Boxed W w.heap.size 25 (.slice none 0 0) ∧ Boxed W (w.heap.size + 1) 3 (.int .i64 0) ∧ Boxed W (w.heap.size + 2) 3 (.int .i64 0) ∧ Boxed W (w.heap.size + 3) 30 (.int .i64 0) ∧ Below w.heap.size w W ∧ W.heap[D]? = some (.deferred (some []))) := ⟨b0, b1, b2, b3, hbel, hK⟩
    clear hq b0 b1 b2 b3 b5 hbel hK
    gi_region
    have hK2 : ((((W.setCell ⟨w.heap.size, 0, none⟩ (.slice vA (scanR ys).recs.length vc)).setCell ⟨w.heap.size + 1, 0, none⟩ (.int .i64 ((scanR ys).occ : Int))).setCell ⟨w.heap.size + 2, 0, none⟩ (.int .i64 ((scanR ys).great : Int))).setCell ⟨w.heap.size + 3, 0, none⟩ (.int .i64 0)).drew.heap[D]? = some (.deferred (some [])) :=
      ((((KeepsOthers.setCell _ _ _).trans (KeepsOthers.setCell _ _ _)).trans (KeepsOthers.setCell _ _ _)).trans (KeepsOthers.setCell _ _ _)).same D _ HBB.out.2.2.2.2.2 rfl
    have e0 : Boxed ((((W.setCell ⟨w.heap.size, 0, none⟩ (.slice vA (scanR ys).recs.length vc)).setCell ⟨w.heap.size + 1, 0, none⟩ (.int .i64 ((scanR ys).occ : Int))).setCell ⟨w.heap.size + 2, 0, none⟩ (.int .i64 ((scanR ys).great : Int))).setCell ⟨w.heap.size + 3, 0, none⟩ (.int .i64 0)).drew w.heap.size 25 (.slice vA (scanR ys).recs.length vc) :=
      (((HBB.out.1.set _).other (by omega) _).other (by omega) _).other (by omega) _
    have e1 : Boxed ((((W.setCell ⟨w.heap.size, 0, none⟩ (.slice vA (scanR ys).recs.length vc)).setCell ⟨w.heap.size + 1, 0, none⟩ (.int .i64 ((scanR ys).occ : Int))).setCell ⟨w.heap.size + 2, 0, none⟩ (.int .i64 ((scanR ys).great : Int))).setCell ⟨w.heap.size + 3, 0, none⟩ (.int .i64 0)).drew (w.heap.size + 1) 3 (.int .i64 ((scanR ys).occ : Int)) :=
      (((HBB.out.2.1.other (B' := w.heap.size) (by omega) _).set _).other (by omega) _).other (by omega) _
    have e2 : Boxed ((((W.setCell ⟨w.heap.size, 0, none⟩ (.slice vA (scanR ys).recs.length vc)).setCell ⟨w.heap.size + 1, 0, none⟩ (.int .i64 ((scanR ys).occ : Int))).setCell ⟨w.heap.size + 2, 0, none⟩ (.int .i64 ((scanR ys).great : Int))).setCell ⟨w.heap.size + 3, 0, none⟩ (.int .i64 0)).drew (w.heap.size + 2) 3 (.int .i64 ((scanR ys).great : Int)) :=
      (((HBB.out.2.2.1.other (B' := w.heap.size) (by omega) _).other (B' := w.heap.size + 1) (by omega) _).set _).other (by omega) _
    have e3 : Boxed ((((W.setCell ⟨w.heap.size, 0, none⟩ (.slice vA (scanR ys).recs.length vc)).setCell ⟨w.heap.size + 1, 0, none⟩ (.int .i64 ((scanR ys).occ : Int))).setCell ⟨w.heap.size + 2, 0, none⟩ (.int .i64 ((scanR ys).great : Int))).setCell ⟨w.heap.size + 3, 0, none⟩ (.int .i64 0)).drew (w.heap.size + 3) 30 (.int .i64 0) :=
      (((HBB.out.2.2.2.1.other (B' := w.heap.size) (by omega) _).other (B' := w.heap.size + 1) (by omega) _).other (B' := w.heap.size + 2) (by omega) _).set _
    have hb2 : Below w.heap.size w ((((W.setCell ⟨w.heap.size, 0, none⟩ (.slice vA (scanR ys).recs.length vc)).setCell ⟨w.heap.size + 1, 0, none⟩ (.int .i64 ((scanR ys).occ : Int))).setCell ⟨w.heap.size + 2, 0, none⟩ (.int .i64 ((scanR ys).great : Int))).setCell ⟨w.heap.size + 3, 0, none⟩ (.int .i64 0)).drew :=
      ((((HBB.out.2.2.2.2.1.setCell (Nat.le_refl _) _).setCell (by simp only; omega) _).setCell (by simp only; omega) _).setCell (by simp only; omega) _).drew
    have ho2 : ((((W.setCell ⟨w.heap.size, 0, none⟩ (.slice vA (scanR ys).recs.length vc)).setCell ⟨w.heap.size + 1, 0, none⟩ (.int .i64 ((scanR ys).occ : Int))).setCell ⟨w.heap.size + 2, 0, none⟩ (.int .i64 ((scanR ys).great : Int))).setCell ⟨w.heap.size + 3, 0, none⟩ (.int .i64 0)).drew.ownsRow w.heap.size 9 1 (.slice vA (scanR ys).recs.length vc) (scanR ys).recs.length (strs (scanR ys).recs) := by
      refine row_keep HQQ.out.o1 fun k hk => ?_
      obtain ⟨cs, hc⟩ := row_ty HQQ.out.o1 hk
      have n0 := ty_ne hc HBB.out.1 (by decide)
      have n1 := ty_ne hc HBB.out.2.1 (by decide)
      have n2 := ty_ne hc HBB.out.2.2.1 (by decide)
      have n3 := ty_ne hc HBB.out.2.2.2.1 (by decide)
      show (World.setCell _ _ _).heap[k]? = _
      rw [Below.heap_setCell _ _ _ _ n3, Below.heap_setCell _ _ _ _ n2, Below.heap_setCell _ _ _ _ n1, Below.heap_setCell _ _ _ _ n0]
    generalize ((((W.setCell ⟨w.heap.size, 0, none⟩ (.slice vA (scanR ys).recs.length vc)).setCell ⟨w.heap.size + 1, 0, none⟩ (.int .i64 ((scanR ys).occ : Int))).setCell ⟨w.heap.size + 2, 0, none⟩ (.int .i64 ((scanR ys).great : Int))).setCell ⟨w.heap.size + 3, 0, none⟩ (.int .i64 0)).drew = W2 at hK2 e0 e1 e2 e3 hb2 ho2 ⊢
    have HP : Hid (Below w.heap.size w (W2.putObj D (.deferred none)) ∧ (W2.putObj D (.deferred none)).ownsRow w.heap.size 9 1 (.slice vA (scanR ys).recs.length vc) (scanR ys).recs.length (strs (scanR ys).recs)) :=
      ⟨hb2.trans (belowK_b (w := w) (Nat.le_refl _) W2 D _ _ (by omega) hK2 rfl rfl), ownsRow_putObj ho2 _ hK2 rfl⟩
    clear c0 c1 c2 a0 a1 a2 a3 f0 f1 f2 f3 HBB HQQ hb2 ho2
    have HZZ := Lib.hid hz
    clear hz
    gi_wp2
    exact fin14 w W2 D _ _ _ _ hK2 e0 e1 e2 e3 rfl rfl rfl rfl ⟨HP.out.1, .inl ⟨_, HZZ.out, rfl, HP.out.2⟩⟩
  case stop =>
    rintro D c pre W hD hpre ⟨⟨rfl, l, x, rfl, hx⟩, b0, b1, b2, b3, hbel⟩ hK
    have hLE : l ++ [x] = L := by
      obtain ⟨r, hr⟩ := hpre
      have hlen : l.length < L.length := by rw [← hr]; simp
      have hg : L[l.length] = x := by
        have : L[l.length]? = some x := by rw [← hr]; simp
        exact (List.getElem?_eq_some_iff.1 this).2
      have h3 := (HLL.out.at_ l.length hlen).2.2 (by rw [hg]; exact hx)
      have : r = [] := by
        have h := congrArg List.length hr
        simp at h
        exact List.eq_nil_of_length_eq_zero (by omega)
      rw [← hr, this, List.append_nil]
    have HF : Hid (Below w.heap.size w (W.putObj D (.deferred none)) ∧ ∃ x ∈ L, x.1.2 ≠ 0) := by
      refine ⟨hbel.trans (belowK_b (w := w) (Nat.le_refl _) W D _ _ (by omega) hK rfl rfl), x, ?_, hx⟩
      rw [← hLE]; simp
    rw [hLE] at b3
    gi_wp2
    exact fin14 w W D _ _ _ _ hK b0 b1 b2 b3 rfl rfl rfl rfl ⟨HF.out.1, .inr ⟨HF.out.2, rfl⟩⟩
end Go.Proofs.YtjanddnlhaionaaGreatDoor.L6
