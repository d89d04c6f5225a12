/-
  Contracts of sectors and Scan. No condition. Contracts of Scan and Open over a drum, and over none. No condition. Contracts of Open and of the tape's methods but Append. No condition. Contracts of parts and of the iterator that it returns. No condition. Contract of add. No condition. A region that draws its order within a round, walked by the plain laws. Condition: none of its operations defers.
-/
import Derived.Test.YtjanddnlhaionaaGreatDoorL6x3
import Derived.OrdersIn
import Derived.Deep.RegionHeld
set_option maxRecDepth 100000
namespace Go.Proofs.YtjanddnlhaionaaGreatDoor.L6
open Go.RowKit Go.Shelf
attribute [local go_sem] Oper.semAt_some

set_option maxHeartbeats 400000 in
theorem sectors40 (p : Option Addr) (w : World) :
    Calls Tryz.prog 168 #[.pointer p] w fun e w' => e = .returned (.func (.func 192) #[] #[.pointer (some ⟨w.heap.size, 0, none⟩)]) ∧ w' = w.alloc (.cells #[.pointer p] 59) := by
  go_enter Tryz.func168, Tryz.ntmps168
  go_wp2
  go_ret
  exact ⟨rfl, rfl⟩

def scanR (l : List Item) : Rd := scanL (l.map (·.1.1))
theorem scanR_snoc (l : List Item) (x : Item) : scanR (l ++ [x]) = visit (scanR l) x.1.1 := by
  unfold scanR scanL; rw [List.map_append, List.foldl_append]; rfl
theorem visit_ok (r : Rd) (t : ByteArray) (n : Nat) (h : r.recs.length ≤ n ∧ r.data.length ≤ 51 * n ∧ r.parts ≤ n ∧ r.vis = n) : (visit r t).recs.length ≤ n + 1 ∧ (visit r t).data.length ≤ 51 * (n + 1) ∧ (visit r t).parts ≤ n + 1 ∧ (visit r t).vis = n + 1 := by
  obtain ⟨h1, h2, h3, h4⟩ := h
  rw [visit_eq]
  split
  · refine ⟨?_, ?_, ?_, ?_⟩ <;> (simp only [rd2]; omega)
  · have hd := parseS_data t.data.toList
    unfold takeS
    split
    · simp only [rd2, List.length_append, List.length_singleton, List.length_nil]; omega
    · simp only [rd2, List.length_append]; omega
theorem scanL_ok (l : List ByteArray) : (scanL l).recs.length ≤ l.length ∧ (scanL l).data.length ≤ 51 * l.length ∧ (scanL l).parts ≤ l.length ∧ (scanL l).vis = l.length := by
  unfold scanL
  rw [show l = l.reverse.reverse by simp]
  generalize l.reverse = m
  induction m with
  | nil => simp [rd0]
  | cons a m ih =>
    rw [List.reverse_cons, List.foldl_append, List.length_append]
    exact visit_ok _ _ _ ih
theorem scanR_okRd (l : List Item) (h : l.length ≤ 10000) : OkRd (scanR l) := by
  have := scanL_ok (l.map (·.1.1))
  rw [List.length_map] at this
  unfold scanR
  exact ⟨by omega, by omega, by omega, by omega⟩

theorem qis_own (B r : Nat) (f : List Item → Rd) : Own (fun pre W => ∃ v1 v2, QIs W B r (f pre) v1 v2) := by
  rintro s X Y row ⟨v1, v2, h⟩ hg hr
  refine ⟨v1, v2, h.keep fun k hk => hg.block k (h.lt hk) (fun e => ?_)⟩
  obtain ⟨o, ho, hc⟩ := hr k e.symm
  obtain ⟨cs, t, hcs, -⟩ := h.cells hk
  rw [hcs] at ho
  cases ho
  cases hc

/-- Between two rounds of Scan. -/
def SInv (w : World) (p : Option Addr) (pre : List Item) (W : World) : Prop :=
  (∃ v1 v2, QIs W w.heap.size (w.heap.size + 4) (scanR pre) v1 v2) ∧ Boxed W w.heap.size 25 (.slice none 0 0) ∧ Boxed W (w.heap.size + 1) 3 (.int .i64 0) ∧ Boxed W (w.heap.size + 2) 3 (.int .i64 0) ∧ Boxed W (w.heap.size + 3) 30 (.int .i64 0) ∧ Boxed W (w.heap.size + 5) 59 (.pointer p) ∧ Below w.heap.size w W ∧ ∀ x ∈ pre, x.1.2 = 0
def lastE (l : List Item) : Int := match l.getLast? with | some x => x.1.2 | none => 0
def SInvX (w : World) (c : Code) (pre : List Item) (W : World) : Prop :=
  (c = .ret ∧ ∃ l x, pre = l ++ [x] ∧ x.1.2 ≠ 0) ∧ Boxed W w.heap.size 25 (.slice none 0 0) ∧ Boxed W (w.heap.size + 1) 3 (.int .i64 0) ∧ Boxed W (w.heap.size + 2) 3 (.int .i64 0) ∧ (Boxed W (w.heap.size + 3) 30 (.int .i64 (lastE pre))) ∧ Below w.heap.size w W
theorem sInv_own (w : World) (p : Option Addr) (lo : Nat) (h : w.heap.size ≤ lo) : OwnFrom lo (SInv w p) :=
  OwnFrom.and (Own.from (qis_own _ _ _) _) (OwnFrom.and (Own.from (boxed_own _ _ _) _) (OwnFrom.and (Own.from (boxed_own _ _ _) _) (OwnFrom.and (Own.from (boxed_own _ _ _) _) (OwnFrom.and (Own.from (boxed_own _ _ _) _) (OwnFrom.and (Own.from (boxed_own _ _ _) _) (OwnFrom.and (ownFrom_below (Nat.le_refl _) h) (ownFrom_pure _ _)))))))
theorem sInvX_own (w : World) (lo : Nat) (h : w.heap.size ≤ lo) (c : Code) : OwnFrom lo (SInvX w c) :=
  OwnFrom.and (ownFrom_pure _ _) (OwnFrom.and (Own.from (boxed_own _ _ _) _) (OwnFrom.and (Own.from (boxed_own _ _ _) _) (OwnFrom.and (Own.from (boxed_own _ _ _) _) (OwnFrom.and (Own.from (boxed_own _ _ _) _) (ownFrom_below (Nat.le_refl _) h)))))

/-- The end of Scan: the four results lie in their boxes. -/
theorem fin14 {P : Ending → World → Prop} (w W : World) (D : Nat) (v : Value) (q1 q2 q3 : Int) (hK : W.heap[D]? = some (.deferred (some []))) (b0 : Boxed W w.heap.size 25 v) (b1 : Boxed W (w.heap.size + 1) 3 (.int .i64 q1)) (b2 : Boxed W (w.heap.size + 2) 3 (.int .i64 q2)) (b3 : Boxed W (w.heap.size + 3) 30 (.int .i64 q3))
    {tmps : Array Value} (h2 : tmps[2]?.getD undef = .pointer (some ⟨w.heap.size, 0, none⟩)) (h3 : tmps[3]?.getD undef = .pointer (some ⟨w.heap.size + 1, 0, none⟩)) (h4 : tmps[4]?.getD undef = .pointer (some ⟨w.heap.size + 2, 0, none⟩)) (h5 : tmps[5]?.getD undef = .pointer (some ⟨w.heap.size + 3, 0, none⟩))
    (hP : P (.returned (.tuple #[v, .int .i64 q1, .int .i64 q2, .int .i64 q3])) (W.putObj D (.deferred none))) :
    bodyPostM Fence.wide 5 Tryz.prog Tryz.f128 P .ret { tmps := tmps, defers := [{ target := .collected D, args := #[] }] } W := by
  refine ⟨by simp, .inl ⟨_, _, rfl, run_takeDeferred hK, ?_⟩⟩
  have c0 := cell_kept b0.cell (grownBy_putObj' W D (.deferred none)) (fun r e => by cases e; exact ⟨_, hK, rfl⟩)
  have c1 := cell_kept b1.cell (grownBy_putObj' W D (.deferred none)) (fun r e => by cases e; exact ⟨_, hK, rfl⟩)
  have c2 := cell_kept b2.cell (grownBy_putObj' W D (.deferred none)) (fun r e => by cases e; exact ⟨_, hK, rfl⟩)
  have c3 := cell_kept b3.cell (grownBy_putObj' W D (.deferred none)) (fun r e => by cases e; exact ⟨_, hK, rfl⟩)
  refine ⟨.tuple #[_, .int .i64 q1, .int .i64 q2, .int .i64 q3], ?_, hP⟩
  simp [results, Tryz.results128, go_sem, h2, h3, h4, h5, c0, c1, c2, c3]

set_option maxHeartbeats 2000000 in
theorem scan14 (p : Option Addr) (Q : World → Prop) (rd : Nat → ByteArray × Int) (L : List Item) (hL : Gives rd L) (hLl : L.length ≤ 10000) (w : World)
    (HQb : ∀ W W', Q W → Below W.heap.size W W' → Q W') (HQt : ∀ W W', Q W → Turn (GB w.heap.size (w.heap.size + 5)) W W' → Q W')
    (HR : ∀ W, Q W → ∀ i : Nat, Calls Tryz.prog 193 #[.pointer p, .int .i64 (i : Int)] W fun e w' => e = .returned (.tuple #[.string (rd i).1, .int .i64 (rd i).2]) ∧ Below W.heap.size W w')
    (hQ : Q w) :
    Calls Tryz.prog 128 #[.pointer p] w fun e w' => Below w.heap.size w w' ∧
      ((∃ v, (∀ x ∈ L, x.1.2 = 0) ∧ e = .returned (.tuple #[v, .int .i64 ((scanR L).occ : Int), .int .i64 ((scanR L).great : Int), .int .i64 0]) ∧ w'.ownsRow w.heap.size 9 1 v (scanR L).recs.length (strs (scanR L).recs)) ∨
       ((∃ x ∈ L, x.1.2 ≠ 0) ∧ e = .returned (.tuple #[.slice none 0 0, .int .i64 0, .int .i64 0, .int .i64 (lastE L)]))) := by
  have HS := Lib.hid (sectors40 p)
  have HLL := Lib.hid hL
  have HQB := Lib.hid HQb
  have HQT := Lib.hid HQt
  have HRD := Lib.hid HR
  have HQ := Lib.hid hQ
  clear hL HQb HQt HR hQ
  refine (callsIn_wide (n := 5)).1 ?_
  refine callsIn_of_wp_marks Tryz.func128 rfl trivial ?_ rfl
  simp only [Tryz.ntmps128, List.size_toArray, List.length_cons, List.length_nil, Nat.reduceAdd, Nat.reduceSub, Array.replicate_succ, Array.replicate_zero, List.push_toArray, List.append_toArray, List.nil_append, List.cons_append]
  gi_wp2_with (refine ⟨trivial, ?_⟩; gi_at_call 168; refine (callsIn_wide.2 (HS.out _)).mono ?_; rintro e w' ⟨rfl, rfl⟩)
  simp only [Nat.add_assoc, Nat.reduceAdd]
  have bA := ((((((Boxed.new w 25 (.slice none 0 0)).alloc (.cells #[.int .i64 0] 3)).alloc (.cells #[.int .i64 0] 3)).alloc (.cells #[.int .i64 0] 30)).alloc (.cells #[.slice none 0 0, .int .i64 0, .int .i64 0, .int .i64 0, .bool false, .int .i64 0, .int .i64 0, .slice none 0 0] 248)).alloc (.cells #[.pointer p] 59))
  have bB := (((((Boxed.new (w.alloc (.cells #[.slice none 0 0] 25)) 3 (.int .i64 0)).alloc (.cells #[.int .i64 0] 3)).alloc (.cells #[.int .i64 0] 30)).alloc (.cells #[.slice none 0 0, .int .i64 0, .int .i64 0, .int .i64 0, .bool false, .int .i64 0, .int .i64 0, .slice none 0 0] 248)).alloc (.cells #[.pointer p] 59))
  have bC := ((((Boxed.new ((w.alloc (.cells #[.slice none 0 0] 25)).alloc (.cells #[.int .i64 0] 3)) 3 (.int .i64 0)).alloc (.cells #[.int .i64 0] 30)).alloc (.cells #[.slice none 0 0, .int .i64 0, .int .i64 0, .int .i64 0, .bool false, .int .i64 0, .int .i64 0, .slice none 0 0] 248)).alloc (.cells #[.pointer p] 59))
  have bD := (((Boxed.new (((w.alloc (.cells #[.slice none 0 0] 25)).alloc (.cells #[.int .i64 0] 3)).alloc (.cells #[.int .i64 0] 3)) 30 (.int .i64 0)).alloc (.cells #[.slice none 0 0, .int .i64 0, .int .i64 0, .int .i64 0, .bool false, .int .i64 0, .int .i64 0, .slice none 0 0] 248)).alloc (.cells #[.pointer p] 59))
  have bE := (Below.heap_alloc _ (.cells #[.pointer p] 59) _ (by simp)).trans (heap_alloc_new ((((w.alloc (.cells #[.slice none 0 0] 25)).alloc (.cells #[.int .i64 0] 3)).alloc (.cells #[.int .i64 0] 3)).alloc (.cells #[.int .i64 0] 30)) (.cells #[.slice none 0 0, .int .i64 0, .int .i64 0, .int .i64 0, .bool false, .int .i64 0, .int .i64 0, .slice none 0 0] 248))
  have bF := Boxed.new (((((w.alloc (.cells #[.slice none 0 0] 25)).alloc (.cells #[.int .i64 0] 3)).alloc (.cells #[.int .i64 0] 3)).alloc (.cells #[.int .i64 0] 30)).alloc (.cells #[.slice none 0 0, .int .i64 0, .int .i64 0, .int .i64 0, .bool false, .int .i64 0, .int .i64 0, .slice none 0 0] 248)) 59 (.pointer p)
  have hB0 : Below w.heap.size w ((((((w.alloc (.cells #[.slice none 0 0] 25)).alloc (.cells #[.int .i64 0] 3)).alloc (.cells #[.int .i64 0] 3)).alloc (.cells #[.int .i64 0] 30)).alloc (.cells #[.slice none 0 0, .int .i64 0, .int .i64 0, .int .i64 0, .bool false, .int .i64 0, .int .i64 0, .slice none 0 0] 248)).alloc (.cells #[.pointer p] 59)) :=
    ((((((Below.refl _ w).alloc (Nat.le_refl _) _).alloc (by simp) _).alloc (by simp; omega) _).alloc (by simp; omega) _).alloc (by simp; omega) _).alloc (by simp; omega) _
  have hsz : ((((((w.alloc (.cells #[.slice none 0 0] 25)).alloc (.cells #[.int .i64 0] 3)).alloc (.cells #[.int .i64 0] 3)).alloc (.cells #[.int .i64 0] 30)).alloc (.cells #[.slice none 0 0, .int .i64 0, .int .i64 0, .int .i64 0, .bool false, .int .i64 0, .int .i64 0, .slice none 0 0] 248)).alloc (.cells #[.pointer p] 59)).heap.size = w.heap.size + 6 := by simp
  simp only [World.size_alloc, Nat.add_assoc, Nat.reduceAdd] at bB bC bD bE bF
  generalize ((((((w.alloc (.cells #[.slice none 0 0] 25)).alloc (.cells #[.int .i64 0] 3)).alloc (.cells #[.int .i64 0] 3)).alloc (.cells #[.int .i64 0] 30)).alloc (.cells #[.slice none 0 0, .int .i64 0, .int .i64 0, .int .i64 0, .bool false, .int .i64 0, .int .i64 0, .slice none 0 0] 248)).alloc (.cells #[.pointer p] 59)) = W0 at bA bB bC bD bE bF hB0 hsz ⊢
  have hq0 : QIs W0 w.heap.size (w.heap.size + 4) (scanR []) (.slice none 0 0) (.slice none 0 0) := ⟨bE, World.ownsRow_nil _ _ _ _, World.ownsRow_nil _ _ _ _, by omega⟩
  have hn : w.heap.size ≤ W0.heap.size := by omega
  refine wpIn_rangeFunc_ownH rfl (by omega) (gf := 192) (lb := #[.pointer (some ⟨w.heap.size + 5, 0, none⟩)]) rfl trivial (enters_of Tryz.func192 (by kernel_rfl) rfl)
    (iter58 4 (by omega) w.heap.size (w.heap.size + 5) (.pointer p) Q rd L HLL.out (by omega) HQB.out HQT.out HRD.out W0 (HQB.out _ _ HQ.out hB0) bF.cell)
    (fun h k => h.trans k (fun i hi => .inl hi))
    (fun W l o o' hl ho hc _ => ⟨rfl, rfl, rfl, by simp [World.putObj], fun k _ hk => World.putObj_heap_other (fun e => hk ⟨by omega, by omega⟩)⟩)
    (Below.refl _ _) (fun _ => rfl)
    (SInv w p) (SInvX w) (sInv_own w p _ hn) (sInvX_own w _ hn)
    ⟨⟨_, _, hq0⟩, bA, bB, bC, bD, bF, hB0, fun x hx => by simp at hx⟩
    (fun x a' _ => a' = { tmps := #[.pointer p, undef, .pointer (some ⟨w.heap.size, 0, none⟩), .pointer (some ⟨w.heap.size + 1, 0, none⟩), .pointer (some ⟨w.heap.size + 2, 0, none⟩), .pointer (some ⟨w.heap.size + 3, 0, none⟩), .pointer (some ⟨w.heap.size + 4, 0, none⟩), .string x.1.1, .int .i64 x.1.2, .pointer p,
        .func (.func 192) #[] #[.pointer (some ⟨w.heap.size + 5, 0, none⟩)], .string x.1.1, .int .i64 x.1.2, undef, undef, undef, undef, undef, undef, undef, undef, undef, undef, undef], defers := [] })
    (fun _ _ _ _ _ _ hs _ _ => hs) ?assign ?body ?done ?stop
  case assign =>
    rintro lp pre x W K hi hK
    unfold encR
    have HR := Lib.hid (hK _ W (KeepsFrom.refl _ _) (Turn.refl _ _) hi rfl)
    clear hK hi
    gi_wp2
    exact HR.out
  case body =>
    rintro lp pre ⟨⟨tx, er⟩, hx64⟩ a' W hlp ⟨rr, hrr⟩ ⟨⟨v1, v2, hq⟩, b0, b1, b2, b3, b5, hbel, hz⟩ rfl hlt
    have HX := Lib.hid hx64
    simp only at hx64 HX ⊢
    by_cases h0 : er = 0
    · have e0 : (er != (0 : Int)) = false := by rw [h0]; rfl
      have hok := scanR_okRd pre (by omega)
      have hvis : (scanR pre).vis < 1000000 := by
        have := (scanL_ok (pre.map (·.1.1))).2.2.2
        rw [List.length_map] at this
        show (scanL _).vis < _
        omega
      have HV := Lib.hid (visit41 hq hok hvis hbel.size tx (hx64 h0))
      have hG : ∀ k, RF (w.heap.size + 4) v1 v2 k → GB w.heap.size (w.heap.size + 5) k := fun k hk => by
        obtain ⟨cs, t, hc, ht⟩ := hq.cells hk
        refine ⟨hq.ge hk, ty_ne hc b5 (by rcases ht with rfl | rfl | rfl <;> decide)⟩
      have hK : ∀ k cs t, RF (w.heap.size + 4) v1 v2 k → W.heap[k]? = some (.cells cs t (0, 0)) → (t = 248 ∨ t = 9 ∨ t = 5) := fun k cs t hk hc => by
        obtain ⟨cs', t', hc', ht⟩ := hq.cells hk
        rw [hc] at hc'
        cases hc'
        exact ht
      have hbx : ∀ (W' : World) (b : Nat) (t : TypeId) (v : Value), Turn (RF (w.heap.size + 4) v1 v2) W W' → Boxed W b t v → ¬ (t = 248 ∨ t = 9 ∨ t = 5) → Boxed W' b t v := fun W' b t v ht hb hn =>
        (ht.block b (Array.getElem?_eq_some_iff.1 hb).1 (fun hk => hn (hK b _ t hk hb))).trans hb
      have HNX : Hid (∀ W', (∃ u1 u2, QIs W' w.heap.size (w.heap.size + 4) (visit (scanR pre) tx) u1 u2 ∧ Turn (RF (w.heap.size + 4) v1 v2) W W' ∧ ∀ k, RF (w.heap.size + 4) u1 u2 k → RF (w.heap.size + 4) v1 v2 k ∨ W.heap.size ≤ k) →
          KeepsFrom W0.heap.size W W' ∧ Turn (GB w.heap.size (w.heap.size + 5)) W W' ∧ SInv w p (pre ++ [⟨(tx, er), HX.out⟩]) W') := by
        rintro W' ⟨u1, u2, hq', ht', -⟩
        refine ⟨⟨ht'.size, fun k o _ hk ho => (ht'.block k (Array.getElem?_eq_some_iff.1 hk).1 (fun hr => ?_)).trans hk⟩, ht'.mono hG, ⟨u1, u2, by rw [scanR_snoc]; exact hq'⟩, hbx _ _ _ _ ht' b0 (by decide), hbx _ _ _ _ ht' b1 (by decide), hbx _ _ _ _ ht' b2 (by decide), hbx _ _ _ _ ht' b3 (by decide), hbx _ _ _ _ ht' b5 (by decide), hbel.trans (ht'.below w.heap.size hbel.size (fun k hk => hq.ge hk)), fun x hx => ?_⟩
        · obtain ⟨cs, t, hc, -⟩ := hq.cells hr
          rw [hc] at hk
          cases hk
          cases ho
        · rcases List.mem_append.1 hx with hx | hx
          · exact hz x hx
          · have : x = ⟨(tx, er), HX.out⟩ := by simpa using hx
            rw [this]; exact h0
      clear hq b0 b1 b2 b3 b5 hbel hz hok hvis hG hK hbx
      gi_wp2_with fail
      refine ⟨trivial, (CallsIn.inRound lp (callsIn_wide.2 HV.out)).mono ?_⟩
      rintro ee w2 ⟨rfl, hv⟩
      have HF := Lib.hid (HNX.out _ hv)
      clear hv HNX HV
      gi_wp2
      exact HF.out
    · have e0 : (er != (0 : Int)) = true := by rw [bne, Bool.not_eq_true', beq_eq_false_iff_ne]; exact h0
      have a0 := b0.cell
      have a1 := b1.cell
      have a2 := b2.cell
      have a3 := b3.cell
      have f0 := b0.frozen
      have f1 := b1.frozen
      have f2 := b2.frozen
      have f3 := b3.frozen
      have HF : Hid (KeepsFrom W0.heap.size W ((((W.setCell ⟨w.heap.size, 0, none⟩ (.slice none 0 0)).setCell ⟨w.heap.size + 1, 0, none⟩ (.int .i64 0)).setCell ⟨w.heap.size + 2, 0, none⟩ (.int .i64 0)).setCell ⟨w.heap.size + 3, 0, none⟩ (.int .i64 er)) ∧
          SInvX w .ret (pre ++ [⟨(tx, er), HX.out⟩]) ((((W.setCell ⟨w.heap.size, 0, none⟩ (.slice none 0 0)).setCell ⟨w.heap.size + 1, 0, none⟩ (.int .i64 0)).setCell ⟨w.heap.size + 2, 0, none⟩ (.int .i64 0)).setCell ⟨w.heap.size + 3, 0, none⟩ (.int .i64 er))) := by
        refine ⟨((((KeepsOthers.setCell _ _ _).trans (KeepsOthers.setCell _ _ _)).trans (KeepsOthers.setCell _ _ _)).trans (KeepsOthers.setCell _ _ _)).from _, ⟨rfl, pre, _, rfl, h0⟩, ?_, ?_, ?_, ?_, ?_⟩
        · exact (((b0.set _).other (by omega) _).other (by omega) _).other (by omega) _
        · exact (((b1.other (by omega) _).set _).other (by omega) _).other (by omega) _
        · exact (((b2.other (by omega) _).other (by omega) _).set _).other (by omega) _
        · have := (((b3.other (B' := w.heap.size) (by omega) (.slice none 0 0)).other (B' := w.heap.size + 1) (by omega) (.int .i64 0)).other (B' := w.heap.size + 2) (by omega) (.int .i64 0)).set (.int .i64 er)
          unfold lastE
          simpa using this
        · exact (((hbel.setCell (Nat.le_refl _) _).setCell (by simp only; omega) _).setCell (by simp only; omega) _).setCell (by simp only; omega) _
      clear b0 b1 b2 b3 b5 hq hbel hz
      gi_wp2
      exact HF.out
  case done =>
    rintro D ys W hD rfl ⟨⟨v1, v2, hq⟩, b0, b1, b2, b3, b5, hbel, hz⟩ hK
    have a0 := b0.cell
    have a1 := b1.cell
    have a2 := b2.cell
    have a3 := b3.cell
    have f0 := b0.frozen
    have f1 := b1.frozen
    have f2 := b2.frozen
    have f3 := b3.frozen
    obtain ⟨vA, vc, rfl⟩ := row_slice hq.o1
    obtain ⟨c0, c1, c2, -, -, -, -, -, -⟩ := rd_cells hq.row
    gi_wp2_with fail
    have HQQ := Lib.hid hq
    have HBB : Hid (Boxed W w.heap.size 25 (.slice none 0 0) ∧ Boxed W (w.heap.size + 1) 3 (.int .i64 0) ∧ Boxed W (w.heap.size + 2) 3 (.int .i64 0) ∧ Boxed W (w.heap.size + 3) 30 (.int .i64 0) ∧ Below w.heap.size w W ∧ W.heap[D]? = some (.deferred (some []))) := ⟨b0, b1, b2, b3, hbel, hK⟩
    clear hq b0 b1 b2 b3 b5 hbel hK
    gi_region
    have hK2 : ((((W.setCell ⟨w.heap.size, 0, none⟩ (.slice vA (scanR ys).recs.length vc)).setCell ⟨w.heap.size + 1, 0, none⟩ (.int .i64 ((scanR ys).occ : Int))).setCell ⟨w.heap.size + 2, 0, none⟩ (.int .i64 ((scanR ys).great : Int))).setCell ⟨w.heap.size + 3, 0, none⟩ (.int .i64 0)).drew.heap[D]? = some (.deferred (some [])) :=
      ((((KeepsOthers.setCell _ _ _).trans (KeepsOthers.setCell _ _ _)).trans (KeepsOthers.setCell _ _ _)).trans (KeepsOthers.setCell _ _ _)).same D _ HBB.out.2.2.2.2.2 rfl
    have e0 : Boxed ((((W.setCell ⟨w.heap.size, 0, none⟩ (.slice vA (scanR ys).recs.length vc)).setCell ⟨w.heap.size + 1, 0, none⟩ (.int .i64 ((scanR ys).occ : Int))).setCell ⟨w.heap.size + 2, 0, none⟩ (.int .i64 ((scanR ys).great : Int))).setCell ⟨w.heap.size + 3, 0, none⟩ (.int .i64 0)).drew w.heap.size 25 (.slice vA (scanR ys).recs.length vc) :=
      (((HBB.out.1.set _).other (by omega) _).other (by omega) _).other (by omega) _
    have e1 : Boxed ((((W.setCell ⟨w.heap.size, 0, none⟩ (.slice vA (scanR ys).recs.length vc)).setCell ⟨w.heap.size + 1, 0, none⟩ (.int .i64 ((scanR ys).occ : Int))).setCell ⟨w.heap.size + 2, 0, none⟩ (.int .i64 ((scanR ys).great : Int))).setCell ⟨w.heap.size + 3, 0, none⟩ (.int .i64 0)).drew (w.heap.size + 1) 3 (.int .i64 ((scanR ys).occ : Int)) :=
      (((HBB.out.2.1.other (B' := w.heap.size) (by omega) _).set _).other (by omega) _).other (by omega) _
    have e2 : Boxed ((((W.setCell ⟨w.heap.size, 0, none⟩ (.slice vA (scanR ys).recs.length vc)).setCell ⟨w.heap.size + 1, 0, none⟩ (.int .i64 ((scanR ys).occ : Int))).setCell ⟨w.heap.size + 2, 0, none⟩ (.int .i64 ((scanR ys).great : Int))).setCell ⟨w.heap.size + 3, 0, none⟩ (.int .i64 0)).drew (w.heap.size + 2) 3 (.int .i64 ((scanR ys).great : Int)) :=
      (((HBB.out.2.2.1.other (B' := w.heap.size) (by omega) _).other (B' := w.heap.size + 1) (by omega) _).set _).other (by omega) _
    have e3 : Boxed ((((W.setCell ⟨w.heap.size, 0, none⟩ (.slice vA (scanR ys).recs.length vc)).setCell ⟨w.heap.size + 1, 0, none⟩ (.int .i64 ((scanR ys).occ : Int))).setCell ⟨w.heap.size + 2, 0, none⟩ (.int .i64 ((scanR ys).great : Int))).setCell ⟨w.heap.size + 3, 0, none⟩ (.int .i64 0)).drew (w.heap.size + 3) 30 (.int .i64 0) :=
      (((HBB.out.2.2.2.1.other (B' := w.heap.size) (by omega) _).other (B' := w.heap.size + 1) (by omega) _).other (B' := w.heap.size + 2) (by omega) _).set _
    have hb2 : Below w.heap.size w ((((W.setCell ⟨w.heap.size, 0, none⟩ (.slice vA (scanR ys).recs.length vc)).setCell ⟨w.heap.size + 1, 0, none⟩ (.int .i64 ((scanR ys).occ : Int))).setCell ⟨w.heap.size + 2, 0, none⟩ (.int .i64 ((scanR ys).great : Int))).setCell ⟨w.heap.size + 3, 0, none⟩ (.int .i64 0)).drew :=
      ((((HBB.out.2.2.2.2.1.setCell (Nat.le_refl _) _).setCell (by simp only; omega) _).setCell (by simp only; omega) _).setCell (by simp only; omega) _).drew
    have ho2 : ((((W.setCell ⟨w.heap.size, 0, none⟩ (.slice vA (scanR ys).recs.length vc)).setCell ⟨w.heap.size + 1, 0, none⟩ (.int .i64 ((scanR ys).occ : Int))).setCell ⟨w.heap.size + 2, 0, none⟩ (.int .i64 ((scanR ys).great : Int))).setCell ⟨w.heap.size + 3, 0, none⟩ (.int .i64 0)).drew.ownsRow w.heap.size 9 1 (.slice vA (scanR ys).recs.length vc) (scanR ys).recs.length (strs (scanR ys).recs) := by
      refine row_keep HQQ.out.o1 fun k hk => ?_
      obtain ⟨cs, hc⟩ := row_ty HQQ.out.o1 hk
      have n0 := ty_ne hc HBB.out.1 (by decide)
      have n1 := ty_ne hc HBB.out.2.1 (by decide)
      have n2 := ty_ne hc HBB.out.2.2.1 (by decide)
      have n3 := ty_ne hc HBB.out.2.2.2.1 (by decide)
      show (World.setCell _ _ _).heap[k]? = _
      rw [Below.heap_setCell _ _ _ _ n3, Below.heap_setCell _ _ _ _ n2, Below.heap_setCell _ _ _ _ n1, Below.heap_setCell _ _ _ _ n0]
    generalize ((((W.setCell ⟨w.heap.size, 0, none⟩ (.slice vA (scanR ys).recs.length vc)).setCell ⟨w.heap.size + 1, 0, none⟩ (.int .i64 ((scanR ys).occ : Int))).setCell ⟨w.heap.size + 2, 0, none⟩ (.int .i64 ((scanR ys).great : Int))).setCell ⟨w.heap.size + 3, 0, none⟩ (.int .i64 0)).drew = W2 at hK2 e0 e1 e2 e3 hb2 ho2 ⊢
    have HP : Hid (Below w.heap.size w (W2.putObj D (.deferred none)) ∧ (W2.putObj D (.deferred none)).ownsRow w.heap.size 9 1 (.slice vA (scanR ys).recs.length vc) (scanR ys).recs.length (strs (scanR ys).recs)) :=
      ⟨hb2.trans (belowK_b (w := w) (Nat.le_refl _) W2 D _ _ (by omega) hK2 rfl rfl), ownsRow_putObj ho2 _ hK2 rfl⟩
    clear c0 c1 c2 a0 a1 a2 a3 f0 f1 f2 f3 HBB HQQ hb2 ho2
    have HZZ := Lib.hid hz
    clear hz
    gi_wp2
    exact fin14 w W2 D _ _ _ _ hK2 e0 e1 e2 e3 rfl rfl rfl rfl ⟨HP.out.1, .inl ⟨_, HZZ.out, rfl, HP.out.2⟩⟩
  case stop =>
    rintro D c pre W hD hpre ⟨⟨rfl, l, x, rfl, hx⟩, b0, b1, b2, b3, hbel⟩ hK
    have hLE : l ++ [x] = L := by
      obtain ⟨r, hr⟩ := hpre
      have hlen : l.length < L.length := by rw [← hr]; simp
      have hg : L[l.length] = x := by
        have : L[l.length]? = some x := by rw [← hr]; simp
        exact (List.getElem?_eq_some_iff.1 this).2
      have h3 := (HLL.out.at_ l.length hlen).2.2 (by rw [hg]; exact hx)
      have : r = [] := by
        have h := congrArg List.length hr
        simp at h
        exact List.eq_nil_of_length_eq_zero (by omega)
      rw [← hr, this, List.append_nil]
    have HF : Hid (Below w.heap.size w (W.putObj D (.deferred none)) ∧ ∃ x ∈ L, x.1.2 ≠ 0) := by
      refine ⟨hbel.trans (belowK_b (w := w) (Nat.le_refl _) W D _ _ (by omega) hK rfl rfl), x, ?_, hx⟩
      rw [← hLE]; simp
    rw [hLE] at b3
    gi_wp2
    exact fin14 w W D _ _ _ _ hK b0 b1 b2 b3 rfl rfl rfl rfl ⟨HF.out.1, .inr ⟨HF.out.2, rfl⟩⟩
end Go.Proofs.YtjanddnlhaionaaGreatDoor.L6
namespace Go.Proofs.YtjanddnlhaionaaGreatDoor.L6
open Go.RowKit Go.Shelf

theorem sh_size {d : D} (h : Ok d) {i : Nat} (hi : i < d.S.length) : (sh d i d.W.length).size = 64 := sh_64 h hi _ (Nat.le_refl _)
def itemsG : List Item := [⟨(ByteArray.empty, 9), fun h => by simp at h⟩]
def itemsD (d : D) (h : Ok d) : List Item := (List.finRange d.S.length).map fun i => ⟨(sh d i.1 d.W.length, 0), fun _ => sh_size h i.2⟩
theorem itemsD_len (d : D) (h : Ok d) : (itemsD d h).length = d.S.length := by simp [itemsD]
theorem itemsD_scan (d : D) (h : Ok d) : scanR (itemsD d h) = scanD d := by
  unfold scanR scanD itemsD shown
  rw [List.map_map]
  congr 1
  refine List.ext_getElem (by simp) fun i h1 h2 => ?_
  simp
theorem gives_gone (d : D) (hg : d.gone = true) : Gives (fun i => (readS d i, readE d i)) itemsG := by
  refine ⟨fun i h => ?_, fun h => ?_⟩
  · have h0 : i = 0 := by simp [itemsG] at h; exact h
    subst h0
    refine ⟨?_, by simp [itemsG], fun _ => by simp [itemsG]⟩
    simp [itemsG, readS, readE, hg]
  · have := h _ (List.mem_cons_self)
    simp at this
theorem gives_live (d : D) (h : Ok d) (hg : d.gone = false) : Gives (fun i => (readS d i, readE d i)) (itemsD d h) := by
  refine ⟨fun i hi => ?_, fun _ => ?_⟩
  · rw [itemsD_len] at hi
    have hb : hasB d (i : Int) = true := by rw [hasB_iff]; omega
    refine ⟨?_, by simp [itemsD], fun hne => absurd (by simp [itemsD]) hne⟩
    simp [itemsD, readS, readE, hg, hb]
  · rw [itemsD_len]
    have hb : hasB d (d.S.length : Int) = false := by
      cases hq : hasB d (d.S.length : Int) with
      | false => rfl
      | true => rw [hasB_iff] at hq; omega
    simp [readE, hg, hb]

theorem scanP {F : Nat → Prop} {b : Nat} {d : D} {w : World} (h : PAt w F b d) (hw : d.W.length ≤ 1000000) :
    Calls Tryz.prog 128 #[.pointer (some ⟨b, 0, none⟩)] w fun e w' => Below w.heap.size w w' ∧
      if d.gone then e = .returned (.tuple #[.slice none 0 0, .int .i64 0, .int .i64 0, .int .i64 9])
      else ∃ v, e = .returned (.tuple #[v, .int .i64 ((scanD d).occ : Int), .int .i64 ((scanD d).great : Int), .int .i64 0]) ∧ w'.ownsRow w.heap.size 9 1 v (scanD d).recs.length (strs (scanD d).recs) := by
  have hQt : ∀ W W', PAt W F b d → Turn (GB w.heap.size (w.heap.size + 5)) W W' → PAt W' F b d := fun W W' hp ht => hp.keep ht (fun k hk hg => by have := h.lt k hk; have := hg.1; omega)
  have hn2 := h.ok.n2
  have hR : ∀ W, PAt W F b d → ∀ i : Nat, Calls Tryz.prog 193 #[.pointer (some ⟨b, 0, none⟩), .int .i64 (i : Int)] W fun e w' => e = .returned (.tuple #[.string (readS d (i : Int)), .int .i64 (readE d (i : Int))]) ∧ Below W.heap.size W w' := fun W hp i => read22 hp i hw
  cases hg : d.gone with
  | true =>
    refine (scan14 (some ⟨b, 0, none⟩) (fun W => PAt W F b d) (fun i : Nat => (readS d i, readE d i)) itemsG (gives_gone d hg) (by simp [itemsG]) w (fun W W' hp hb => hp.below hb) hQt hR h).mono ?_
    rintro e w' ⟨hb, ⟨v, hz, -⟩ | ⟨-, he⟩⟩
    · have := hz _ (List.mem_cons_self)
      simp at this
    · refine ⟨hb, ?_⟩
      rw [if_pos rfl, he]
      rfl
  | false =>
    refine (scan14 (some ⟨b, 0, none⟩) (fun W => PAt W F b d) (fun i : Nat => (readS d i, readE d i)) (itemsD d h.ok) (gives_live d h.ok hg) (by rw [itemsD_len]; omega) w (fun W W' hp hb => hp.below hb) hQt hR h).mono ?_
    rintro e w' ⟨hb, ⟨v, -, he, ho⟩ | ⟨⟨x, hx, hne⟩, -⟩⟩
    · refine ⟨hb, ?_⟩
      rw [if_neg (by simp)]
      rw [itemsD_scan] at he ho
      exact ⟨v, he, ho⟩
    · exfalso
      unfold itemsD at hx
      rw [List.mem_map] at hx
      obtain ⟨i, -, rfl⟩ := hx
      exact hne rfl

theorem exNil (w : World) : Calls Tryz.prog 80 #[.pointer none] w fun e w' => e = .returned (.bool false) ∧ w = w' := by
  go_enter Tryz.func80, Tryz.ntmps80
  go_wp2
  go_ret
  exact ⟨rfl, rfl⟩
set_option maxHeartbeats 400000 in
theorem readNil (i : Int) (w : World) :
    Calls Tryz.prog 193 #[.pointer none, .int .i64 i] w fun e w' => e = .returned (.tuple #[.string ByteArray.empty, .int .i64 1]) ∧ Below w.heap.size w w' := by
  have HE := Lib.hid (exNil w)
  go_enter Tryz.func193, Tryz.ntmps193
  go_wp2_with (go_at_call 80; refine HE.out.mono ?_; rintro e w' ⟨rfl, rfl⟩)
  go_ret2
  exact ⟨rfl, Below.refl _ _⟩
theorem scanNil (w : World) :
    Calls Tryz.prog 128 #[.pointer none] w fun e w' => Below w.heap.size w w' ∧ e = .returned (.tuple #[.slice none 0 0, .int .i64 0, .int .i64 0, .int .i64 1]) := by
  refine (scan14 none (fun _ => True) (fun _ => (ByteArray.empty, 1)) [⟨(ByteArray.empty, 1), fun h => by simp at h⟩] ⟨fun i h => ?_, fun h => ?_⟩ (by simp) w (fun _ _ _ _ => trivial) (fun _ _ _ _ => trivial) (fun W _ i => readNil i W) trivial).mono ?_
  · have h0 : i = 0 := by simp at h; exact h
    subst h0
    exact ⟨rfl, by simp, fun _ => rfl⟩
  · have := h _ (List.mem_cons_self)
    simp at this
  · rintro e w' ⟨hb, ⟨v, hz, -⟩ | ⟨-, he⟩⟩
    · have := hz _ (List.mem_cons_self)
      simp at this
    · exact ⟨hb, he⟩

/-! ### The tape in memory -/
def logRow (b : Nat) (t : T) : Array Value := #[.pointer (some ⟨b, 0, none⟩), .int .i64 (t.life : Int), .int .i64 (t.count : Int), .int .i64 (t.pos : Int), .int .i64 t.err]
structure LogAt (w : World) (bt bl b : Nat) (t : T) : Prop where
  rt : w.heap[bt]? = some (.cells #[.pointer (some ⟨bl, 0, none⟩)] 203 (0, 0))
  rl : w.heap[bl]? = some (.cells (logRow b t) 201 (0, 0))
theorem great_lt (l : List ByteArray) : (scanL l).great < 4294967296 := by
  unfold scanL
  rw [show l = l.reverse.reverse by simp]
  generalize l.reverse = m
  induction m with
  | nil => simp [rd0]
  | cons a m ih =>
    rw [List.reverse_cons, List.foldl_append]
    show (visit _ a).great < _
    rw [visit_eq]
    have hp : (parseS a.data.toList).life < 4294967296 := by
      unfold parseS says
      have h4 : num (a.data.toList.take 4) < 4294967296 := by
        refine Nat.lt_of_lt_of_le (num_lt _) ?_
        exact Nat.pow_le_pow_right (n := 256) (by omega) (show (a.data.toList.take 4).length ≤ 4 by rw [List.length_take]; omega)
      by_cases hb : badSize a.data.toList = true
      · simp [hb, zeroS]
      · by_cases hv : isValid a.data.toList = true
        · simp only [hb, hv, if_true, Bool.false_eq_true, if_false, Option.getD_some, secOf]
          exact h4
        · simp [hb, hv, zeroS]
    split
    · simp only [rd2]; omega
    · unfold takeS
      split <;> (simp only [rd2]; omega)
theorem occ_le (l : List ByteArray) : (scanL l).occ ≤ l.length := by
  have hv : ∀ l, (scanL l).vis = l.length := fun l => (scanL_ok l).2.2.2
  unfold scanL at hv ⊢
  rw [show l = l.reverse.reverse by simp]
  generalize l.reverse = m
  induction m with
  | nil => simp [rd0]
  | cons a m ih =>
    have hv' := hv m.reverse
    rw [List.reverse_cons, List.foldl_append, List.length_append]
    show (visit _ a).occ ≤ _
    rw [visit_eq]
    split
    · simp only [rd2]; omega
    · unfold takeS
      split
      · simp only [rd2, List.length_singleton]; omega
      · simp only [rd2]; omega
end Go.Proofs.YtjanddnlhaionaaGreatDoor.L6
namespace Go.Proofs.YtjanddnlhaionaaGreatDoor.L6
open Go.RowKit Go.Shelf

theorem LogAt.keep {w w' : World} {bt bl b : Nat} {t : T} (h : LogAt w bt bl b t) (h1 : w'.heap[bt]? = w.heap[bt]?) (h2 : w'.heap[bl]? = w.heap[bl]?) : LogAt w' bt bl b t := ⟨by rw [h1]; exact h.rt, by rw [h2]; exact h.rl⟩
theorem LogAt.lt {w : World} {bt bl b : Nat} {t : T} (h : LogAt w bt bl b t) : bt < w.heap.size ∧ bl < w.heap.size := ⟨(Array.getElem?_eq_some_iff.1 h.rt).1, (Array.getElem?_eq_some_iff.1 h.rl).1⟩
theorem LogAt.below {w w' : World} {bt bl b : Nat} {t : T} (h : LogAt w bt bl b t) (hb : Below w.heap.size w w') : LogAt w' bt bl b t := h.keep (hb.block _ h.lt.1) (hb.block _ h.lt.2)
theorem LogAt.turn {w w' : World} {F : Nat → Prop} {bt bl b : Nat} {t : T} (h : LogAt w bt bl b t) (ht : Turn F w w') (h1 : ¬ F bt) (h2 : ¬ F bl) : LogAt w' bt bl b t := h.keep (ht.block _ h.lt.1 h1) (ht.block _ h.lt.2 h2)
theorem LogAt.c {w : World} {bt bl b : Nat} {t : T} (h : LogAt w bt bl b t) : w.cell? ⟨bt, 0, none⟩ = some (.pointer (some ⟨bl, 0, none⟩)) ∧ w.cell? ⟨bl, 0, none⟩ = some (.pointer (some ⟨b, 0, none⟩)) ∧ w.cell? ⟨bl, 1, none⟩ = some (.int .i64 (t.life : Int)) ∧ w.cell? ⟨bl, 2, none⟩ = some (.int .i64 (t.count : Int)) ∧ w.cell? ⟨bl, 3, none⟩ = some (.int .i64 (t.pos : Int)) ∧ w.cell? ⟨bl, 4, none⟩ = some (.int .i64 t.err) ∧ (∀ j, w.frozen? ⟨bl, j, none⟩ = false) :=
  ⟨cell_row h.rt rfl, cell_row h.rl rfl, cell_row h.rl rfl, cell_row h.rl rfl, cell_row h.rl rfl, cell_row h.rl rfl, fun j => frozen_of_row w bl j _ _ h.rl⟩
theorem LogAt.ne {w : World} {bt bl b : Nat} {t : T} (h : LogAt w bt bl b t) : bt ≠ bl := ty_ne h.rt h.rl (by decide)
theorem LogAt.set {w : World} {bt bl b : Nat} {t t' : T} (h : LogAt w bt bl b t) (j : Nat) (u : Value) (hu : (logRow b t).setIfInBounds j u = logRow b t') : LogAt (w.setCell ⟨bl, j, none⟩ u) bt bl b t' :=
  ⟨by rw [Below.heap_setCell _ _ _ _ h.ne]; exact h.rt, by rw [setCell_eq_setRow w bl j _ _ _ u h.rl, hu]; exact setRow_heap w bl _ _ _ _ h.rl⟩

theorem exists43 {w : World} {bt bl b : Nat} {t : T} (h : LogAt w bt bl b t) : Calls Tryz.prog 134 #[.pointer (some ⟨bt, 0, none⟩)] w fun e w' => e = .returned (.bool true) ∧ w = w' := by
  have c := h.c.1
  clear h
  go_enter Tryz.func134, Tryz.ntmps134
  go_wp2
  go_ret
  exact ⟨rfl, rfl⟩
def TNot (p : Value) (w : World) : Prop := Calls Tryz.prog 134 #[p] w fun e w' => e = .returned (.bool false) ∧ w = w'
theorem tNot_nil (w : World) : TNot (.pointer none) w := by
  unfold TNot
  go_enter Tryz.func134, Tryz.ntmps134
  go_wp2
  go_ret
  exact ⟨rfl, rfl⟩
theorem tNot_zero (w : World) (b : Nat) (h : w.cell? ⟨b, 0, none⟩ = some (.pointer none)) : TNot (.pointer (some ⟨b, 0, none⟩)) w := by
  unfold TNot
  go_enter Tryz.func134, Tryz.ntmps134
  go_wp2
  go_ret
  exact ⟨rfl, rfl⟩
theorem len25 {w : World} {bt bl b : Nat} {t : T} (h : LogAt w bt bl b t) : Calls Tryz.prog 85 #[.pointer (some ⟨bt, 0, none⟩)] w fun e w' => e = .returned (.int .i64 (t.count : Int)) ∧ w = w' := by
  have HE := Lib.hid (exists43 h)
  obtain ⟨c0, -, c1, c2, c3, c4, -⟩ := h.c
  clear h
  go_enter Tryz.func85, Tryz.ntmps85
  go_wp2_with (go_at_call 134; refine HE.out.mono ?_; rintro e w' ⟨rfl, rfl⟩)
  go_ret
  exact ⟨rfl, rfl⟩
theorem len25_no {p : Value} {w : World} (h : TNot p w) : Calls Tryz.prog 85 #[p] w fun e w' => e = .returned (.int .i64 0) ∧ w = w' := by
  have HE := Lib.hid h
  clear h
  go_enter Tryz.func85, Tryz.ntmps85
  go_wp2_with (go_at_call 134; refine HE.out.mono ?_; rintro e w' ⟨rfl, rfl⟩)
  go_ret
  exact ⟨rfl, rfl⟩
theorem room27_no {p : Value} {w : World} (h : TNot p w) : Calls Tryz.prog 84 #[p] w fun e w' => e = .returned (.int .i64 0) ∧ w = w' := by
  have HE := Lib.hid h
  clear h
  go_enter Tryz.func84, Tryz.ntmps84
  go_wp2_with (go_at_call 134; refine HE.out.mono ?_; rintro e w' ⟨rfl, rfl⟩)
  go_ret
  exact ⟨rfl, rfl⟩
theorem settle20_no {p : Value} {w : World} (h : TNot p w) : Calls Tryz.prog 133 #[p] w fun e w' => e = .returned (.int .i64 1) ∧ w = w' := by
  have HE := Lib.hid h
  clear h
  go_enter Tryz.func133, Tryz.ntmps133
  go_wp2_with (go_at_call 134; refine HE.out.mono ?_; rintro e w' ⟨rfl, rfl⟩)
  go_ret
  exact ⟨rfl, rfl⟩
theorem append26_no {p : Value} {w : World} (h : TNot p w) (s : ByteArray) : Calls Tryz.prog 132 #[p, .string s] w fun e w' => e = .returned (.int .i64 1) ∧ w = w' := by
  have HE := Lib.hid h
  clear h
  go_enter Tryz.func132, Tryz.ntmps132
  go_wp2_with (go_at_call 134; refine HE.out.mono ?_; rintro e w' ⟨rfl, rfl⟩)
  go_ret
  exact ⟨rfl, rfl⟩

structure OkT (d : D) (t : T) : Prop where
  c : t.count ≤ 1000000
  l : t.life ≤ 4294967295
  l0 : 0 < t.life
  p : t.pos ≤ d.S.length
theorem room49 {w : World} {F : Nat → Prop} {bt bl b : Nat} {t : T} {d : D} (h : LogAt w bt bl b t) (hp : PAt w F b d) (hok : OkT d t) : Calls Tryz.prog 135 #[.pointer (some ⟨bl, 0, none⟩)] w fun e w' => e = .returned (.int .i64 ((d.S.length - t.pos : Nat) : Int)) ∧ ∃ n, w' = w.drewN n := by
  obtain ⟨c0, cb, c1, c2, c3, c4, -⟩ := h.c
  have hn2 := hp.ok.n2
  have hpos := hok.p
  have HSZ := Lib.hid fun n => size25 (w := w.drewN n) (hp.below (below_drewN (Below.refl _ _) n))
  have hw : IntKind.i64.wrap ((d.S.length : Int) - (t.pos : Int)) = ((d.S.length - t.pos : Nat) : Int) := by rw [IntKind.wrap_i64]; omega
  clear h hp hok
  generalize d.S.length = n at *
  generalize (n - t.pos : Nat) = m at *
  go_enter Tryz.func135, Tryz.ntmps135
  go_wp2_with fail
  go_quiet ((go_at_call 172; exact quietS (HSZ.out _)))
  go_wp2
  go_ret
  exact ⟨by rw [← hw]; rfl, _, rfl⟩
theorem room27 {w : World} {F : Nat → Prop} {bt bl b : Nat} {t : T} {d : D} (h : LogAt w bt bl b t) (hp : PAt w F b d) (hok : OkT d t) : Calls Tryz.prog 84 #[.pointer (some ⟨bt, 0, none⟩)] w fun e w' => e = .returned (.int .i64 ((d.S.length - t.pos : Nat) : Int)) ∧ ∃ n, w' = w.drewN n := by
  have HE := Lib.hid (exists43 h)
  have HR := Lib.hid (room49 h hp hok)
  obtain ⟨c0, cb, c1, c2, c3, c4, -⟩ := h.c
  clear h hp hok
  generalize (d.S.length - t.pos : Nat) = m at *
  go_enter Tryz.func84, Tryz.ntmps84
  go_wp2_with (first | (go_at_call 134; refine HE.out.mono ?_; rintro e w' ⟨rfl, rfl⟩) | (go_at_call 135; refine HR.out.mono ?_; rintro e w' ⟨rfl, n, rfl⟩))
  go_ret
  exact ⟨rfl, _, rfl⟩

/-- A drum and a tape over it. -/
structure TAt (w : World) (F : Nat → Prop) (bt bl b : Nat) (d : D) (t : T) : Prop where
  l : LogAt w bt bl b t
  p : PAt w F b d
  ok : OkT d t
  n1 : ¬ F bt
  n2 : ¬ F bl
theorem settle_len' (d : D) : (settleD d).S.length = d.S.length := settle_len d
/-- What settling a tape may turn. -/
def FL (F : Nat → Prop) (bl k : Nat) : Prop := F k ∨ k = bl
theorem flush44 {w : World} {F : Nat → Prop} {bt bl b : Nat} {t : T} {d : D} (h : TAt w F bt bl b d t) (hw : d.W.length ≤ 1000000) :
    Calls Tryz.prog 171 #[.pointer (some ⟨bl, 0, none⟩)] w fun e w' => e = .returned (.int .i64 (flushE t d)) ∧ TAt w' F bt bl b (flushD t d) (flushT t d) ∧ Turn (FL F bl) w w' := by
  obtain ⟨-, cb, -, -, -, c4, cf⟩ := h.l.c
  have hcf := cf 4
  have HH := Lib.hid h
  have HS := Lib.hid (settle21 h.p hw)
  clear h cf
  obtain ⟨er, her⟩ : ∃ er, t.err = er := ⟨_, rfl⟩
  have HER := Lib.hid her
  rw [her] at c4
  by_cases h0 : er = 0
  · have e0 : (er == (0 : Int)) = true := by rw [h0]; rfl
    have HF : Hid (flushE t d = settleE d ∧ flushD t d = settleD d) := by unfold Hid flushE flushD; rw [HER.out, if_pos h0, if_pos h0]; exact ⟨rfl, rfl⟩
    rw [HF.out.1, HF.out.2]
    have HFT : Hid (flushT t d = { t with err := settleE d }) := by unfold Hid flushT; rw [HF.out.1]
    rw [HFT.out]
    clear her
    go_enter Tryz.func171, Tryz.ntmps171
    go_wp2_with fail
    refine HS.out.mono ?_
    rintro e w2 ⟨rfl, hp2, ht2⟩
    have hl2 := HH.out.l.turn ht2 HH.out.n1 HH.out.n2
    obtain ⟨-, -, -, -, -, d4, df⟩ := hl2.c
    have hdf := df 4
    have HL3 := Lib.hid (hl2.set (t' := { t with err := settleE d }) 4 (.int .i64 (settleE d)) rfl)
    have HP3 : Hid (PAt (w2.setCell ⟨bl, 4, none⟩ (.int .i64 (settleE d))) F b (settleD d) ∧ Turn (FL F bl) w (w2.setCell ⟨bl, 4, none⟩ (.int .i64 (settleE d)))) := by
      refine ⟨hp2.keep (G := fun k => k = bl) ((Turn.refl _ _).setCell _ _ (.inl rfl)) (fun k hk e => HH.out.n2 (e ▸ hk)), ((ht2.mono (fun i hi => .inl hi)).setCell _ _ (.inl (.inr rfl)))⟩
    clear hl2 df ht2 hp2
    go_wp2
    go_ret
    refine ⟨rfl, ⟨HL3.out, HP3.out.1, ⟨HH.out.ok.c, HH.out.ok.l, HH.out.ok.l0, by rw [settle_len]; exact HH.out.ok.p⟩, HH.out.n1, HH.out.n2⟩, HP3.out.2⟩
  · have e0 : (er == (0 : Int)) = false := by rw [beq_eq_false_iff_ne]; exact h0
    have HF : Hid (flushE t d = er ∧ flushD t d = d) := by unfold Hid flushE flushD; rw [HER.out, if_neg h0, if_neg h0]; exact ⟨rfl, rfl⟩
    rw [HF.out.1, HF.out.2]
    have HFT : Hid (flushT t d = t) := by unfold Hid flushT; rw [HF.out.1, ← HER.out]
    rw [HFT.out]
    clear her
    go_enter Tryz.func171, Tryz.ntmps171
    go_wp2
    go_ret
    exact ⟨rfl, HH.out, Turn.refl _ _⟩
theorem settle20 {w : World} {F : Nat → Prop} {bt bl b : Nat} {t : T} {d : D} (h : TAt w F bt bl b d t) (hw : d.W.length ≤ 1000000) :
    Calls Tryz.prog 133 #[.pointer (some ⟨bt, 0, none⟩)] w fun e w' => e = .returned (.int .i64 (flushE t d)) ∧ TAt w' F bt bl b (flushD t d) (flushT t d) ∧ Turn (FL F bl) w w' := by
  have HE := Lib.hid (exists43 h.l)
  have HF := Lib.hid (flush44 h hw)
  obtain ⟨c0, -, -, -, -, -, -⟩ := h.l.c
  clear h
  go_enter Tryz.func133, Tryz.ntmps133
  go_wp2_with (first | (go_at_call 134; refine HE.out.mono ?_; rintro e w' ⟨rfl, rfl⟩) | (go_at_call 171; refine HF.out.mono ?_; rintro e w' ⟨rfl, h1, h2⟩; have H1 := Lib.hid h1; have H2 := Lib.hid h2; clear h1 h2))
  go_ret
  exact ⟨rfl, H1.out, H2.out⟩

set_option maxHeartbeats 1000000 in
theorem open19 {F : Nat → Prop} {b : Nat} {d : D} {w : World} (h : PAt w F b d) (hw : d.W.length ≤ 1000000) :
    Calls Tryz.prog 74 #[.pointer (some ⟨b, 0, none⟩)] w fun e w' => Below w.heap.size w w' ∧
      if openE d = 0 then ∃ bt bl v, e = .returned (.tuple #[.pointer (some ⟨bt, 0, none⟩), v, .int .i64 0]) ∧ LogAt w' bt bl b (openT d) ∧ w.heap.size ≤ bt ∧ w.heap.size ≤ bl ∧ w'.ownsRow w.heap.size 9 1 v (scanD d).recs.length (strs (scanD d).recs)
      else e = .returned (.tuple #[.pointer none, .slice none 0 0, .int .i64 (openE d)]) := by
  have HS := Lib.hid (scanP h hw)
  have hgr := great_lt (shown d)
  have hrl := (scanL_ok (shown d)).1
  have hn2 := h.ok.n2
  have hsl : (shown d).length = d.S.length := by simp [shown]
  change (scanD d).great < _ at hgr
  change (scanD d).recs.length ≤ _ at hrl
  rw [hsl] at hrl
  clear h hsl
  unfold openE
  cases hg : d.gone with
  | true =>
    rw [hg] at HS
    simp only [if_true] at HS
    rw [if_pos (rfl : true = true)]
    simp only [show ¬ (9 : Int) = 0 by decide, if_false]
    go_enter Tryz.func74, Tryz.ntmps74
    go_wp2_with fail
    refine HS.out.mono ?_
    rintro e w2 ⟨hb, rfl⟩
    have HB := Lib.hid hb
    clear hb
    go_wp2
    refine bodyPost_ret (results_tmp3 rfl _ _ _) rfl ?_
    exact ⟨HB.out, rfl⟩
  | false =>
    rw [hg] at HS
    simp only [Bool.false_eq_true, if_false] at HS ⊢
    have HT : Hid (openT d = ⟨(scanD d).recs.length, (scanD d).great + 1, (scanD d).occ, 0⟩) := rfl
    obtain ⟨rd, hrd⟩ : ∃ rd, scanD d = rd := ⟨_, rfl⟩
    rw [hrd] at HS HT hgr hrl ⊢
    by_cases h5 : rd.great = 4294967295
    · have e5 : ((rd.great : Int) == 4294967295) = true := by rw [h5]; rfl
      rw [if_pos h5]
      simp only [show ¬ (5 : Int) = 0 by decide, if_false]
      go_enter Tryz.func74, Tryz.ntmps74
      go_wp2_with fail
      refine HS.out.mono ?_
      rintro e w2 ⟨hb, v, rfl, ho⟩
      have HB := Lib.hid hb
      clear hb ho
      go_wp2
      refine bodyPost_ret (results_tmp3 rfl _ _ _) rfl ?_
      exact ⟨HB.out, rfl⟩
    · have e5 : ((rd.great : Int) == 4294967295) = false := by rw [beq_eq_false_iff_ne]; omega
      rw [if_neg h5]
      simp only [if_true]
      go_enter Tryz.func74, Tryz.ntmps74
      go_wp2_with fail
      refine HS.out.mono ?_
      rintro e w2 ⟨hb, v, rfl, ho⟩
      obtain ⟨vA, vc, rfl⟩ := row_slice ho
      have HF : Hid (∀ W, W = (w2.alloc (.cells #[.pointer (some ⟨b, 0, none⟩), .int .i64 ((rd.great : Int) + 1), .int .i64 (rd.recs.length : Int), .int .i64 (rd.occ : Int), .int .i64 0] 201)).alloc (.cells #[.pointer (some ⟨w2.heap.size, 0, none⟩)] 203) →
          Below w.heap.size w W ∧ LogAt W (w2.heap.size + 1) w2.heap.size b (openT d) ∧ w.heap.size ≤ w2.heap.size + 1 ∧ w.heap.size ≤ w2.heap.size ∧ W.ownsRow w.heap.size 9 1 (.slice vA rd.recs.length vc) rd.recs.length (strs rd.recs)) := by
        rintro W rfl
        refine ⟨(hb.alloc hb.size _).alloc (by have := hb.size; simp; omega) _, ⟨?_, ?_⟩, by have := hb.size; omega, hb.size, (ho.alloc _).alloc _⟩
        · have := heap_alloc_new (w2.alloc (.cells #[.pointer (some ⟨b, 0, none⟩), .int .i64 ((rd.great : Int) + 1), .int .i64 (rd.recs.length : Int), .int .i64 (rd.occ : Int), .int .i64 0] 201)) (.cells #[.pointer (some ⟨w2.heap.size, 0, none⟩)] 203)
          simpa using this
        · rw [HT.out, Below.heap_alloc _ _ _ (by simp)]
          exact heap_alloc_new _ _
      clear hb ho
      go_wp2
      refine bodyPost_ret (results_tmp3 rfl _ _ _) rfl ?_
      obtain ⟨f1, f2, f3, f4, f5⟩ := HF.out _ rfl
      exact ⟨f1, _, _, _, rfl, f2, f3, f4, f5⟩
end Go.Proofs.YtjanddnlhaionaaGreatDoor.L6
namespace Go.Proofs.YtjanddnlhaionaaGreatDoor.L6
open Go.RowKit Go.Shelf
attribute [local go_sem] Oper.semAt_some

set_option maxHeartbeats 400000 in
theorem parts65 (l r : Int) (s : ByteArray) (w : World) :
    Calls Tryz.prog 198 #[.int .i64 l, .int .i64 r, .string s] w fun e w' => e = .returned (.func (.func 212) #[] #[.pointer (some ⟨w.heap.size + 2, 0, none⟩), .pointer (some ⟨w.heap.size, 0, none⟩), .pointer (some ⟨w.heap.size + 1, 0, none⟩)]) ∧
      w' = ((w.alloc (.cells #[.int .i64 l] 3)).alloc (.cells #[.int .i64 r] 3)).alloc (.cells #[.string s] 9) := by
  go_enter Tryz.func198, Tryz.ntmps198
  go_wp2
  go_ret
  exact ⟨rfl, rfl⟩

def encP (life record : Nat) (s : ByteArray) (x : Fin (needN s.size)) : Array Value := #[.agg (secV (partOf life record s x.1))]
def GP (n k : Nat) : Prop := ¬ (n ≤ k ∧ k ≤ n + 2)
structure Boxes (n life record : Nat) (s : ByteArray) (W : World) : Prop where
  b3 : Boxed W n 3 (.int .i64 (life : Int))
  b4 : Boxed W (n + 1) 3 (.int .i64 (record : Int))
  b5 : Boxed W (n + 2) 9 (.string s)
theorem Boxes.turn {n life record : Nat} {s : ByteArray} {W W' : World} (h : Boxes n life record s W) (ht : Turn (GP n) W W') : Boxes n life record s W' :=
  ⟨(ht.block n (Array.getElem?_eq_some_iff.1 h.b3).1 (fun hg => hg ⟨by omega, by omega⟩)).trans h.b3, (ht.block (n + 1) (Array.getElem?_eq_some_iff.1 h.b4).1 (fun hg => hg ⟨by omega, by omega⟩)).trans h.b4, (ht.block (n + 2) (Array.getElem?_eq_some_iff.1 h.b5).1 (fun hg => hg ⟨by omega, by omega⟩)).trans h.b5⟩
theorem Boxes.below {n life record : Nat} {s : ByteArray} {W W' : World} (h : Boxes n life record s W) (hb : Below W.heap.size W W') : Boxes n life record s W' := h.turn (Turn.of_below hb)

theorem need_in (n i : Nat) (h : i < needN n) : 51 * i ≤ n ∧ min ((i + 1) * 51) n ≤ n ∧ 51 * i ≤ min ((i + 1) * 51) n := by
  unfold needN at h
  split at h
  · have : i = 0 := by omega
    subst this
    omega
  · omega
theorem part_data (s : ByteArray) (i : Nat) : mkB ((s.data.toList.drop (51 * i)).take 51) = s.extract (51 * i) (min ((i + 1) * 51) s.size) := by
  refine (eq_mkB ?_).symm
  rw [ext_list, List.drop_take]
  by_cases hl : (i + 1) * 51 ≤ s.size
  · rw [Nat.min_eq_left hl, show (i + 1) * 51 - 51 * i = 51 by omega]
  · rw [Nat.min_eq_right (by omega), List.take_of_length_le (by rw [List.length_drop, len_list]; omega), List.take_of_length_le (by rw [List.length_drop, len_list]; omega)]

set_option maxHeartbeats 2000000 in
theorem iter75_in (m : Nat) (hm : 1 ≤ m) (lp n life record : Nat) (s : ByteArray) (hs : s.size ≤ 1000000000)
    (J Jx : List (Fin (needN s.size)) → World → Prop) (W : World) (hJ : AbidesFrom W.heap.size J)
    (hY : ∀ pre x W1, J pre W1 → pre.length < needN s.size → YieldAt Fence.wide (m - 1) Tryz.prog lp (encP life record s x) W1 fun e W' =>
      (e = .returned (.bool true) ∧ J (pre ++ [x]) W' ∧ Turn (GP n) W1 W') ∨ (e = .returned (.bool false) ∧ Jx (pre ++ [x]) W'))
    (hB : Boxes n life record s W) (h0 : J [] W) :
    CallsIn Fence.wide m Tryz.prog 212 #[.func (.yield lp) #[] #[], .pointer (some ⟨n + 2, 0, none⟩), .pointer (some ⟨n, 0, none⟩), .pointer (some ⟨n + 1, 0, none⟩)] W fun e W' => (∃ v, e = .returned v) ∧
      ((∃ ys, ys = List.finRange (needN s.size) ∧ J ys W') ∨ (∃ pre, pre <+: List.finRange (needN s.size) ∧ Jx pre W')) := by
  have HY := Lib.hid hY
  have HJ := Lib.hid hJ
  have HST : Hid (Boxes n life record s W ∧ J [] W) := ⟨hB, h0⟩
  have c5 := hB.b5.cell
  have HN := Lib.hid (need17n s.size (by omega))
  clear hY hJ hB h0
  refine callsIn_of_wp Tryz.func212 rfl trivial ?_ rfl
  simp only [Tryz.ntmps212, List.size_toArray, List.length_cons, List.length_nil, Nat.reduceAdd, Nat.reduceSub, Array.replicate_succ, Array.replicate_zero, List.push_toArray, List.append_toArray, List.nil_append, List.cons_append]
  obtain ⟨nd, hnd⟩ : ∃ nd, needN s.size = nd := ⟨_, rfl⟩
  rw [hnd] at HN
  gi_wp2_with (refine ⟨trivial, ?_⟩; gi_at_call 197; refine (callsIn_wide.2 (HN.out _)).mono ?_; rintro e w' ⟨rfl, rfl⟩)
  have HND := Lib.hid hnd
  clear c5 HN
  gi_loopw [13] (fun s13 wr => ∃ (i : Nat), s13 = .int .i64 (i : Int) ∧ i ≤ nd ∧ Hid (Boxes n life record s wr ∧ J ((List.finRange (needN s.size)).take i) wr)) (fun s13 _ => nd - (intOf s13).toNat)
  case atStart => exact ⟨0, rfl, Nat.zero_le _, HST.out.1, by rw [List.take_zero]; exact HST.out.2⟩
  case round =>
    obtain ⟨i, rfl, hi, HI⟩ := hrel
    clear HST
    by_cases hlt : i < nd
    · have hlti : (i : Int) < (nd : Int) := by omega
      obtain ⟨q1, q2, q3⟩ := need_in s.size i (by rw [hnd]; exact hlt)
      have hPD := part_data s i
      obtain ⟨en, hen⟩ : ∃ en, min ((i + 1) * 51) s.size = en := ⟨_, rfl⟩
      rw [hen] at q2 q3 hPD
      have hen2 : (if (s.size : Int) < ((i : Int) + 1) * 51 then (s.size : Int) else ((i : Int) + 1) * 51) = (en : Int) := by split <;> omega
      have HPD := Lib.hid hPD
      have c5 := HI.out.1.b5.cell
      have c3 := HI.out.1.b3.cell
      have c4 := HI.out.1.b4.cell
      clear hPD hnd
      gi_upto_region 5 with fail
      have hsl : ∀ W, (Instr.slice 9 (.string s) (some (.int .i64 ((i : Int) * 51))) (some (.int .i64 (en : Int))) none).run Tryz.prog W = .ok (.string (s.extract (51 * i) en)) W := fun W => slice_str s (51 * i) en q3 q2 _ _ (by omega) rfl W
      have hndl : nd ≤ 1000000001 := by rw [← HND.out]; unfold needN; split <;> omega
      have w1 : IntKind.i64.wrap ((nd : Int) - 1) = (nd : Int) - 1 := by rw [IntKind.wrap_i64]; omega
      have w2 : IntKind.i64.wrap ((i : Int) * 51) = (i : Int) * 51 := by rw [IntKind.wrap_i64]; omega
      have hlast : ((i : Int) == (nd : Int) - 1) = decide (i + 1 = nd) := by
        by_cases hq : i + 1 = nd
        · rw [decide_eq_true hq, beq_iff_eq]; omega
        · rw [decide_eq_false hq, beq_eq_false_iff_ne]; omega
      obtain ⟨la, hla⟩ : ∃ la, decide (i + 1 = nd) = la := ⟨_, rfl⟩
      rw [hla] at hlast
      have HX : Hid (secV (partOf life record s i) = #[.int .i64 (life : Int), .int .i64 (record : Int), .int .i64 (i : Int), .bool la, .string (s.extract (51 * i) en)]) := by
        unfold Hid secV partOf
        rw [HPD.out, HND.out, hla]
      obtain ⟨X, hX⟩ : ∃ X, secV (partOf life record s i) = X := ⟨_, rfl⟩
      have HXX := Lib.hid hX
      rw [hX] at HX
      clear hla hX hlti hen2 q1 q2 q3 hen
      have z := Tryz.z112
      have HA := HI.out.1.below (((Below.refl wr.heap.size wr).alloc (Nat.le_refl _) (.cells #[.int .i64 0, .int .i64 0, .int .i64 0, .bool false, .string ⟨#[]⟩] 289)).drew)
      have d5 := HA.b5.cell
      have d3 := HA.b3.cell
      have d4 := HA.b4.cell
      have g5 : (wr.alloc (.cells #[.int .i64 0, .int .i64 0, .int .i64 0, .bool false, .string ⟨#[]⟩] 289)).cell? ⟨n + 2, 0, none⟩ = _ := d5
      have g3 : (wr.alloc (.cells #[.int .i64 0, .int .i64 0, .int .i64 0, .bool false, .string ⟨#[]⟩] 289)).cell? ⟨n, 0, none⟩ = _ := d3
      have g4 : (wr.alloc (.cells #[.int .i64 0, .int .i64 0, .int .i64 0, .bool false, .string ⟨#[]⟩] 289)).cell? ⟨n + 1, 0, none⟩ = _ := d4
      clear HA
      gi_cut [8] from 22 (fun s8 wx => s8 = .pointer (some ⟨wr.heap.size, 0, none⟩) ∧ wx = (wr.alloc (.cells X 289)).drew)
      case first =>
        gi_region
        all_goals
          gi_wp2_with fail
          gi_meet
          case rel => exact ⟨rfl, by rw [HX.out]⟩
      case rest =>
        obtain ⟨rfl, rfl⟩ := hcut
        have hif : i < (List.finRange (needN s.size)).length := by rw [List.length_finRange, HND.out]; exact hlt
        have htk : (List.finRange (needN s.size)).take (i + 1) = (List.finRange (needN s.size)).take i ++ [⟨i, by rw [HND.out]; exact hlt⟩] := by rw [List.take_succ_eq_append_getElem hif]; simp
        have hlen : ((List.finRange (needN s.size)).take i).length < needN s.size := by rw [List.length_take, List.length_finRange, HND.out]; omega
        have hbw : Below wr.heap.size wr (wr.alloc (.cells X 289)).drew := ((Below.refl _ _).alloc (Nat.le_refl _) _).drew
        have hyy := HY.out ((List.finRange (needN s.size)).take i) ⟨i, by rw [HND.out]; exact hlt⟩ (wr.alloc (.cells X 289)).drew (HJ.out _ _ _ none HI.out.2 ⟨hbw.os, hbw.tape, hbw.output, hbw.size, fun k hk _ => hbw.block k hk⟩ (fun r e => by cases e)) hlen
        unfold encP at hyy
        rw [← htk] at hyy
        obtain ⟨fn, tmps, assign, body, hy, hR⟩ := hyy
        have HR := Lib.hid hR
        have HBO := Lib.hid (HI.out.1.below hbw)
        have hrow : (wr.alloc (.cells X 289)).drew.heap[wr.heap.size]? = some (.cells (secV (partOf life record s i)) 289 (0, 0)) := by rw [HXX.out]; exact heap_alloc_new _ _
        obtain ⟨b0, b1, b2, b3, b4⟩ := sec_cells hrow
        unfold secV partOf at hy
        unfold partOf at b0 b1 b2 b3 b4
        simp only at hy b0 b1 b2 b3 b4
        clear hR hlen htk hif hbw c3 c4 c5 d3 d4 d5 g3 g4 g5 z hsl w1 w2 hlast HX HXX HPD HI hrow
        generalize (wr.alloc (.cells X 289)).drew = w2 at HR HBO hy b0 b1 b2 b3 b4 ⊢
        generalize decide (i + 1 = needN s.size) = l2 at hy b3
        generalize mkB (((s.data.toList.drop (51 * i)).take 51)) = d2 at hy b4
        gi_wp2_with fail
        refine HR.out.mono ?_
        rintro ee W3 (⟨rfl, hJ3, hk3⟩ | ⟨rfl, hJx3⟩)
        · have HN : Hid (Boxes n life record s W3 ∧ J ((List.finRange (needN s.size)).take (i + 1)) W3) := ⟨HBO.out.turn hk3, hJ3⟩
          clear hJ3 hk3 HR hy HBO b0 b1 b2 b3 b4
          gi_wp2
          go_roundw
          case rel => exact ⟨i + 1, by go_num, by omega, HN⟩
          case measure => simp [intOf]; omega
        · have HE : Hid (Jx ((List.finRange (needN s.size)).take (i + 1)) W3) := hJx3
          clear hJx3 HR hy HBO b0 b1 b2 b3 b4
          gi_wp2
          refine bodyPost_ret (results_none rfl _ _ _) rfl ?_
          exact ⟨⟨_, rfl⟩, .inr ⟨_, List.take_prefix _ _, HE.out⟩⟩
    · clear hnd
      have hin : ¬ (i : Int) < (nd : Int) := by omega
      have HE : Hid (J (List.finRange (needN s.size)) wr) := by
        have := HI.out.2
        rw [List.take_of_length_le (by rw [List.length_finRange, HND.out]; omega)] at this
        exact this
      clear HI
      gi_wp2
      go_end0
      exact ⟨⟨_, rfl⟩, .inl HE.out⟩

theorem iter75 (m : Nat) (hm : 1 ≤ m) (n life record : Nat) (s : ByteArray) (hs : s.size ≤ 1000000000) (w : World) (hB : Boxes n life record s w) :
    SeqStopsK Fence.wide m Tryz.prog 212 #[.pointer (some ⟨n + 2, 0, none⟩), .pointer (some ⟨n, 0, none⟩), .pointer (some ⟨n + 1, 0, none⟩)] (encP life record s) (Turn (GP n)) (fun ys => ys = List.finRange (needN s.size)) (fun pre => pre <+: List.finRange (needN s.size)) (needN s.size) w := by
  intro lp J Jx W hb hJ _ hY h0
  exact iter75_in m hm lp n life record s hs J Jx W hJ hY (hB.below hb) h0
end Go.Proofs.YtjanddnlhaionaaGreatDoor.L6
namespace Go.Proofs.YtjanddnlhaionaaGreatDoor.L6
open Go.RowKit Go.Shelf
attribute [local go_sem] Oper.semAt_some

/-- The drum's blocks and nothing else. -/
theorem PAt.core {w : World} {F : Nat → Prop} {b : Nat} {d : D} (h : PAt w F b d) : ∃ G, PAt w G b d ∧ (∀ k, G k → F k) ∧ ∀ k, G k → ∃ cs t, w.heap[k]? = some (.cells cs t (0, 0)) ∧ (t = 120 ∨ t = 144 ∨ t = 146) := by
  obtain ⟨g, c, v, hi⟩ := h.is
  have hF : ∀ k, (k = b ∨ k = g ∨ v.ownBlock = some k) → F k := fun k hk => by
    rcases hk with rfl | rfl | hk
    · exact hi.fb
    · exact hi.f1
    · exact hi.f2 k hk
  refine ⟨fun k => k = b ∨ k = g ∨ v.ownBlock = some k, ⟨⟨g, c, v, hi.row, hi.o1, hi.o2, hi.n1, hi.n2, hi.n12, .inl rfl, .inr (.inl rfl), fun k hk => .inr (.inr hk)⟩, h.ok, fun k hk => h.lt k (hF k hk)⟩, hF, fun k hk => ?_⟩
  rcases hk with rfl | rfl | hk
  · exact ⟨_, _, hi.row, .inl rfl⟩
  · obtain ⟨cs, hc⟩ := row_ty hi.o1 rfl
    exact ⟨_, _, hc, .inr (.inl rfl)⟩
  · obtain ⟨cs, hc⟩ := row_ty hi.o2 hk
    exact ⟨_, _, hc, .inr (.inr rfl)⟩

def wrS (t : T) (s : ByteArray) (p : D × Int) (i : Nat) : D × Int := if p.2 = 0 then (writeD p.1 ((t.pos + i : Nat) : Int) (layB (partOf t.life (t.count + 1) s i)), writeE p.1 ((t.pos + i : Nat) : Int) (layB (partOf t.life (t.count + 1) s i))) else p
def wrF (t : T) (s : ByteArray) (d : D) (l : List (Fin (needN s.size))) : D × Int := l.foldl (fun p i => wrS t s p i.1) (d, 0)
theorem wrF_snoc (t : T) (s : ByteArray) (d : D) (l : List (Fin (needN s.size))) (x : Fin (needN s.size)) : wrF t s d (l ++ [x]) = wrS t s (wrF t s d l) x.1 := by unfold wrF; rw [List.foldl_append]; rfl
theorem wrF_take (t : T) (s : ByteArray) (d : D) : ∀ k, k ≤ needN s.size → wrF t s d ((List.finRange (needN s.size)).take k) = wrK t s d k
  | 0, _ => by simp [wrF, wrK]
  | k + 1, h => by
    have hk : k < (List.finRange (needN s.size)).length := by rw [List.length_finRange]; omega
    rw [List.take_succ_eq_append_getElem hk, wrF_snoc, wrF_take t s d k (by omega)]
    simp only [List.getElem_finRange, Fin.cast_mk]
    rfl
theorem wrF_all (t : T) (s : ByteArray) (d : D) : wrF t s d (List.finRange (needN s.size)) = wrK t s d (needN s.size) := by
  rw [← wrF_take t s d _ (Nat.le_refl _), List.take_of_length_le (by simp)]
theorem wrF_stuck (t : T) (s : ByteArray) (d : D) (l m : List (Fin (needN s.size))) (h : (wrF t s d l).2 ≠ 0) : wrF t s d (l ++ m) = wrF t s d l := by
  unfold wrF at *
  rw [List.foldl_append]
  generalize l.foldl (fun p i => wrS t s p i.1) (d, 0) = p at *
  induction m with
  | nil => rfl
  | cons a m ih => rw [List.foldl_cons]; unfold wrS; rw [if_neg h]; exact ih
theorem wrF_prefix (t : T) (s : ByteArray) (d : D) (l : List (Fin (needN s.size))) (hl : l <+: List.finRange (needN s.size)) (h : (wrF t s d l).2 ≠ 0) : wrK t s d (needN s.size) = wrF t s d l := by
  obtain ⟨m, hm⟩ := hl
  rw [← wrF_all, ← hm, wrF_stuck t s d l m h]
theorem wrS_ok (t : T) (s : ByteArray) (p : D × Int) (i : Nat) (h : Ok p.1) : Ok (wrS t s p i).1 := by unfold wrS; split; exact h.write _ _; exact h
theorem wrF_len (t : T) (s : ByteArray) (d : D) (l : List (Fin (needN s.size))) : (wrF t s d l).1.S.length = d.S.length ∧ (wrF t s d l).1.W.length ≤ d.W.length + l.length := by
  rw [show l = l.reverse.reverse by simp]
  generalize l.reverse = m
  induction m with
  | nil => simp [wrF]
  | cons a m ih =>
    rw [List.reverse_cons, wrF_snoc, List.length_append]
    unfold wrS
    split
    · refine ⟨by rw [write_len]; exact ih.1, ?_⟩
      have := write_wlen (wrF t s d m.reverse).1 ((t.pos + a.1 : Nat) : Int) (layB (partOf t.life (t.count + 1) s a.1))
      have h2 := ih.2
      exact Nat.le_trans this (by have e : [a].length = 1 := rfl; rw [e]; omega)
    · exact ⟨ih.1, Nat.le_trans ih.2 (by omega)⟩

/-- The drum within a round: its blocks hold cells of its own types, and are the drum's old ones or new. -/
def PR (w : World) (F : Nat → Prop) (b : Nat) (d : D) (W : World) : Prop := ∃ G, PAt W G b d ∧ (∀ k, G k → F k ∨ w.heap.size ≤ k) ∧ ∀ k, G k → ∃ cs t, W.heap[k]? = some (.cells cs t (0, 0)) ∧ (t = 120 ∨ t = 144 ∨ t = 146)
theorem PR.of {w W : World} {F G : Nat → Prop} {b : Nat} {d : D} (h : PAt W G b d) (hG : ∀ k, G k → F k ∨ w.heap.size ≤ k) : PR w F b d W := by
  obtain ⟨H, h1, h2, h3⟩ := h.core
  exact ⟨H, h1, fun k hk => hG k (h2 k hk), h3⟩
theorem PR.keep {w W W' : World} {F : Nat → Prop} {b : Nat} {d : D} (h : PR w F b d W) (hs : W.heap.size ≤ W'.heap.size) (hk : ∀ (k : Nat) (cs : Array Value) (t : TypeId), W.heap[k]? = some (Obj.cells cs t (0, 0)) → (t = 120 ∨ t = 144 ∨ t = 146) → W'.heap[k]? = W.heap[k]?) : PR w F b d W' := by
  obtain ⟨G, h1, h2, h3⟩ := h
  have hk' : ∀ k, G k → W'.heap[k]? = W.heap[k]? := fun k hg => by obtain ⟨cs, t, hc, ht⟩ := h3 k hg; exact hk k cs t hc ht
  obtain ⟨g, c, v, hi⟩ := h1.is
  exact ⟨G, ⟨⟨g, c, v, hi.keep hk'⟩, h1.ok, fun k hg => Nat.lt_of_lt_of_le (h1.lt k hg) hs⟩, h2, fun k hg => by rw [hk' k hg]; exact h3 k hg⟩
theorem pr_own {β : Type} (w : World) (F : Nat → Prop) (b : Nat) (f : β → D) : Own (fun s W => PR w F b (f s) W) := by
  intro s X Y row h hg hr
  refine h.keep hg.size fun k cs t hc _ => hg.block k (Array.getElem?_eq_some_iff.1 hc).1 (fun e => ?_)
  obtain ⟨o, ho, hcc⟩ := hr k e.symm
  rw [hc] at ho
  cases ho
  cases hcc
theorem log_own {β : Type} (bt bl b : Nat) (f : β → T) : Own (fun s W => LogAt W bt bl b (f s)) := by
  intro s X Y row h hg hr
  refine h.keep (hg.block bt h.lt.1 (fun e => ?_)) (hg.block bl h.lt.2 (fun e => ?_))
  · obtain ⟨o, ho, hcc⟩ := hr bt e.symm
    rw [h.rt] at ho; cases ho; cases hcc
  · obtain ⟨o, ho, hcc⟩ := hr bl e.symm
    rw [h.rl] at ho; cases ho; cases hcc
theorem ownFrom_turn {β : Type} {F : Nat → Prop} {w : World} {B : Nat} (h : w.heap.size ≤ B) : OwnFrom B (fun (_ : β) W => Turn F w W) := by
  intro s X Y row ht hg hr
  exact ht.trans (G := fun k => row = some k) ⟨hg.os, hg.tape, hg.output, hg.size, fun k hk hn => hg.block k hk (fun e => hn e.symm)⟩ (fun i hi => .inr (by have := (hr i hi).1; omega))

/-- Between two rounds of add. -/
def AInv (w : World) (F : Nat → Prop) (bt bl b : Nat) (d : D) (t : T) (s : ByteArray) (pre : List (Fin (needN s.size))) (W : World) : Prop :=
  PR w F b (wrF t s d pre).1 W ∧ LogAt W bt bl b t ∧ Boxed W w.heap.size 199 (.pointer (some ⟨bl, 0, none⟩)) ∧ Boxed W (w.heap.size + 1) 30 (.int .i64 0) ∧ Boxes (w.heap.size + 2) t.life (t.count + 1) s W ∧ Turn (FL F bl) w W ∧ (wrF t s d pre).2 = 0
def AInvX (w : World) (F : Nat → Prop) (bt bl b : Nat) (d : D) (t : T) (s : ByteArray) (c : Code) (pre : List (Fin (needN s.size))) (W : World) : Prop :=
  PR w F b (wrF t s d pre).1 W ∧ LogAt W bt bl b { t with err := (wrF t s d pre).2 } ∧ Boxed W (w.heap.size + 1) 30 (.int .i64 (wrF t s d pre).2) ∧ Turn (FL F bl) w W ∧ c = .ret ∧ (wrF t s d pre).2 ≠ 0
theorem boxes_own {β : Type} (n life record : Nat) (s : ByteArray) : Own (fun (_ : β) W => Boxes n life record s W) := fun x X Y row h hg hr =>
  ⟨boxed_own n 3 (fun _ => .int .i64 (life : Int)) x X Y row h.b3 hg hr, boxed_own (n + 1) 3 (fun _ => .int .i64 (record : Int)) x X Y row h.b4 hg hr, boxed_own (n + 2) 9 (fun _ => .string s) x X Y row h.b5 hg hr⟩
theorem aInv_own (w : World) (F : Nat → Prop) (bt bl b : Nat) (d : D) (t : T) (s : ByteArray) (lo : Nat) (h : w.heap.size ≤ lo) : OwnFrom lo (AInv w F bt bl b d t s) :=
  OwnFrom.and (Own.from (pr_own w F b (fun pre => (wrF t s d pre).1)) _) (OwnFrom.and (Own.from (log_own bt bl b (fun _ => t)) _) (OwnFrom.and (Own.from (boxed_own _ _ _) _) (OwnFrom.and (Own.from (boxed_own _ _ _) _) (OwnFrom.and (Own.from (boxes_own _ _ _ _) _) (OwnFrom.and (ownFrom_turn h) (ownFrom_pure _ _))))))
theorem aInvX_own (w : World) (F : Nat → Prop) (bt bl b : Nat) (d : D) (t : T) (s : ByteArray) (lo : Nat) (h : w.heap.size ≤ lo) (c : Code) : OwnFrom lo (AInvX w F bt bl b d t s c) :=
  OwnFrom.and (Own.from (pr_own w F b (fun pre => (wrF t s d pre).1)) _) (OwnFrom.and (Own.from (log_own bt bl b (fun pre => { t with err := (wrF t s d pre).2 })) _) (OwnFrom.and (Own.from (boxed_own _ _ (fun pre => .int .i64 (wrF t s d pre).2)) _) (OwnFrom.and (ownFrom_turn h) (ownFrom_pure _ _))))
end Go.Proofs.YtjanddnlhaionaaGreatDoor.L6
namespace Go.Proofs.YtjanddnlhaionaaGreatDoor.L6
open Go.RowKit

def defers? (o : Oper) : Bool := match o.op with | .defer _ => true | _ => false
theorem noDefer {ops : Array Oper} (h : ops.all (fun o => !defers? o) = true) (j : Nat) (o : Oper) (ho : ops[j]? = some o) (c : _) : o.op ≠ .defer c := by
  intro e
  have hm : o ∈ ops := Array.mem_of_getElem? ho
  rw [Array.all_eq_true_iff_forall_mem] at h
  have := h o hm
  unfold defers? at this
  rw [e] at this
  simp at this
section
variable {P : Program} {n l : Nat} {ops : Array Oper} {Q : Exit → Act → World → Prop} {md : Region.Mode}
theorem uponIn_of_upon {o : Oper} {a : Act} {K : Act → World → Prop} (r : Result Next) (h : o.upon P a K Q r) : o.uponIn (Fence.wide.inRound l) n P a K Q r := by
  cases r with
  | ok x w' =>
    cases x with
    | value v => exact h
    | skip => exact h
    | defer d => exact h
    | enter f args => exact ⟨(fun hd => by cases hd), CallsIn.inRound l (callsIn_wide.2 h)⟩
    | row row args => exact ⟨(fun hd => by cases hd), fun c cs _ => let ⟨v, w', r, s⟩ := h c cs; ⟨v, w', r, stepsIn_wide.2 s⟩⟩
    | round _ _ _ _ _ => exact h.elim
    | _ => exact h.elim
  | halt x w' => cases x <;> exact h
theorem wpOpIn_of_wpOp (hl : ¬ LetsOut Q) {i : Nat} {K K' : Act → World → Prop} {a : Act} {w : World} (hd : ∀ (j : Nat) (o : Oper), ops[j]? = some o → ∀ c, o.op ≠ .defer c) (hK : ∀ a w, K a w → K' a w) (h : wpOp P ops Q i K a w) : wpOpIn (Fence.wide.inRound l) n P ops Q i K' a w := by
  refine wpOpIn_mono hK ?_
  unfold wpOp at h
  unfold wpOpIn
  cases ho : ops[i]? with
  | none => rw [ho] at h; exact h
  | some o =>
    rw [ho] at h
    simp only at h ⊢
    split
    · rename_i hw
      rw [if_pos hw] at h
      refine ⟨fun _ _ => trivial, ?_⟩
      rw [Oper.semAt_eq _ _ _ (hd i o ho)]
      rcases h with h | ⟨_, h⟩
      · exact uponIn_of_upon _ h
      · exact absurd h hl
    · rename_i hw
      rw [if_neg hw] at h
      exact ⟨fun _ _ => trivial, h⟩
theorem wpAnyIn_of_wpAny (hl : ¬ LetsOut Q) (hd : ∀ (j : Nat) (o : Oper), ops[j]? = some o → ∀ c, o.op ≠ .defer c) : ∀ (fuel : Nat) (listed : Array Bool) (a : Act) (w : World), wpAny P md ops Q fuel listed a w → wpAnyIn (Fence.wide.inRound l) n P md ops Q fuel listed a w
  | 0, _, _, _, h => h
  | fuel + 1, _, _, _, h => ⟨h.1, fun i hi => wpOpIn_of_wpOp hl hd (fun a w => wpAnyIn_of_wpAny hl hd fuel _ a w) (h.2 i hi)⟩
theorem region_in_round {S : World → Prop} {id : Nat} {a : Act} {w : World} (hm : P.follows .mixedOrders = true) (hd : ∀ (j : Nat) (o : Oper), ops[j]? = some o → ∀ c, o.op ≠ .defer c) (hl : ¬ LetsOut Q) (hS : S w.drew)
    (h : S w.drew → wpAnyH P .any ops Q S ops.size (Array.replicate ops.size false) a w.drew) : (Code.region id ops true).wpIn (Fence.wide.inRound l) n P Q a w :=
  wpIn_region_any hm (wpAnyIn_of_wpAny hl hd _ _ _ _ (wpAny_of_held _ _ _ _ (h hS)))
end
end Go.Proofs.YtjanddnlhaionaaGreatDoor.L6
