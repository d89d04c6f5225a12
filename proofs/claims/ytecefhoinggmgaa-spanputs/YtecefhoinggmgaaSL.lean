/-
  Contracts of span.stretches and span.replace. No condition.
-/
import Derived.Test.YtecefhoinggmgaaSI
import Derived.Test.YtecefhoinggmgaaSK
namespace Go.Proofs.Ytecefhoinggmgaa
open Go.RowKit Go.Shelf
attribute [local go_sem] Oper.semAt_some

set_option maxHeartbeats 400000 in
theorem stretches41 (lA : Option Addr) (ln lc : Nat) (dA : Option Addr) (dn dc : Nat) (w : World) :
    Calls Try.prog 41 #[.slice lA ln lc, .slice dA dn dc] w fun e w' => e = .returned (.func (.func 52) #[] #[.pointer (some ⟨w.heap.size, 0, none⟩), .pointer (some ⟨w.heap.size + 1, 0, none⟩)]) ∧
      w' = (w.alloc (.cells #[.slice lA ln lc] 22)).alloc (.cells #[.slice dA dn dc] 42) := by
  go_enter Try.func41, Try.ntmps41
  go_wp2
  go_ret
  exact ⟨rfl, rfl⟩

/-- What a stretch comes to in replace. -/
def strV (d : List Pc) (x : Str d) : Vl :=
  match x.2 with
  | some i => d[i].2.2.2
  | none => x.1.2.2
def strR (d : List Pc) (x : Str d) : Row := (x.1.1, x.1.2.1, strV d x)
def kindZ (v : Vl) : Bool := v.1 == 0
def replL (d : List Pc) (S : List (Str d)) : List Row := joins kindZ [] (S.map (strR d))

theorem replL_snoc (d : List Pc) (S : List (Str d)) (x : Str d) : replL d (S ++ [x]) = if kindZ (strV d x) then replL d S else addL (replL d S) (strR d x) := by
  unfold replL joins
  rw [List.map_append, List.foldl_append]; rfl

theorem PcsAt.from_ {w : World} {n₀ : Nat} {v : Value} {d : List Pc} (h : PcsAt w n₀ v d) : ∃ pb po, PcFrom n₀ d pb po 0 v w := by
  obtain ⟨A, cap, rfl, h1, h2, h3⟩ := h
  by_cases h0 : 0 < d.length
  · obtain ⟨b, o, rfl, hb, hr⟩ := h3 h0
    exact ⟨b, o, ⟨⟨_, cap, rfl, h1, h2, fun _ => by simp⟩, fun _ => hb, hr⟩⟩
  · exact ⟨0, 0, ⟨⟨A, cap, rfl, h1, h2, fun h => absurd h h0⟩, fun h => absurd h h0, fun i hi => by omega⟩⟩

theorem rowOf_boxed {W : World} {B : Nat} {t : TypeId} {v : Value} (h : Boxed W B t v) : rowOf W B = v.ownBlock := by
  unfold rowOf
  rw [h.cell]; rfl

def RBox (W : World) (b : Nat) (r : Row) : Prop := W.heap[b]? = some (.cells #[.int .i64 r.1, .int .i64 r.2.1, .int .i64 r.2.2.1, .int .i64 r.2.2.2.1, .string r.2.2.2.2] 52 (0, 0))
theorem RBox.lt {W : World} {b : Nat} {r : Row} (h : RBox W b r) : b < W.heap.size := lt_of_get h
theorem RBox.row {W : World} {b : Nat} {r : Row} (h : RBox W b r) : RowAt W b 0 r := by
  have h' : W.heap[b]? = _ := h
  exact ⟨by simp [World.cell?, h'], by simp [World.cell?, h'], by simp [World.cell?, h'], by simp [World.cell?, h'], by simp [World.cell?, h']⟩
theorem RBox.frozen {W : World} {b : Nat} {r : Row} (h : RBox W b r) (i : Nat) : W.frozen? ⟨b, i, none⟩ = false := by
  have h' : W.heap[b]? = _ := h
  simp [World.frozen?, h']

/-- The frame behind the assignment of a round's row to the loop's variable. -/
def AxR (lo B : Nat) (fr : Nat → Act) (r : Row) (a' : Act) (W : World) : Prop := ∃ Bx, lo ≤ Bx ∧ RBox W Bx r ∧ some Bx ≠ rowOf W B ∧ a' = fr Bx
theorem axR_own (lo B : Nat) (fr : Nat → Act) (r : Row) (a' : Act) (hB : B < lo) (hlo : Nat) (hlo' : lo ≤ hlo) : OwnFrom hlo (fun (_ : Unit) W => AxR lo B fr r a' W) := by
  rintro _ X Y row ⟨Bx, h1, h2, h3, h4⟩ hg hr
  refine ⟨Bx, h1, ?_, ?_, h4⟩
  · refine (hg.block Bx h2.lt (fun e => ?_)).trans h2
    obtain ⟨_, o, ho, hc⟩ := hr Bx e.symm
    rw [show X.heap[Bx]? = _ from h2] at ho
    cases ho; cases hc
  · by_cases hBX : B < X.heap.size
    · rw [rowOf_block (hg.block B hBX (fun e => by have := (hr B e.symm).1; omega))]; exact h3
    · have := h2.lt; omega

/-- The middle of a round of replace. -/
structure Mid (w : World) (n₀ lo : Nat) (L : List Row) (v : Value) (W W1 : World) : Prop where
  box : Boxed W1 (n₀ + 1 + 1) 22 v
  own : OwnR W1 n₀ v L
  r0 : Boxed W1 n₀ 22 (.slice none 0 0)
  r1 : Boxed W1 (n₀ + 1) 28 (.int .i64 0)
  bel : Below n₀ w W1
  kf : KeepsFrom lo W W1
  kp : KpB n₀ (n₀ + 1 + 1) W W1

theorem grown_set3 (W : World) (b : Nat) (o1 o2 o3 : Nat) (v1 v2 v3 : Value) : W.grownBy (((W.setCell ⟨b, o1, none⟩ v1).setCell ⟨b, o2, none⟩ v2).setCell ⟨b, o3, none⟩ v3) (some b) :=
  ⟨rfl, rfl, rfl, by simp [World.setCell], fun k _ hk => by
    have hne : k ≠ b := fun e => hk (by rw [e])
    rw [Below.heap_setCell _ _ _ k hne, Below.heap_setCell _ _ _ k hne, Below.heap_setCell _ _ _ k hne]⟩

theorem Mid.val {w : World} {n₀ lo : Nat} {L : List Row} {v : Value} {W W1 : World} (h : Mid w n₀ lo L v W W1) (hn : n₀ ≤ w.heap.size) {Bx : Nat} {f e k n : Int} {s : ByteArray} (hr : RBox W1 Bx (f, e, k, n, s)) (hlo : n₀ + 1 + 1 < Bx) (hne : v.ownBlock ≠ some Bx) (k' n' : Int) (s' : ByteArray) :
    Mid w n₀ lo L v W (((W1.setCell ⟨Bx, 2, none⟩ (.int .i64 k')).setCell ⟨Bx, 3, none⟩ (.int .i64 n')).setCell ⟨Bx, 4, none⟩ (.string s')) ∧
      RBox (((W1.setCell ⟨Bx, 2, none⟩ (.int .i64 k')).setCell ⟨Bx, 3, none⟩ (.int .i64 n')).setCell ⟨Bx, 4, none⟩ (.string s')) Bx (f, e, k', n', s') := by
  have hg := grown_set3 W1 Bx 2 3 4 (.int .i64 k') (.int .i64 n') (.string s')
  have hrb : RBox (((W1.setCell ⟨Bx, 2, none⟩ (.int .i64 k')).setCell ⟨Bx, 3, none⟩ (.int .i64 n')).setCell ⟨Bx, 4, none⟩ (.string s')) Bx (f, e, k', n', s') := by
    have h' : W1.heap[Bx]? = _ := hr
    unfold RBox
    simp [World.setCell, Array.getElem?_modify, h']
  generalize ((W1.setCell ⟨Bx, 2, none⟩ (.int .i64 k')).setCell ⟨Bx, 3, none⟩ (.int .i64 n')).setCell ⟨Bx, 4, none⟩ (.string s') = W2 at hg hrb
  have hb2 := h.box.kept hg (by intro e; injection e; omega)
  refine ⟨⟨hb2, World.ownsRow.kept h.own hg (.inr hne), h.r0.kept hg (by intro e; injection e; omega), h.r1.kept hg (by intro e; injection e; omega), h.bel.grown hg (Nat.le_trans hn h.bel.size) (fun j e => by cases e; omega), ?_, ?_⟩, hrb⟩
  · refine h.kf.trans ((KeepsOthers.of_grownBy hg fun j o ej hj => ?_).from lo)
    cases ej
    rw [show W1.heap[Bx]? = _ from hr] at hj
    cases hj; rfl
  · refine h.kp.trans ⟨BelX.of ((Below.refl _ _).grown hg (Nat.le_trans hn h.bel.size) (fun j e => by cases e; omega)), fun i o u ho h1 h2 h3 => ?_, .inl (by rw [rowOf_boxed hb2, rowOf_boxed h.box]), fun hf j hj => by rw [rowOf_boxed hb2, ← rowOf_boxed h.box] at hj; exact Nat.lt_of_lt_of_le (hf j hj) hg.size⟩
    by_cases hi : i = Bx
    · subst hi
      have h' : W1.heap[i]? = _ := hr
      have h'' : W2.heap[i]? = _ := hrb
      have e1 : ∀ o, o < 2 → W2.cell? ⟨i, o, none⟩ = W1.cell? ⟨i, o, none⟩ := fun o ho => by
        match o, ho with
        | 0, _ => simp [World.cell?, h', h'']
        | 1, _ => simp [World.cell?, h', h'']
      exact (e1 o ho).trans h3
    · exact (World.cell?_of_block (hg.block i (World.block_lt_of_cell? W1 _ h3) (fun e => hi (by injection e)))).trans h3

theorem Mid.added {w : World} {n₀ lo : Nat} {L : List Row} {v : Value} {W W1 : World} (h : Mid w n₀ lo L v W W1) (hn : n₀ ≤ w.heap.size) {L' : List Row} {v' : Value} {w2 : World} (ha : Added n₀ W1 v L' v' w2) :
    Boxed w2 (n₀ + 1 + 1) 22 v ∧ Mid w n₀ lo L' v' W (w2.setCell ⟨n₀ + 1 + 1, 0, none⟩ v') := by
  have hsz : n₀ ≤ W1.heap.size := Nat.le_trans hn h.bel.size
  have hnb := h.box.not_row (by decide) h.own
  have hb1 : Boxed w2 (n₀ + 1 + 1) 22 v := h.box.kept ha.grown hnb
  have hb2 := hb1.set v'
  have hnb2 := hb1.not_row (by decide) ha.own
  have hg2 := grownBy_setCell' w2 (n₀ + 1 + 1) v'
  have hown2 : OwnR (w2.setCell ⟨n₀ + 1 + 1, 0, none⟩ v') n₀ v' L' := World.ownsRow.kept ha.own hg2 (.inr hnb2.symm)
  have hlow : ∀ j, v.ownBlock = some j → n₀ ≤ j := fun j hj => (World.ownsRow.lt h.own j hj).1
  have hbel : Below n₀ W1 (w2.setCell ⟨n₀ + 1 + 1, 0, none⟩ v') := ((Below.refl _ _).grown ha.grown hsz hlow).setCell (by simp only; omega) _
  refine ⟨hb1, ⟨hb2, hown2, (h.r0.kept ha.grown (h.r0.not_row (by decide) h.own)).other (by omega) _, (h.r1.kept ha.grown (h.r1.not_row (by decide) h.own)).other (by omega) _, h.bel.trans hbel, ?_, ?_⟩⟩
  · refine h.kf.trans (((KeepsOthers.of_grownBy ha.grown fun j o ej hj => ?_).trans (KeepsOthers.setCell _ _ _)).from lo)
    rcases h.own.2 with ⟨rfl, _⟩ | ⟨g, cap, cur, rfl, _, hgb, _⟩
    · simp [Value.ownBlock] at ej
    · obtain rfl : g = j := by simpa [Value.ownBlock] using ej
      rw [hgb] at hj; cases hj; rfl
  · refine h.kp.trans ⟨BelX.of hbel, fun i o u ho h1 h2 h3 => ?_, ?_, fun _ j hj => ?_⟩
    · rw [rowOf_boxed h.box] at h2
      have hlt := World.block_lt_of_cell? W1 _ h3
      exact (World.cell?_of_block (Below.heap_setCell w2 _ _ i (by simp only; omega))).trans ((World.cell?_of_block (ha.grown.block i hlt h2)).trans h3)
    · rw [rowOf_boxed hb2, rowOf_boxed h.box]; exact ha.row
    · rw [rowOf_boxed hb2] at hj
      have h1 := (World.ownsRow.lt ha.own j hj).2
      have := hg2.size
      omega

/-- Between two rounds of replace. -/
def RInv (w : World) (d : List Pc) (pre : List (Str d)) (W : World) : Prop :=
  (∃ v, Boxed W (w.heap.size + 1 + 1) 22 v ∧ W.ownsRow w.heap.size 52 5 v (replL d pre).length (rcells (replL d pre)) ∧ True) ∧ (Boxed W w.heap.size 22 (.slice none 0 0) ∧ (Boxed W (w.heap.size + 1) 28 (.int .i64 0) ∧ (Below w.heap.size w W ∧ (replL d pre).length ≤ 64)))
def RInvX (w : World) (d : List Pc) (c : Code) (pre : List (Str d)) (W : World) : Prop :=
  (c = .ret ∧ 64 < (replL d pre).length) ∧ (Boxed W w.heap.size 22 (.slice none 0 0) ∧ (Boxed W (w.heap.size + 1) 28 (.int .i64 5) ∧ Below w.heap.size w W))
theorem rInv_own (w : World) (d : List Pc) (lo : Nat) (h : w.heap.size ≤ lo) : OwnFrom lo (RInv w d) :=
  OwnFrom.and (Own.from (holdsRow_own w.heap.size (w.heap.size + 1 + 1) 22 52 5 (fun pre => (replL d pre).length) (fun pre => rcells (replL d pre)) (fun _ _ => True)) _) (OwnFrom.and (Own.from (boxed_own _ _ _) _) (OwnFrom.and (Own.from (boxed_own _ _ _) _) (OwnFrom.and (ownFrom_below (Nat.le_refl _) h) (ownFrom_pure _ _))))
theorem rInvX_own (w : World) (d : List Pc) (lo : Nat) (h : w.heap.size ≤ lo) (c : Code) : OwnFrom lo (RInvX w d c) :=
  OwnFrom.and (ownFrom_pure _ _) (OwnFrom.and (Own.from (boxed_own _ _ _) _) (OwnFrom.and (Own.from (boxed_own _ _ _) _) (ownFrom_below (Nat.le_refl _) h)))

/-- The end of replace: the two results lie in their boxes. -/
theorem fin42 (w W : World) (D : Nat) (v : Value) (q : Int) (L : List Row) (hK : W.heap[D]? = some (.deferred (some []))) (hD : w.heap.size ≤ D) (b0 : Boxed W w.heap.size 22 v) (b1 : Boxed W (w.heap.size + 1) 28 (.int .i64 q)) (ho : OwnR W w.heap.size v L) (hb : Below w.heap.size w W)
    {tmps : Array Value} (h4 : tmps[4]?.getD undef = .pointer (some ⟨w.heap.size, 0, none⟩)) (h5 : tmps[5]?.getD undef = .pointer (some ⟨w.heap.size + 1, 0, none⟩)) :
    bodyPostM Fence.wide 5 Try.prog Try.f42 (fun e w' => ∃ v, e = .returned (.tuple #[v, .int .i64 q]) ∧ OwnR w' w.heap.size v L ∧ Below w.heap.size w w') .ret { tmps := tmps, defers := [{ target := .collected D, args := #[] }] } W := by
  refine ⟨by simp, .inl ⟨_, _, rfl, run_takeDeferred hK, ?_⟩⟩
  have c0 := cell_kept b0.cell (grownBy_putObj' W D (.deferred none)) (fun r e => by cases e; exact ⟨_, hK, rfl⟩)
  have c1 := cell_kept b1.cell (grownBy_putObj' W D (.deferred none)) (fun r e => by cases e; exact ⟨_, hK, rfl⟩)
  obtain ⟨vA, vc, rfl⟩ := ho.slice
  have hb' : Below w.heap.size w (W.putObj D (.deferred none)) := hb.trans (belowK_b (w := w) (Nat.le_refl _) W D _ _ hD hK rfl rfl)
  have ho' : OwnR (W.putObj D (.deferred none)) w.heap.size _ L := ownsRow_putObj ho _ hK rfl
  refine ⟨.tuple #[_, .int .i64 q], ?_, _, rfl, ho', hb'⟩
  simp [results, Try.results42, go_sem, h4, h5, c0, c1]

set_option maxRecDepth 100000 in
set_option maxHeartbeats 2000000 in
theorem replace42 (l : List Row) (d : List Pc) (lv dv : Value) (w : World) (hl : RowsAt w w.heap.size lv l) (hd : PcsAt w w.heap.size dv d) (hul : Left 0 1099511627776 l) (hud : Left 0 1099511627776 d) :
    Calls Try.prog 42 #[lv, dv] w fun e w' => ∃ v, e = .returned (.tuple #[v, .int .i64 (if (replL d (strA l d)).length ≤ 64 then 0 else 5)]) ∧ OwnR w' w.heap.size v (if (replL d (strA l d)).length ≤ 64 then replL d (strA l d) else []) ∧ Below w.heap.size w w' := by
  obtain ⟨lA, lc, rfl, hlc, hlm, hl3⟩ := id hl
  obtain ⟨dA, dc, rfl, hdc, hdm, hd3⟩ := id hd
  have HS := Lib.hid (stretches41 lA l.length lc dA d.length dc)
  clear hl3 hd3
  obtain ⟨q, hq⟩ : ∃ q : Int, (if (replL d (strA l d)).length ≤ 64 then (0 : Int) else 5) = q := ⟨_, rfl⟩
  obtain ⟨Lq, hLq⟩ : ∃ Lq, (if (replL d (strA l d)).length ≤ 64 then replL d (strA l d) else []) = Lq := ⟨_, rfl⟩
  rw [hq, hLq]
  have HQ := Lib.hid hq
  have HLQ := Lib.hid hLq
  clear hq hLq
  refine (callsIn_wide (n := 5)).1 ?_
  refine callsIn_of_wp_marks Try.func42 rfl trivial ?_ rfl
  simp only [Try.ntmps42, List.size_toArray, List.length_cons, List.length_nil, Nat.reduceAdd, Nat.reduceSub, Array.replicate_succ, Array.replicate_zero, List.push_toArray, List.append_toArray, List.nil_append, List.cons_append]
  gi_wp2_with (refine ⟨trivial, ?_⟩; gi_at_call 41; refine (callsIn_wide.2 (HS.out _)).mono ?_; rintro e w' ⟨rfl, rfl⟩)
  obtain ⟨pb, po, hpf⟩ := hd.from_
  have bA := Boxed.new w 22 (.slice none 0 0)
  have bB := Boxed.new (w.alloc (.cells #[.slice none 0 0] 22)) 28 (.int .i64 0)
  have bC := Boxed.new ((w.alloc (.cells #[.slice none 0 0] 22)).alloc (.cells #[.int .i64 0] 28)) 22 (.slice none 0 0)
  have bD := Boxed.new (((w.alloc (.cells #[.slice none 0 0] 22)).alloc (.cells #[.int .i64 0] 28)).alloc (.cells #[.slice none 0 0] 22)) 22 (.slice lA l.length lc)
  have bE := Boxed.new ((((w.alloc (.cells #[.slice none 0 0] 22)).alloc (.cells #[.int .i64 0] 28)).alloc (.cells #[.slice none 0 0] 22)).alloc (.cells #[.slice lA l.length lc] 22)) 42 (.slice dA d.length dc)
  replace bA := (((bA.alloc (.cells #[.int .i64 0] 28)).alloc (.cells #[.slice none 0 0] 22)).alloc (.cells #[.slice lA l.length lc] 22)).alloc (.cells #[.slice dA d.length dc] 42)
  replace bB := ((bB.alloc (.cells #[.slice none 0 0] 22)).alloc (.cells #[.slice lA l.length lc] 22)).alloc (.cells #[.slice dA d.length dc] 42)
  replace bC := (bC.alloc (.cells #[.slice lA l.length lc] 22)).alloc (.cells #[.slice dA d.length dc] 42)
  replace bD := bD.alloc (.cells #[.slice dA d.length dc] 42)
  simp only [World.size_alloc] at bB bC bD bE
  have hB0 : Below w.heap.size w (((((w.alloc (.cells #[.slice none 0 0] 22)).alloc (.cells #[.int .i64 0] 28)).alloc (.cells #[.slice none 0 0] 22)).alloc (.cells #[.slice lA l.length lc] 22)).alloc (.cells #[.slice dA d.length dc] 42)) :=
    (((((Below.refl _ w).alloc (Nat.le_refl _) _).alloc (by simp) _).alloc (by simp; omega) _).alloc (by simp; omega) _).alloc (by simp; omega) _
  have hsz : (((((w.alloc (.cells #[.slice none 0 0] 22)).alloc (.cells #[.int .i64 0] 28)).alloc (.cells #[.slice none 0 0] 22)).alloc (.cells #[.slice lA l.length lc] 22)).alloc (.cells #[.slice dA d.length dc] 42)).heap.size ≥ w.heap.size + 5 := by simp
  generalize ((((w.alloc (.cells #[.slice none 0 0] 22)).alloc (.cells #[.int .i64 0] 28)).alloc (.cells #[.slice none 0 0] 22)).alloc (.cells #[.slice lA l.length lc] 22)).alloc (.cells #[.slice dA d.length dc] 42) = W0 at bA bB bC bD bE hB0 hsz ⊢
  have hl0 := hl.below hB0
  have hd0 := hpf.below hB0
  have hn : w.heap.size ≤ W0.heap.size := by omega
  refine wpIn_rangeFunc_ownH rfl (by omega) (gf := 52) (lb := #[.pointer (some ⟨w.heap.size + 1 + 1 + 1, 0, none⟩), .pointer (some ⟨w.heap.size + 1 + 1 + 1 + 1, 0, none⟩)]) rfl trivial (enters_of Try.func52 (by kernel_rfl) rfl)
    (iter52 4 (by omega) (w.heap.size + 1 + 1 + 1) (w.heap.size + 1 + 1 + 1 + 1) (w.heap.size + 1 + 1) w.heap.size w.heap.size pb po l d _ _ W0 hn (by omega) (fun k hk => by rw [rowOf_boxed bC] at hk; cases hk) (Nat.le_refl _) (by omega) (fun h => by have := hpf.lt h; omega) hl0 hd0 bD.cell bE.cell hul hud)
    KpB.trans (kpB_b hn (by omega)) (Below.refl _ _) (fun _ => rfl)
    (RInv w d) (RInvX w d) (rInv_own w d _ hn) (rInvX_own w d _ hn)
    ⟨⟨_, bC, World.ownsRow_nil _ _ _ _, trivial⟩, bA, bB, hB0, by simp [replL, joins]⟩
    (fun x => AxR (w.heap.size + 1 + 1 + 1) (w.heap.size + 1 + 1) (fun Bx => { tmps := #[.slice lA l.length lc, .slice dA d.length dc, undef, undef, .pointer (some ⟨w.heap.size, 0, none⟩), .pointer (some ⟨w.heap.size + 1, 0, none⟩), .pointer (some ⟨w.heap.size + 1 + 1, 0, none⟩), .pointer (some ⟨Bx, 0, none⟩), .pointer (x.2.map fun i => ⟨pb, po + i.1 * 8, none⟩), .slice lA l.length lc, .slice dA d.length dc,
        .func (.func 52) #[] #[.pointer (some ⟨w.heap.size + 1 + 1 + 1, 0, none⟩), .pointer (some ⟨w.heap.size + 1 + 1 + 1 + 1, 0, none⟩)], rowV x.1, .pointer (x.2.map fun i => ⟨pb, po + i.1 * 8, none⟩), undef, undef, undef, undef, undef, undef, undef, undef, undef, undef, undef, undef, undef, undef, undef, undef, undef, undef], defers := [] }) x.1)
    (fun x a' => axR_own _ _ _ _ _ (by omega) _ (by omega)) ?assign ?body ?done ?stop
  case assign =>
    rintro lp pre ⟨⟨f, e, k, n, s⟩, oi⟩ W K hi hK
    unfold encS rowV
    obtain ⟨⟨v, hbx, hown, -⟩, hb0, hb1, hbel, hlen⟩ := hi
    have hlt := hbx.lt
    have HR : Hid (∀ a', a' = _ → K a' (W.alloc (.cells #[.int .i64 f, .int .i64 e, .int .i64 k, .int .i64 n, .string s] 52))) := fun a' ha =>
      hK a' _ ((KeepsOthers.alloc _ _).from _) (KpB.grown hbel.size hlt (World.grownBy_alloc _ _ none)) ⟨⟨v, hbx.alloc _, hown.alloc _, trivial⟩, hb0.alloc _, hb1.alloc _, hbel.alloc hbel.size _, hlen⟩
        ⟨W.heap.size, by omega, heap_alloc_new W _, by
          rw [rowOf_boxed (hbx.alloc _)]
          intro e
          have := (World.ownsRow.lt hown _ e.symm).2
          omega, ha⟩
    clear hK hbx hown hb0 hb1 hbel hlen
    gi_wp2
    exact HR.out _ rfl
  case body =>
    rintro lp pre ⟨⟨f, e, k, n, s⟩, oi⟩ a' W hlp ⟨rr, hrr⟩ ⟨⟨v, hbx, hown, -⟩, hb0, hb1, hbel, hlen⟩ ⟨Bx, hBx, hrb, hne, rfl⟩ hlt
    have hM0 : Mid w w.heap.size W0.heap.size (replL d pre) v W W := ⟨hbx, hown, hb0, hb1, hbel, KeepsFrom.refl _ _, KpB.refl _ _ _⟩
    have hne' : v.ownBlock ≠ some Bx := fun h => hne (by rw [rowOf_boxed hbx, h])
    have HM0 := Lib.hid hM0
    have HRB := Lib.hid hrb
    have HNE := Lib.hid hne'
    have HLEN := Lib.hid hlen
    have HSN := Lib.hid (replL_snoc d pre ((f, e, k, n, s), oi))
    obtain ⟨r0, r1, r2, r3, r4⟩ := hrb.row
    simp only [Nat.zero_add] at r0 r1 r2 r3 r4
    have hfz := hrb.frozen
    clear hM0 hne hne' hlen hbx hown hb0 hb1 hrb hlt
    unfold rowV
    simp only
    gi_upto_if 15 with fail
    gi_cut [] from 14 (fun wx => Mid w w.heap.size W0.heap.size (replL d pre) v W wx ∧ RBox wx Bx (strR d ((f, e, k, n, s), oi)))
    case first =>
      cases oi with
      | none =>
        gi_wp2_with fail
        gi_meet
        case rel => exact ⟨HM0.out, HRB.out⟩
      | some i =>
        have hp := (hpf.below HM0.out.bel).at_ i.1 i.2
        have HSV : Hid (strR d ((f, e, k, n, s), some i) = (f, e, (d[i.1]).2.2.2)) := rfl
        generalize d[i.1] = p at hp HSV
        obtain ⟨pf, pe, ⟨hk, hn', hs⟩, ⟨nk, nn, ns⟩⟩ := p
        obtain ⟨-, -, -, -, -, c5, c6, c7⟩ := hp
        simp only at c5 c6 c7
        have hpb : pb < W.heap.size := World.block_lt_of_cell? W _ c5
        have HMV := Lib.hid (HM0.out.val (Nat.le_refl _) HRB.out (by omega) HNE.out nk nn ns)
        have hBx0 : ¬ pb = Bx := by
          have := hpf.lt (by have := i.2; omega)
          omega
        gi_wp2_with fail
        gi_meet
        case rel => rw [HSV.out]; exact HMV.out
    case rest =>
      obtain ⟨hM1, hR1⟩ := hcut
      have HM1 := Lib.hid hM1
      clear HM0 HRB hfz r0 r1 r2 r3 r4
      obtain ⟨r0, r1, r2, r3, r4⟩ := hR1.row
      obtain ⟨v2, hv2⟩ : ∃ v2, strV d ((f, e, k, n, s), oi) = v2 := ⟨_, rfl⟩
      have HRR : Hid (strR d ((f, e, k, n, s), oi) = (f, e, v2)) := by unfold Hid strR; rw [hv2]
      rw [HRR.out] at r0 r1 r2 r3 r4
      rw [HRR.out] at HSN
      rw [hv2] at HSN
      obtain ⟨k2, n2, s2⟩ := v2
      simp only [Nat.zero_add] at r0 r1 r2 r3 r4
      clear hR1 hM1 hv2 HRR
      gi_upto_if 24 with fail
      gi_cut [] from 14 (fun wx => ∃ v', Mid w w.heap.size W0.heap.size (replL d (pre ++ [((f, e, k, n, s), oi)])) v' W wx)
      case first =>
        cases hkz : (k2 == 0) with
        | true =>
          have HS2 : Hid (replL d (pre ++ [((f, e, k, n, s), oi)]) = replL d pre) := by
            unfold Hid
            rw [HSN.out, if_pos (by simpa [kindZ] using hkz)]
          have hne0 : (k2 != 0) = false := by rw [bne, hkz]; rfl
          gi_wp2_with fail
          gi_meet
          case rel => exact ⟨v, by rw [HS2.out]; exact HM1.out⟩
        | false =>
          have HS2 : Hid (replL d (pre ++ [((f, e, k, n, s), oi)]) = addL (replL d pre) (f, e, k2, n2, s2)) := by
            unfold Hid
            rw [HSN.out, if_neg (by simpa [kindZ] using hkz)]
          have hne0 : (k2 != 0) = true := by rw [bne, hkz]; rfl
          have hbc := HM1.out.box.cell
          have hbf := HM1.out.box.frozen
          obtain ⟨vA, vc, rfl⟩ := HM1.out.own.slice
          have HADD := Lib.hid (addRow54 w.heap.size (replL d pre) (f, e, k2, n2, s2) _ wc HM1.out.own (Nat.le_trans (Nat.le_refl _) HM1.out.bel.size) (by have := HLEN.out; omega))
          unfold rowV at HADD
          simp only at HADD
          gi_wp2_with fail
          refine ⟨trivial, (CallsIn.inRound lp (callsIn_wide.2 HADD.out)).mono ?_⟩
          rintro ee w2 ⟨v', rfl, ha⟩
          obtain ⟨hb2, hM2⟩ := HM1.out.added (Nat.le_refl _) ha
          obtain ⟨vA2, vc2, rfl⟩ := ha.own.slice
          have HM2 := Lib.hid hM2
          have hbc2 := hb2.cell
          have hbf2 := hb2.frozen
          clear ha hM2 hb2 HADD hbc hbf
          gi_wp2_with fail
          gi_meet
          case rel => exact ⟨_, by rw [HS2.out]; exact HM2.out⟩
      case rest =>
        obtain ⟨v', hM2⟩ := hcut
        have HM2 := Lib.hid hM2
        have hbc := hM2.box.cell
        obtain ⟨vA2, vc2, rfl⟩ := hM2.own.slice
        have a0 := hM2.r0.cell
        have a1 := hM2.r1.cell
        have f0 := hM2.r0.frozen
        have f1 := hM2.r1.frozen
        clear hM2 HM1 r0 r1 r2 r3 r4 HSN
        generalize hL : replL d (pre ++ [((f, e, k, n, s), oi)]) = L at HM2 hbc ⊢
        have HL := Lib.hid hL
        clear hL
        by_cases h64 : (64 : Int) < L.length
        · have h64' : 64 < L.length := by omega
          have HIX : Hid (KeepsFrom W0.heap.size W ((wc.setCell ⟨w.heap.size, 0, none⟩ (.slice none 0 0)).setCell ⟨w.heap.size + 1, 0, none⟩ (.int .i64 5)) ∧ RInvX w d .ret (pre ++ [((f, e, k, n, s), oi)]) ((wc.setCell ⟨w.heap.size, 0, none⟩ (.slice none 0 0)).setCell ⟨w.heap.size + 1, 0, none⟩ (.int .i64 5))) :=
            ⟨HM2.out.kf.trans (((KeepsOthers.setCell _ _ _).trans (KeepsOthers.setCell _ _ _)).from _), ⟨rfl, by rw [HL.out]; exact h64'⟩, (HM2.out.r0.set _).other (by omega) _, (HM2.out.r1.other (by omega) _).set _, (HM2.out.bel.setCell (Nat.le_refl _) _).setCell (by simp only; omega) _⟩
          clear HM2
          gi_wp2
          exact HIX.out
        · have h64' : L.length ≤ 64 := by omega
          have HIX : Hid (KeepsFrom W0.heap.size W wc ∧ KpB w.heap.size (w.heap.size + 1 + 1) W wc ∧ RInv w d (pre ++ [((f, e, k, n, s), oi)]) wc) :=
            ⟨HM2.out.kf, HM2.out.kp, ⟨_, HM2.out.box, by rw [HL.out]; exact HM2.out.own, trivial⟩, HM2.out.r0, HM2.out.r1, HM2.out.bel, by rw [HL.out]; exact h64'⟩
          clear HM2
          gi_wp2
          exact HIX.out
  case done =>
    rintro D ys W hD rfl ⟨⟨v, hbx, hown, -⟩, hb0, hb1, hbel, hlen⟩ hK
    have hq0 : q = 0 := by rw [← HQ.out, if_pos hlen]
    have hL0 : Lq = replL d (strA l d) := by rw [← HLQ.out, if_pos hlen]
    subst hq0 hL0
    have hO : OwnR W w.heap.size v (replL d (strA l d)) := hown
    obtain ⟨vA, vc, rfl⟩ := hO.slice
    have hc := hbx.cell
    have a0 := hb0.cell
    have a1 := hb1.cell
    have f0 := hb0.frozen
    have f1 := hb1.frozen
    have HO := Lib.hid hO
    have HB := Lib.hid hbel
    have HK := Lib.hid hK
    have HC0 := Lib.hid hb0
    have HC1 := Lib.hid hb1
    clear hO hbel hK hown hbx hb0 hb1
    gi_wp2
    have hK2 : ((W.setCell ⟨w.heap.size, 0, none⟩ (.slice vA (replL d (strA l d)).length vc)).setCell ⟨w.heap.size + 1, 0, none⟩ (.int .i64 0)).heap[D]? = some (.deferred (some [])) := ((KeepsOthers.setCell _ _ _).trans (KeepsOthers.setCell _ _ _)).same D _ HK.out rfl
    have e0 : Boxed ((W.setCell ⟨w.heap.size, 0, none⟩ (.slice vA (replL d (strA l d)).length vc)).setCell ⟨w.heap.size + 1, 0, none⟩ (.int .i64 0)) w.heap.size 22 (.slice vA (replL d (strA l d)).length vc) := (HC0.out.set _).other (by omega) _
    have e1 : Boxed ((W.setCell ⟨w.heap.size, 0, none⟩ (.slice vA (replL d (strA l d)).length vc)).setCell ⟨w.heap.size + 1, 0, none⟩ (.int .i64 0)) (w.heap.size + 1) 28 (.int .i64 0) := (HC1.out.other (by omega) _).set _
    have ho2 : OwnR ((W.setCell ⟨w.heap.size, 0, none⟩ (.slice vA (replL d (strA l d)).length vc)).setCell ⟨w.heap.size + 1, 0, none⟩ (.int .i64 0)) w.heap.size (.slice vA (replL d (strA l d)).length vc) (replL d (strA l d)) :=
      World.ownsRow.kept (World.ownsRow.kept HO.out (grownBy_setCell' W w.heap.size _) (.inr (HC0.out.not_row (by decide) HO.out).symm)) (grownBy_setCell' _ (w.heap.size + 1) _) (.inr (HC1.out.not_row (by decide) HO.out).symm)
    have hb2 : Below w.heap.size w ((W.setCell ⟨w.heap.size, 0, none⟩ (.slice vA (replL d (strA l d)).length vc)).setCell ⟨w.heap.size + 1, 0, none⟩ (.int .i64 0)) := (HB.out.setCell (Nat.le_refl _) _).setCell (by simp only; omega) _
    generalize (W.setCell ⟨w.heap.size, 0, none⟩ (.slice vA (replL d (strA l d)).length vc)).setCell ⟨w.heap.size + 1, 0, none⟩ (.int .i64 0) = W2 at hK2 e0 e1 ho2 hb2 ⊢
    exact fin42 w W2 D _ _ _ hK2 (by omega) e0 e1 ho2 hb2 rfl rfl
  case stop =>
    rintro D c pre W hD hpre ⟨⟨rfl, hlen⟩, hb0, hb1, hbel⟩ hK
    have hlen' : ¬ (replL d (strA l d)).length ≤ 64 := by
      obtain ⟨r, hr⟩ := hpre
      have : (replL d pre).length ≤ (replL d (strA l d)).length := by
        rw [← hr]
        unfold replL joins
        rw [List.map_append, List.foldl_append]
        exact joins_length kindZ _ _
      omega
    have hq0 : q = 5 := by rw [← HQ.out, if_neg hlen']
    have hL0 : Lq = [] := by rw [← HLQ.out, if_neg hlen']
    subst hq0 hL0
    gi_wp2
    exact fin42 w W D _ _ _ hK (by omega) hb0 hb1 (OwnR.nil _ _) hbel rfl rfl
end Go.Proofs.Ytecefhoinggmgaa
