/-
  The contract of span.Diff. No condition.
-/
import Derived.Test.YtecefhoinggmgaaSM
import Derived.Test.YtecefhoinggmgaaSP
import Derived.Maps.OwnIn
namespace Go.Proofs.Ytecefhoinggmgaa
open Go.RowKit Go.Shelf
attribute [local go_sem] Oper.semAt_some

/-! ### Pieces that a call owns -/
def pcC (p : Pc) : List Value := [.int .i64 p.1, .int .i64 p.2.1, .int .i64 p.2.2.1.1, .int .i64 p.2.2.1.2.1, .string p.2.2.1.2.2, .int .i64 p.2.2.2.1, .int .i64 p.2.2.2.2.1, .string p.2.2.2.2.2]
def pcells (l : List Pc) : List Value := l.flatMap pcC
theorem pcells_cons (r : Pc) (l : List Pc) : pcells (r :: l) = pcC r ++ pcells l := rfl
theorem pcells_append (a b : List Pc) : pcells (a ++ b) = pcells a ++ pcells b := by simp [pcells]
theorem pcells_get : ∀ (l : List Pc) (i j : Nat) (h : i < l.length), j < 8 → (pcells l)[i * 8 + j]? = (pcC l[i])[j]?
  | r :: l, 0, j, _, hj => by
    rw [pcells_cons, List.getElem?_append_left (by show _ < 8; omega), Nat.zero_mul, Nat.zero_add]; rfl
  | r :: l, i + 1, j, h, hj => by
    rw [pcells_cons, List.getElem?_append_right (by show 8 ≤ _; omega)]
    have := pcells_get l i j (by simpa using h) hj
    rw [show (i + 1) * 8 + j - (pcC r).length = i * 8 + j by show (i + 1) * 8 + j - 8 = _; omega, this]; rfl

def OwnP (w : World) (n₀ : Nat) (v : Value) (l : List Pc) : Prop := w.ownsRow n₀ 44 8 v l.length (pcells l)
theorem OwnP.pcs {w : World} {n₀ : Nat} {v : Value} {l : List Pc} (h : OwnP w n₀ v l) : PcsAt w w.heap.size v l := by
  rcases h.2 with ⟨rfl, h0⟩ | ⟨g, cap, cur, rfl, hb, hg, hnc, hcm, _, htake⟩
  · exact ⟨none, 0, by rw [h0], by omega, Nat.zero_le _, fun hl => by omega⟩
  · refine ⟨some ⟨g, 0, none⟩, cap, rfl, hnc, hcm, fun _ => ⟨g, 0, rfl, (Array.getElem?_eq_some_iff.1 hg).1, fun i hi => ?_⟩⟩
    have hc : ∀ j, j < 8 → w.cell? ⟨g, 0 + i * 8 + j, none⟩ = (pcC l[i])[j]? := fun j hj => by
      rw [Nat.zero_add, cell_of_row w g (i * 8 + j) cur 44 (0, 0) hg, ← pcells_get l i j hi hj, ← htake, List.getElem?_take, if_pos (by omega), Array.getElem?_toList]
    exact ⟨hc 0 (by omega), hc 1 (by omega), hc 2 (by omega), hc 3 (by omega), hc 4 (by omega), hc 5 (by omega), hc 6 (by omega), hc 7 (by omega)⟩
theorem OwnP.nil (w : World) (n₀ : Nat) : OwnP w n₀ (.slice none 0 0) [] := World.ownsRow_nil w n₀ 44 8
theorem OwnP.slice {w : World} {n₀ : Nat} {v : Value} {l : List Pc} (h : OwnP w n₀ v l) : ∃ A cap, v = .slice A l.length cap := by
  rcases h.2 with ⟨rfl, h0⟩ | ⟨g, cap, _, rfl, _⟩
  · exact ⟨none, 0, by rw [h0]⟩
  · exact ⟨_, cap, rfl⟩
theorem OwnP.base {w : World} {n₀ n₁ : Nat} {v : Value} {l : List Pc} (h : OwnP w n₀ v l) (hn : n₁ ≤ n₀) : OwnP w n₁ v l := by
  refine ⟨h.1, ?_⟩
  rcases h.2 with h0 | ⟨g, cap, cur, e, hb, rest⟩
  · exact .inl h0
  · exact .inr ⟨g, cap, cur, e, Nat.le_trans hn hb, rest⟩
theorem OwnP.below {w w' : World} {n₀ : Nat} {v : Value} {l : List Pc} (h : OwnP w n₀ v l) (hb : Below w.heap.size w w') : OwnP w' n₀ v l :=
  World.ownsRow.kept h (grown_of_below hb none) (by cases v.ownBlock <;> simp)

/-! ### What is found -/
def nowOf (d : List Pc) (x : Str d) : Vl :=
  match x.2 with
  | some i => d[i].2.2.2
  | none => vz
def foundOf (d : List Pc) (x : Str d) : Pc := (x.1.1, x.1.2.1, x.1.2.2, nowOf d x)
def pcDiff (p : Pc) : Bool := decide (p.2.2.1 ≠ p.2.2.2)
def diffL (d : List Pc) (S : List (Str d)) : List Pc := (S.map (foundOf d)).filter pcDiff
theorem diffL_snoc (d : List Pc) (S : List (Str d)) (x : Str d) : diffL d (S ++ [x]) = if pcDiff (foundOf d x) then diffL d S ++ [foundOf d x] else diffL d S := by
  unfold diffL
  rw [List.map_append, List.filter_append]
  simp only [List.map_cons, List.map_nil, List.filter_cons, List.filter_nil]
  split <;> simp
theorem diffL_length (d : List Pc) (S : List (Str d)) : (diffL d S).length ≤ S.length := by
  unfold diffL
  exact Nat.le_trans (List.length_filter_le _ _) (by simp)
def diffR (a b : List Row) : List Pc := if rowsOK a && rowsOK b then diffL (b.map asPc) (strA a (b.map asPc)) else []

theorem strN_length (d : List Pc) : ∀ (fuel : Nat) (a : Int) (rows : List Row) (pi : Nat), (strN d fuel a rows pi).length ≤ fuel
  | 0, _, _, _ => by simp [strN]
  | f + 1, a, rows, pi => by
    rw [strN]
    split
    · simp
    · rw [List.length_cons]
      have := strN_length d f (nxt2 a rows (d.drop pi)) (cutAt (nxt2 a rows (d.drop pi)) rows) (piNext d (nxt2 a rows (d.drop pi)) pi)
      omega

theorem ownFrom_belX {β : Type} {n₀ B lo : Nat} {w₀ : World} (hn : n₀ ≤ w₀.heap.size) (hB : n₀ ≤ lo) : OwnFrom lo (fun (_ : β) W => BelX n₀ B w₀ W) :=
  fun _ X Y row hs hg hr => ⟨hg.os.trans hs.os, hg.tape.trans hs.tape, hg.output.trans hs.output, Nat.le_trans hs.size hg.size, fun k h1 h2 =>
    (hg.block k (by have := hs.size; omega) (fun e => by have := (hr k e.symm).1; omega)).trans (hs.block k h1 h2)⟩

/-- The middle of a round of Diff. -/
structure MidD (w1 W0 : World) (n₀ B lo : Nat) (L : List Pc) (v : Value) (W W1 : World) : Prop where
  box : Boxed W1 B 42 v
  own : OwnP W1 n₀ v L
  bel : Below w1.heap.size w1 W1
  belx : BelX n₀ B W0 W1
  kf : KeepsFrom lo W W1
  kp : KpB n₀ B W W1

theorem MidD.grown {w1 W0 : World} {n₀ B lo : Nat} {L : List Pc} {v : Value} {W W1 W2 : World} (h : MidD w1 W0 n₀ B lo L v W W1) (hg : W1.grownBy W2 none) (hn : n₀ ≤ W0.heap.size) : MidD w1 W0 n₀ B lo L v W W2 :=
  ⟨h.box.kept hg (by simp), World.ownsRow.kept h.own hg (by cases v.ownBlock <;> simp), h.bel.grown hg h.bel.size (fun k e => by cases e),
   ⟨hg.os.trans h.belx.os, hg.tape.trans h.belx.tape, hg.output.trans h.belx.output, Nat.le_trans h.belx.size hg.size, fun k h1 h2 => (hg.block k (by have := h.belx.size; omega) (by simp)).trans (h.belx.block k h1 h2)⟩,
   h.kf.trans ((KeepsOthers.of_grownBy hg fun j o ej => by cases ej).from lo), h.kp.trans (KpB.grown (Nat.le_trans hn h.belx.size) h.box.lt hg)⟩

theorem MidD.added {w1 W0 : World} {n₀ B lo : Nat} {L L' : List Pc} {v v' : Value} {W W1 w2 : World} (h : MidD w1 W0 n₀ B lo L v W W1) (hn : n₀ ≤ W0.heap.size) (hB : w1.heap.size ≤ B) (hB' : w1.heap.size ≤ n₀)
    (ho : OwnP w2 n₀ v' L') (hg : W1.grownBy w2 v.ownBlock) (hrow : v'.ownBlock = v.ownBlock ∨ ∃ k, v'.ownBlock = some k ∧ W1.heap.size ≤ k) :
    Boxed w2 B 42 v ∧ MidD w1 W0 n₀ B lo L' v' W (w2.setCell ⟨B, 0, none⟩ v') := by
  have hsz : n₀ ≤ W1.heap.size := Nat.le_trans hn h.belx.size
  have hnb := h.box.not_row (by decide) h.own
  have hb1 : Boxed w2 B 42 v := h.box.kept hg hnb
  have hb2 := hb1.set v'
  have hnb2 := hb1.not_row (by decide) ho
  have hg2 := grownBy_setCell' w2 B v'
  have hown2 : OwnP (w2.setCell ⟨B, 0, none⟩ v') n₀ v' L' := World.ownsRow.kept ho hg2 (.inr hnb2.symm)
  have hlow : ∀ j, v.ownBlock = some j → n₀ ≤ j := fun j hj => (World.ownsRow.lt h.own j hj).1
  have hbx : BelX n₀ B W1 (w2.setCell ⟨B, 0, none⟩ v') :=
    ⟨hg.os, hg.tape, hg.output, by have := hg.size; have := hg2.size; omega, fun k h1 h2 => (Below.heap_setCell w2 _ _ k h2).trans (hg.block k (by omega) (fun e => by have := hlow k e.symm; omega))⟩
  refine ⟨hb1, ⟨hb2, hown2, (h.bel.grown hg h.bel.size (fun j hj => Nat.le_trans hB' (hlow j hj))).setCell hB _, h.belx.trans hbx, ?_, ?_⟩⟩
  · refine h.kf.trans (((KeepsOthers.of_grownBy hg fun j o ej hj => ?_).trans (KeepsOthers.setCell _ _ _)).from lo)
    rcases h.own.2 with ⟨rfl, _⟩ | ⟨g, cap, cur, rfl, _, hgb, _⟩
    · simp [Value.ownBlock] at ej
    · obtain rfl : g = j := by simpa [Value.ownBlock] using ej
      rw [hgb] at hj; cases hj; rfl
  · refine h.kp.trans ⟨hbx, fun i o u ho' h1 h2 h3 => ?_, ?_, fun _ j hj => ?_⟩
    · rw [rowOf_boxed h.box] at h2
      have hlt := World.block_lt_of_cell? W1 _ h3
      exact (World.cell?_of_block (Below.heap_setCell w2 _ _ i h1)).trans ((World.cell?_of_block (hg.block i hlt h2)).trans h3)
    · rw [rowOf_boxed hb2, rowOf_boxed h.box]; exact hrow
    · rw [rowOf_boxed hb2] at hj
      have h1 := (World.ownsRow.lt ho j hj).2
      have := hg2.size
      omega

def DInv (w1 W0 : World) (n₀ B : Nat) (d : List Pc) (pre : List (Str d)) (W : World) : Prop :=
  (∃ v, Boxed W B 42 v ∧ W.ownsRow n₀ 44 8 v (diffL d pre).length (pcells (diffL d pre)) ∧ True) ∧ (Below w1.heap.size w1 W ∧ BelX n₀ B W0 W)
theorem dInv_own (w1 W0 : World) (n₀ B : Nat) (d : List Pc) (lo : Nat) (h1 : w1.heap.size ≤ lo) (h2 : n₀ ≤ W0.heap.size) (h3 : n₀ ≤ lo) : OwnFrom lo (DInv w1 W0 n₀ B d) :=
  OwnFrom.and (Own.from (holdsRow_own n₀ B 42 44 8 (fun pre => (diffL d pre).length) (fun pre => pcells (diffL d pre)) (fun _ _ => True)) _) (OwnFrom.and (ownFrom_below (Nat.le_refl _) h1) (ownFrom_belX h2 h3))

/-- The block of the piece that a round builds. -/
structure FB (W : World) (f e hk hn : Int) (hs : ByteArray) (k n : Int) (s : ByteArray) (W1 : World) : Prop where
  blk : W1.heap[W.heap.size]? = some (.cells #[.int .i64 f, .int .i64 e, .int .i64 hk, .int .i64 hn, .string hs, .int .i64 k, .int .i64 n, .string s] 44 (0, 0))
  grown : W.grownBy W1 none
theorem FB.cell {W : World} {f e hk hn : Int} {hs : ByteArray} {k n : Int} {s : ByteArray} {W1 : World} (h : FB W f e hk hn hs k n s W1) : PcAt W1 W.heap.size 0 (f, e, (hk, hn, hs), (k, n, s)) := by
  have h' := h.blk
  exact ⟨by simp [World.cell?, h'], by simp [World.cell?, h'], by simp [World.cell?, h'], by simp [World.cell?, h'], by simp [World.cell?, h'], by simp [World.cell?, h'], by simp [World.cell?, h'], by simp [World.cell?, h']⟩
theorem FB.start (W : World) (f e hk hn : Int) (hs : ByteArray) (k n : Int) (s : ByteArray) : FB W f e hk hn hs k n s (W.alloc (.cells #[.int .i64 f, .int .i64 e, .int .i64 hk, .int .i64 hn, .string hs, .int .i64 k, .int .i64 n, .string s] 44)) := ⟨heap_alloc_new W _, World.grownBy_alloc W _ none⟩

theorem left_asPc {b : List Row} (h : rowsOK b = true) : Left 0 1099511627776 (b.map asPc) := by
  have hl := left_of_ok h
  have up : ∀ (l : List Row) (lo : Int), Up lo l → Up lo (l.map asPc) := by
    intro l
    induction l with
    | nil => intro lo _; trivial
    | cons r rs ih => intro lo hu; exact ⟨hu.1, hu.2.1, ih _ hu.2.2⟩
  cases b with
  | nil => trivial
  | cons r rs =>
    obtain ⟨h1, h2, h3, h4⟩ := hl
    refine ⟨h1, h2, up _ _ h3, fun x hx => ?_⟩
    have : x ∈ (r :: rs).map asPc := hx
    obtain ⟨y, hy, rfl⟩ := List.mem_map.1 this
    exact h4 y hy

set_option maxRecDepth 100000 in
set_option maxHeartbeats 2000000 in
theorem diff25 (a b : List Row) (av bv : Value) (w : World) (ha : RowsAt w w.heap.size av a) (hb : RowsAt w w.heap.size bv b) :
    Calls Try.prog 25 #[av, bv] w fun e w' => ∃ v, e = .returned v ∧ OwnP w' w.heap.size v (diffR a b) ∧ Below w.heap.size w w' := by
  obtain ⟨i0, hi, hz0, hz1, hz2⟩ := info_parts Try.info44
  obtain ⟨ans, hans⟩ : ∃ ans, diffR a b = ans := ⟨_, rfl⟩
  rw [hans]
  have HANS := Lib.hid hans
  have HA := Lib.hid ha
  have HB := Lib.hid hb
  have HCA := Lib.hid (check18 a av w ha)
  obtain ⟨aA, ac, rfl, hac, ham, -⟩ := ha
  obtain ⟨bA, bc, rfl, hbc, hbm, -⟩ := hb
  clear hans
  cases hoa : rowsOK a with
  | false =>
    rw [hoa] at HCA
    have he : ans = [] := by rw [← HANS.out, diffR, hoa]; rfl
    subst he
    clear hoa HANS
    go_enter Try.func25, Try.ntmps25
    go_wp2_with fail
    refine HCA.out.mono ?_
    rintro e' w1 ⟨rfl, hb1⟩
    have HB1 := Lib.hid hb1
    clear hb1
    go_wp2
    go_ret
    exact ⟨_, rfl, OwnP.nil _ _, HB1.out⟩
  | true =>
    rw [hoa] at HCA
    cases hob : rowsOK b with
    | false =>
      have he : ans = [] := by rw [← HANS.out, diffR, hoa, hob]; rfl
      subst he
      clear hoa HANS
      go_enter Try.func25, Try.ntmps25
      go_wp2_with fail
      refine HCA.out.mono ?_
      rintro e' w1 ⟨rfl, hb1⟩
      have HCB := Lib.hid (check18 b _ w1 (HB.out.step hb1))
      rw [hob] at HCB
      have HB1 := Lib.hid hb1
      clear hb1 hob
      go_wp2_with fail
      refine HCB.out.mono ?_
      rintro e' w2 ⟨rfl, hb2⟩
      have HB2 := Lib.hid (HB1.out.trans (hb2.mono HB1.out.size))
      clear hb2
      go_wp2
      go_ret
      exact ⟨_, rfl, OwnP.nil _ _, HB2.out⟩
    | true =>
      have HE : Hid (diffL (b.map asPc) (strA a (b.map asPc)) = ans) := by unfold Hid; rw [← HANS.out, diffR, hoa, hob]; rfl
      have HLA := Lib.hid (left_of_ok hoa)
      have HLB := Lib.hid (left_asPc hob)
      have hal : a.length ≤ 64 := ((rowsOK_iff a).1 hoa).1
      have hbl : b.length ≤ 64 := ((rowsOK_iff b).1 hob).1
      have hdl : (b.map asPc).length ≤ 64 := by simpa using hbl
      have HAPP := Lib.hid fun (lv : Value) (W : World) (h : RowsAt W W.heap.size lv b) => asPieces45 b lv W h hbl
      generalize b.map asPc = d at HE HLB hdl HAPP
      clear HANS hoa
      refine (callsIn_wide (n := 5)).1 ?_
      refine callsIn_of_wp_marks Try.func25 rfl trivial ?_ rfl
      simp only [Try.ntmps25, List.size_toArray, List.length_cons, List.length_nil, Nat.reduceAdd, Nat.reduceSub, Array.replicate_succ, Array.replicate_zero, List.push_toArray, List.append_toArray, List.nil_append, List.cons_append]
      gi_wp2_with fail
      refine ⟨trivial, (callsIn_wide.2 HCA.out).mono ?_⟩
      rintro e' w1 ⟨rfl, hb1⟩
      have HCB := Lib.hid (check18 b _ w1 (HB.out.step hb1))
      rw [hob] at HCB
      have HB1 := Lib.hid hb1
      clear hb1 hob
      gi_wp2_with fail
      refine ⟨trivial, (callsIn_wide.2 HCB.out).mono ?_⟩
      rintro e' w2 ⟨rfl, hb2⟩
      have HB2 := Lib.hid (HB1.out.trans (hb2.mono HB1.out.size))
      clear hb2 HB1 HCA HCB
      have hal2 : Below w2.heap.size w2 (w2.alloc (.cells #[.slice none 0 0] 42)) := (Below.refl _ _).alloc (Nat.le_refl _) _
      have HAP := Lib.hid (HAPP.out _ (w2.alloc (.cells #[.slice none 0 0] 42)) (((HB.out.below HB2.out).more HB2.out.size).step hal2))
      have HAL2 := Lib.hid hal2
      clear hal2
      gi_wp2_with fail
      refine ⟨trivial, (callsIn_wide.2 HAP.out).mono ?_⟩
      rintro e' w3 ⟨dv, rfl, hpc, hnew, hb3⟩
      obtain ⟨dA, dc, rfl, hdc, hdm, -⟩ := id hpc
      have HS := Lib.hid (stretches41 aA a.length ac dA d.length dc)
      gi_wp2_with fail
      refine ⟨trivial, (callsIn_wide.2 (HS.out _)).mono ?_⟩
      rintro e' w4 ⟨rfl, rfl⟩
      gi_wp2_with fail
      obtain ⟨pb, po, hpf⟩ := hpc.from_
      have hpB : 0 < d.length → pb ≠ w2.heap.size := fun h0 => by
        obtain ⟨A', c', e1, -, -, e2⟩ := hpf.ex
        injection e1 with e3 e4 e5
        have h := hnew dA d.length dc rfl pb (po + 0 * 8) (by rw [e3]; exact e2 h0)
        rw [World.size_alloc] at h
        omega
      have bB : Boxed w3 w2.heap.size 42 (.slice none 0 0) := (hb3.block w2.heap.size (by rw [World.size_alloc]; omega)).trans (Boxed.new w2 42 (.slice none 0 0))
      have bD := Boxed.new w3 22 (.slice aA a.length ac)
      have bE := Boxed.new (w3.alloc (.cells #[.slice aA a.length ac] 22)) 42 (.slice dA d.length dc)
      replace bB := (bB.alloc (.cells #[.slice aA a.length ac] 22)).alloc (.cells #[.slice dA d.length dc] 42)
      replace bD := bD.alloc (.cells #[.slice dA d.length dc] 42)
      rw [World.size_alloc] at bE
      have hB3 : Below w3.heap.size w3 ((w3.alloc (.cells #[.slice aA a.length ac] 22)).alloc (.cells #[.slice dA d.length dc] 42)) := ((Below.refl _ _).alloc (Nat.le_refl _) _).alloc (by simp) _
      have hs3 : w2.heap.size + 1 ≤ w3.heap.size := by have := hb3.size; rw [World.size_alloc] at this; exact this
      have hB2 : Below w2.heap.size w2 ((w3.alloc (.cells #[.slice aA a.length ac] 22)).alloc (.cells #[.slice dA d.length dc] 42)) := (HAL2.out.trans (hb3.mono (by rw [World.size_alloc]; omega))).trans (hB3.mono (by omega))
      have hs2 : w.heap.size ≤ w2.heap.size := HB2.out.size
      have hsz : ((w3.alloc (.cells #[.slice aA a.length ac] 22)).alloc (.cells #[.slice dA d.length dc] 42)).heap.size ≥ w3.heap.size + 2 := by simp
      generalize (w3.alloc (.cells #[.slice aA a.length ac] 22)).alloc (.cells #[.slice dA d.length dc] 42) = W0 at bB bD bE hB3 hB2 hsz ⊢
      have hl0 : RowsAt W0 w.heap.size (.slice aA a.length ac) a := (HA.out.below HB2.out).below (hB2.mono hs2)
      have hd0 := hpf.below hB3
      have hn : w3.heap.size ≤ W0.heap.size := by omega
      have HLEN : Hid (∀ pre : List (Str d), pre.length < (strA a d).length → (diffL d pre).length ≤ 1000) := fun pre h => by
        have h1 := diffL_length d pre
        have h2 : (strA a d).length ≤ _ := strN_length d _ _ _ _
        omega
      clear HS HAP HAPP hpc hnew HAL2 hb3 hpf hB3
      refine wpIn_rangeFunc_ownH rfl (by omega) (gf := 52) (lb := #[.pointer (some ⟨w3.heap.size, 0, none⟩), .pointer (some ⟨w3.heap.size + 1, 0, none⟩)]) rfl trivial (enters_of Try.func52 (by kernel_rfl) rfl)
        (iter52 4 (by omega) w3.heap.size (w3.heap.size + 1) w2.heap.size w3.heap.size w.heap.size pb po a d _ _ W0 hn (by omega) (fun k hk => by rw [rowOf_boxed bB] at hk; cases hk) (by omega) hs2 hpB hl0 hd0 bD.cell bE.cell HLA.out HLB.out)
        KpB.trans (kpB_b hn (by omega)) (Below.refl _ _) (fun _ => rfl)
        (DInv w2 W0 w3.heap.size w2.heap.size d) (fun _ _ _ => False) (dInv_own w2 W0 _ _ d _ (by omega) hn hn) (fun _ _ _ _ _ h _ _ => h)
        ⟨⟨_, bB, World.ownsRow_nil _ _ _ _, trivial⟩, hB2, BelX.refl _ _ _⟩
        (fun x => AxR (w2.heap.size + 1) w2.heap.size (fun Bx => { tmps := #[.slice aA a.length ac, .slice bA b.length bc, undef, undef, .slice none 0 0, .pointer (some ⟨w2.heap.size, 0, none⟩), .pointer (some ⟨Bx, 0, none⟩), .pointer (x.2.map fun i => ⟨pb, po + i.1 * 8, none⟩), undef, .slice aA a.length ac, .int .i64 0, .bool false, .bool false, .slice bA b.length bc, .int .i64 0, .bool false, .bool false, .slice aA a.length ac, .slice bA b.length bc, .slice dA d.length dc,
            .func (.func 52) #[] #[.pointer (some ⟨w3.heap.size, 0, none⟩), .pointer (some ⟨w3.heap.size + 1, 0, none⟩)], rowV x.1, .pointer (x.2.map fun i => ⟨pb, po + i.1 * 8, none⟩), undef, undef, undef, undef, undef, undef, undef, undef, undef, undef, undef, undef, undef, undef, undef, undef, undef, undef, undef, undef, undef, undef, undef, undef], defers := [] }) x.1)
        (fun x a' => axR_own _ _ _ _ _ (by omega) _ (by omega)) ?assign ?body ?done ?stop
      case assign =>
        rintro lp pre ⟨⟨f, e, k, n, s⟩, oi⟩ W K hi' hK
        unfold encS rowV
        obtain ⟨⟨v, hbx, hown, -⟩, hbel, hbelx⟩ := hi'
        have hlt := hbx.lt
        have hg := World.grownBy_alloc W (.cells #[.int .i64 f, .int .i64 e, .int .i64 k, .int .i64 n, .string s] 52) none
        have HR : Hid (∀ a', a' = _ → K a' (W.alloc (.cells #[.int .i64 f, .int .i64 e, .int .i64 k, .int .i64 n, .string s] 52))) := fun a' ha' =>
          hK a' _ ((KeepsOthers.alloc _ _).from _) (KpB.grown (Nat.le_trans hn hbelx.size) hlt hg) ⟨⟨v, hbx.alloc _, hown.alloc _, trivial⟩, hbel.alloc hbel.size _, hbelx.trans ⟨rfl, rfl, rfl, by simp, fun k h1 _ => hg.block k (by have := hbelx.size; omega) (by simp)⟩⟩
            ⟨W.heap.size, by omega, heap_alloc_new W _, by
              rw [rowOf_boxed (hbx.alloc _)]
              intro e
              have := (World.ownsRow.lt hown _ e.symm).2
              omega, ha'⟩
        clear hK hbx hown hbel hbelx hg
        gi_wp2
        exact HR.out _ rfl
      case body =>
        rintro lp pre ⟨⟨f, e, k, n, s⟩, oi⟩ a' W hlp ⟨rr, hrr⟩ ⟨⟨v, hbx, hown, -⟩, hbel, hbelx⟩ ⟨Bx, hBx, hrb, hne, rfl⟩ hlt
        have hM0 : MidD w2 W0 w3.heap.size w2.heap.size W0.heap.size (diffL d pre) v W W := ⟨hbx, hown, hbel, hbelx, KeepsFrom.refl _ _, KpB.refl _ _ _⟩
        have HM0 := Lib.hid hM0
        have HL := HLEN.out pre hlt
        have HSN := Lib.hid (diffL_snoc d pre ((f, e, k, n, s), oi))
        have hBxl := hrb.lt
        obtain ⟨r0, r1, r2, r3, r4⟩ := hrb.row
        simp only [Nat.zero_add] at r0 r1 r2 r3 r4
        obtain ⟨nv, hnv⟩ : ∃ nv, nowOf d ((f, e, k, n, s), oi) = nv := ⟨_, rfl⟩
        have HNV := Lib.hid hnv
        obtain ⟨nk, nn, ns⟩ := nv
        have HFO : Hid (foundOf d ((f, e, k, n, s), oi) = (f, e, (k, n, s), (nk, nn, ns))) := by unfold Hid foundOf; rw [hnv]
        clear hM0 hne hbx hown hbel hbelx hrb hlt hnv
        unfold rowV
        simp only
        gi_upto_if 31 with fail
        gi_cut [] from 23 (fun wx => FB W f e k n s nk nn ns wx)
        case first =>
          cases oi with
          | none =>
            have hv : (nk, nn, ns) = vz := HNV.out.symm
            injection hv with h1 h2
            injection h2 with h2 h3
            subst h1 h2 h3
            gi_wp2_with fail
            gi_meet
            case rel => exact FB.start _ _ _ _ _ _ _ _ _
          | some i =>
            have hp := (hd0.keptX HM0.out.belx hpB).at_ i.1 i.2
            have HSV : Hid ((d[i.1]).2.2.2 = (nk, nn, ns)) := HNV.out
            have hpb : pb < W.heap.size := World.block_lt_of_cell? W _ hp.c0
            generalize d[i.1] = p at hp HSV
            obtain ⟨pf, pe, ⟨hk, hn', hs⟩, ⟨nk', nn', ns'⟩⟩ := p
            have hv : (nk', nn', ns') = (nk, nn, ns) := HSV.out
            injection hv with h1 h2
            injection h2 with h2 h3
            subst h1 h2 h3
            obtain ⟨-, -, -, -, -, c5, c6, c7⟩ := hp
            simp only at c5 c6 c7
            gi_wp2_with fail
            gi_meet
            case rel => exact FB.start _ _ _ _ _ _ _ _ _
        case rest =>
          have HFB := Lib.hid hcut
          obtain ⟨q0, q1, q2, q3, q4, q5, q6, q7⟩ := hcut.cell
          simp only [Nat.zero_add] at q0 q1 q2 q3 q4 q5 q6 q7
          clear hcut
          have HM1 := Lib.hid (HM0.out.grown HFB.out.grown hn)
          obtain ⟨t, ht⟩ : ∃ t, decide (((k, n, s) : Vl) ≠ (nk, nn, ns)) = t := ⟨_, rfl⟩
          have hneq := neqVl (k, n, s) (nk, nn, ns) t ht
          unfold valV at hneq
          simp only at hneq
          have HPD : Hid (pcDiff (foundOf d ((f, e, k, n, s), oi)) = t) := by unfold Hid pcDiff; rw [HFO.out]; exact ht
          clear ht HM0 r0 r1 r2 r3 r4
          cases t with
          | false =>
            have HIX : Hid (KeepsFrom W0.heap.size W wc ∧ KpB w3.heap.size w2.heap.size W wc ∧ DInv w2 W0 w3.heap.size w2.heap.size d (pre ++ [((f, e, k, n, s), oi)]) wc) := by
              have e1 : diffL d (pre ++ [((f, e, k, n, s), oi)]) = diffL d pre := by rw [HSN.out, HPD.out]; rfl
              exact ⟨HM1.out.kf, HM1.out.kp, ⟨v, HM1.out.box, by rw [e1]; exact HM1.out.own, trivial⟩, HM1.out.bel, HM1.out.belx⟩
            gi_wp2
            exact HIX.out
          | true =>
            have hbc := HM1.out.box.cell
            have hbf := HM1.out.box.frozen
            obtain ⟨vA, vc, rfl⟩ := HM1.out.own.slice
            have hwz : W0.heap.size ≤ wc.heap.size := HM1.out.belx.size
            gi_wp2_with (gi_at_builtin; go_must (refine wpListIn_append_own_at _ rfl _ _ 42 rfl w3.heap.size 44 i0 _ 8 80 Try.underlying42 hi hz0 hz1 hz2 rfl (by omega) _ (diffL d pre).length (pcells (diffL d pre)) rfl ?own ⟨wc.heap.size, 0, none⟩ 1 1 (pcC (f, e, (k, n, s), (nk, nn, ns))) rfl rfl ?news ?one ?c3 ?c4 ?c5 ?_))
            case own => exact World.ownsRow.alloc HM1.out.own _
            case news =>
              refine World.news_of_block (cs := #[.int .i64 f, .int .i64 e, .int .i64 k, .int .i64 n, .string s, .int .i64 nk, .int .i64 nn, .string ns]) (t := 44) (fr := (0, 0)) ?_
              exact heap_alloc_new wc _
            case one => simp [pcC, Value.oneCell']
            case c3 => unfold maxLen; omega
            case c4 => omega
            case c5 => first | omega | (simp; omega)
            rintro v' w5 ho hg hnil hat
            have ho' : OwnP w5 w3.heap.size v' (diffL d (pre ++ [((f, e, k, n, s), oi)])) := by
              have e1 : diffL d (pre ++ [((f, e, k, n, s), oi)]) = diffL d pre ++ [(f, e, (k, n, s), (nk, nn, ns))] := by rw [HSN.out, HPD.out, HFO.out]; rfl
              unfold OwnP
              rw [e1, List.length_append, pcells_append]
              exact ho
            have hat' : v'.ownBlock = Value.ownBlock (.slice vA (diffL d pre).length vc) ∨ ∃ k, v'.ownBlock = some k ∧ wc.heap.size ≤ k := by
              rcases hat with h | h
              · exact .inl h
              · exact .inr ⟨_, h, by omega⟩
            have hg' := grown_trans_none (World.grownBy_alloc wc (.cells #[.int .i64 f, .int .i64 e, .int .i64 k, .int .i64 n, .string s, .int .i64 nk, .int .i64 nn, .string ns] 44) none) hg
            obtain ⟨hb5, hM5⟩ := HM1.out.added hn (Nat.le_refl _) (by omega) ho' hg' hat'
            obtain ⟨vA2, vc2, rfl⟩ := ho'.slice
            have HIX : Hid (KeepsFrom W0.heap.size W (w5.setCell ⟨w2.heap.size, 0, none⟩ (.slice vA2 (diffL d (pre ++ [((f, e, k, n, s), oi)])).length vc2)) ∧ KpB w3.heap.size w2.heap.size W (w5.setCell ⟨w2.heap.size, 0, none⟩ (.slice vA2 (diffL d (pre ++ [((f, e, k, n, s), oi)])).length vc2)) ∧ DInv w2 W0 w3.heap.size w2.heap.size d (pre ++ [((f, e, k, n, s), oi)]) (w5.setCell ⟨w2.heap.size, 0, none⟩ (.slice vA2 (diffL d (pre ++ [((f, e, k, n, s), oi)])).length vc2))) :=
              ⟨hM5.kf, hM5.kp, ⟨_, hM5.box, hM5.own, trivial⟩, hM5.bel, hM5.belx⟩
            have hbc5 := hb5.cell
            have hbf5 := hb5.frozen
            clear ho hg hnil hat ho' hat' hg' hM5 hb5 hbc hbf
            gi_wp2
            exact HIX.out
      case done =>
        rintro D ys W hD rfl ⟨⟨v, hbx, hown, -⟩, hbel, hbelx⟩ hK
        have hO : OwnP W w3.heap.size v (diffL d (strA a d)) := hown
        have HO : Hid (OwnP W w.heap.size v ans) := by unfold Hid; rw [← HE.out]; exact hO.base (by omega)
        have hc := hbx.cell
        obtain ⟨vA, vc, rfl⟩ := hO.slice
        have HBE := Lib.hid (HB2.out.trans (hbel.mono hs2))
        have HK := Lib.hid hK
        clear hbx hown hbel hbelx hO hK
        gi_wp2
        refine ⟨by simp, .inl ⟨_, _, rfl, run_takeDeferred HK.out, ?_⟩⟩
        have hpo : OwnP (W.putObj D (.deferred none)) w.heap.size (.slice vA (diffL d (strA a d)).length vc) ans := ownsRow_putObj HO.out _ HK.out rfl
        exact ⟨_, results_tmp rfl _ _ _, .slice vA (diffL d (strA a d)).length vc, rfl, hpo, HBE.out.trans (belowK_b (w := w) (Nat.le_refl _) W D _ _ (by omega) HK.out rfl rfl)⟩
      case stop =>
        rintro D c pre W _ _ h _
        exact h.elim
end Go.Proofs.Ytecefhoinggmgaa
