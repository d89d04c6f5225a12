/-
  Contract of span.Apply. No condition.
-/
import Derived.Test.YtecefhoinggmgaaST
import Derived.Test.YtecefhoinggmgaaSM
namespace Go.Proofs.Ytecefhoinggmgaa
open Go.RowKit Go.Shelf
attribute [local go_sem] Oper.semAt_some

def clashB (d : List Pc) (x : Str d) : Bool :=
  match x.2 with
  | some i => decide (d[i].2.2.1 ≠ x.1.2.2)
  | none => false
def applyR (l : List Row) (d : List Pc) : List Row × Int :=
  if rowsOK l && pcsOK d then
    if (strA l d).any (clashB d) then ([], 19)
    else if (replL d (strA l d)).length ≤ 64 then (replL d (strA l d), 0) else ([], 5)
  else ([], 2)

theorem pcs_up : ∀ {d : List Pc} {E : Int}, pcsFrom E d = true → Up E d ∧ ∀ p ∈ d, p.2.1 ≤ 1099511627776 ∧ p.2.2.1 ≠ p.2.2.2 ∧ mayB p.2.2.1 = true ∧ mayB p.2.2.2 = true
  | [], _, _ => ⟨trivial, fun _ h => by cases h⟩
  | p :: d, E, h => by
    rw [pcsFrom, Bool.and_eq_true] at h
    obtain ⟨h1, h2⟩ := h
    unfold pcOK at h1
    simp only [Bool.and_eq_true, Bool.not_eq_true', decide_eq_false_iff_not] at h1
    obtain ⟨a1, a2, a3, a4, a5⟩ := h1
    have a2 := isSpanB_iff.1 a2
    obtain ⟨u, hall⟩ := pcs_up h2
    refine ⟨⟨by omega, a2.2.1, u⟩, fun x hx => ?_⟩
    rcases List.mem_cons.1 hx with e | e
    · rw [e]; exact ⟨a2.2.2, a3, a4, a5⟩
    · exact hall x e
theorem pcs_left {d : List Pc} (h : pcsOK d = true) : Left 0 1099511627776 d := by
  obtain ⟨h1, h2⟩ := pcs_up h
  exact Left.of_up h1 fun x hx => (h2 x hx).1

/-- Between two rounds of Apply's first loop. -/
def AInv (w : World) (d : List Pc) (pre : List (Str d)) (W : World) : Prop :=
  Boxed W w.heap.size 22 (.slice none 0 0) ∧ (Boxed W (w.heap.size + 1) 28 (.int .i64 0) ∧ (Below w.heap.size w W ∧ pre.any (clashB d) = false))
def AInvX (w : World) (d : List Pc) (c : Code) (pre : List (Str d)) (W : World) : Prop :=
  (c = .ret ∧ pre.any (clashB d) = true) ∧ (Boxed W w.heap.size 22 (.slice none 0 0) ∧ (Boxed W (w.heap.size + 1) 28 (.int .i64 19) ∧ Below w.heap.size w W))
theorem aInv_own (w : World) (d : List Pc) (lo : Nat) (h : w.heap.size ≤ lo) : OwnFrom lo (AInv w d) :=
  OwnFrom.and (Own.from (boxed_own _ _ _) _) (OwnFrom.and (Own.from (boxed_own _ _ _) _) (OwnFrom.and (ownFrom_below (Nat.le_refl _) h) (ownFrom_pure _ _)))
theorem aInvX_own (w : World) (d : List Pc) (lo : Nat) (h : w.heap.size ≤ lo) (c : Code) : OwnFrom lo (AInvX w d c) :=
  OwnFrom.and (ownFrom_pure _ _) (OwnFrom.and (Own.from (boxed_own _ _ _) _) (OwnFrom.and (Own.from (boxed_own _ _ _) _) (ownFrom_below (Nat.le_refl _) h)))

theorem fin22 (w W : World) (D : Nat) (v : Value) (q : Int) (L : List Row) (hK : W.heap[D]? = some (.deferred (some []))) (hD : w.heap.size ≤ D) (b0 : Boxed W w.heap.size 22 v) (b1 : Boxed W (w.heap.size + 1) 28 (.int .i64 q)) (ho : OwnR W w.heap.size v L) (hb : Below w.heap.size w W)
    {tmps : Array Value} (h4 : tmps[4]?.getD undef = .pointer (some ⟨w.heap.size, 0, none⟩)) (h5 : tmps[5]?.getD undef = .pointer (some ⟨w.heap.size + 1, 0, none⟩)) :
    bodyPostM Fence.wide 5 Try.prog Try.f22 (fun e w' => ∃ v, e = .returned (.tuple #[v, .int .i64 q]) ∧ OwnR w' w.heap.size v L ∧ Below w.heap.size w w') .ret { tmps := tmps, defers := [{ target := .collected D, args := #[] }] } W := by
  refine ⟨by simp, .inl ⟨_, _, rfl, run_takeDeferred hK, ?_⟩⟩
  have c0 := cell_kept b0.cell (grownBy_putObj' W D (.deferred none)) (fun r e => by cases e; exact ⟨_, hK, rfl⟩)
  have c1 := cell_kept b1.cell (grownBy_putObj' W D (.deferred none)) (fun r e => by cases e; exact ⟨_, hK, rfl⟩)
  obtain ⟨vA, vc, rfl⟩ := ho.slice
  have hb' : Below w.heap.size w (W.putObj D (.deferred none)) := hb.trans (belowK_b (w := w) (Nat.le_refl _) W D _ _ hD hK rfl rfl)
  have ho' : OwnR (W.putObj D (.deferred none)) w.heap.size _ L := ownsRow_putObj ho _ hK rfl
  refine ⟨.tuple #[_, .int .i64 q], ?_, _, rfl, ho', hb'⟩
  simp [results, Try.results22, go_sem, h4, h5, c0, c1]

theorem fin22p (w W : World) (q : Int) (b0 : Boxed W w.heap.size 22 (.slice none 0 0)) (b1 : Boxed W (w.heap.size + 1) 28 (.int .i64 q)) (hb : Below w.heap.size w W)
    {tmps : Array Value} (h4 : tmps[4]?.getD undef = .pointer (some ⟨w.heap.size, 0, none⟩)) (h5 : tmps[5]?.getD undef = .pointer (some ⟨w.heap.size + 1, 0, none⟩)) :
    bodyPost Try.prog Try.f22 (fun e w' => ∃ v, e = .returned (.tuple #[v, .int .i64 q]) ∧ OwnR w' w.heap.size v [] ∧ Below w.heap.size w w') .ret { tmps := tmps, defers := [] } W := by
  have c0 := b0.cell
  have c1 := b1.cell
  exact bodyPost_ret (v := .tuple #[.slice none 0 0, .int .i64 q]) (by simp [results, Try.results22, go_sem, h4, h5, c0, c1]) rfl ⟨_, rfl, OwnR.nil _ _, hb⟩

/-- The two boxes of the results. -/
structure Two (w W : World) (q : Int) : Prop where
  b0 : Boxed W w.heap.size 22 (.slice none 0 0)
  b1 : Boxed W (w.heap.size + 1) 28 (.int .i64 q)
  bel : Below w.heap.size w W
theorem Two.start (w : World) : Two w ((w.alloc (.cells #[.slice none 0 0] 22)).alloc (.cells #[.int .i64 0] 28)) 0 :=
  ⟨(Boxed.new w 22 (.slice none 0 0)).alloc _, by have h := Boxed.new (w.alloc (.cells #[.slice none 0 0] 22)) 28 (.int .i64 0); simpa using h, ((Below.refl _ _).alloc (Nat.le_refl _) _).alloc (by simp) _⟩
theorem Two.lt {w W : World} {q : Int} (h : Two w W q) : w.heap.size + 1 < W.heap.size := h.b1.lt
theorem Two.step {w W W' : World} {q : Int} (h : Two w W q) (hb : Below W.heap.size W W') : Two w W' q :=
  ⟨(hb.block _ h.b0.lt).trans h.b0, (hb.block _ h.b1.lt).trans h.b1, h.bel.trans (hb.mono h.bel.size)⟩
theorem Two.set {w W : World} {q : Int} (h : Two w W q) (q' : Int) : Two w ((W.setCell ⟨w.heap.size, 0, none⟩ (.slice none 0 0)).setCell ⟨w.heap.size + 1, 0, none⟩ (.int .i64 q')) q' :=
  ⟨(h.b0.set _).other (by omega) _, (h.b1.other (by omega) _).set _, (h.bel.setCell (Nat.le_refl _) _).setCell (by simp only; omega) _⟩

set_option maxRecDepth 100000 in
set_option maxHeartbeats 2000000 in
theorem apply22 (l : List Row) (d : List Pc) (lv dv : Value) (w : World) (hl : RowsAt w w.heap.size lv l) (hd : PcsAt w w.heap.size dv d) :
    Calls Try.prog 22 #[lv, dv] w fun e w' => ∃ v, e = .returned (.tuple #[v, .int .i64 (applyR l d).2]) ∧ OwnR w' w.heap.size v (applyR l d).1 ∧ Below w.heap.size w w' := by
  have HT0 := Lib.hid (Two.start w)
  have HL0 := Lib.hid ((hl.below HT0.out.bel).more HT0.out.bel.size)
  have HD0 := Lib.hid ((hd.below HT0.out.bel).more HT0.out.bel.size)
  have HC := Lib.hid (check18 l lv _ HL0.out)
  obtain ⟨lA, lc, rfl, hlc, hlm, hl3⟩ := id hl
  obtain ⟨dA, dc, rfl, hdc, hdm, hd3⟩ := id hd
  clear hl3 hd3
  obtain ⟨ans, hans⟩ : ∃ ans, applyR l d = ans := ⟨_, rfl⟩
  rw [hans]
  have HANS := Lib.hid hans
  clear hans
  cases hok : rowsOK l with
  | false =>
    rw [hok] at HC
    have he : ans = ([], 2) := by rw [← HANS.out, applyR, hok]; rfl
    subst he
    clear hok HANS
    go_enter Try.func22, Try.ntmps22
    go_wp2_with fail
    refine HC.out.mono ?_
    rintro e' w1 ⟨rfl, hb1⟩
    have HT1 := Lib.hid (HT0.out.step hb1)
    have a0 := HT1.out.b0.cell
    have a1 := HT1.out.b1.cell
    have f0 := HT1.out.b0.frozen
    have f1 := HT1.out.b1.frozen
    have HT2 := Lib.hid (HT1.out.set 2)
    clear hb1 HT0 HL0 HD0
    go_wp2
    exact fin22p w _ 2 HT2.out.b0 HT2.out.b1 HT2.out.bel rfl rfl
  | true =>
    rw [hok] at HC
    cases hop : pcsOK d with
    | false =>
      have he : ans = ([], 2) := by rw [← HANS.out, applyR, hok, hop]; rfl
      subst he
      clear hok HANS
      go_enter Try.func22, Try.ntmps22
      go_wp2_with fail
      refine HC.out.mono ?_
      rintro e' w1 ⟨rfl, hb1⟩
      have HT1 := Lib.hid (HT0.out.step hb1)
      have HCP := Lib.hid (arePieces40 d _ w1 (HD0.out.step hb1))
      rw [hop] at HCP
      clear hb1 HT0 HL0 HD0 hop
      go_wp2_with fail
      refine HCP.out.mono ?_
      rintro e' w2 ⟨rfl, hb2⟩
      have HT3 := Lib.hid (HT1.out.step hb2)
      have a0 := HT3.out.b0.cell
      have a1 := HT3.out.b1.cell
      have f0 := HT3.out.b0.frozen
      have f1 := HT3.out.b1.frozen
      have HT2 := Lib.hid (HT3.out.set 2)
      clear hb2 HT1
      go_wp2
      exact fin22p w _ 2 HT2.out.b0 HT2.out.b1 HT2.out.bel rfl rfl
    | true =>
      have HUL := Lib.hid (left_of_ok hok)
      have HUD := Lib.hid (pcs_left hop)
      have HA2 : Hid ((if (strA l d).any (clashB d) then ([], 19) else if (replL d (strA l d)).length ≤ 64 then (replL d (strA l d), 0) else ([], 5)) = ans) := by unfold Hid; rw [← HANS.out, applyR, hok, hop]; rfl
      clear hok HANS
      refine (callsIn_wide (n := 5)).1 ?_
      refine callsIn_of_wp_marks Try.func22 rfl trivial ?_ rfl
      simp only [Try.ntmps22, List.size_toArray, List.length_cons, List.length_nil, Nat.reduceAdd, Nat.reduceSub, Array.replicate_succ, Array.replicate_zero, List.push_toArray, List.append_toArray, List.nil_append, List.cons_append]
      gi_wp2_with fail
      refine ⟨trivial, (callsIn_wide.2 HC.out).mono ?_⟩
      rintro e' w1 ⟨rfl, hb1⟩
      have HT1 := Lib.hid (HT0.out.step hb1)
      have HCP := Lib.hid (arePieces40 d _ w1 (HD0.out.step hb1))
      rw [hop] at HCP
      clear hb1 HT0 HL0 HD0 hop HC
      gi_wp2_with fail
      refine ⟨trivial, (callsIn_wide.2 HCP.out).mono ?_⟩
      rintro e' w2 ⟨rfl, hb2⟩
      have HT3 := Lib.hid (HT1.out.step hb2)
      clear hb2 HT1 HCP
      have HS := Lib.hid (stretches41 lA l.length lc dA d.length dc)
      gi_wp2_with fail
      refine ⟨trivial, (callsIn_wide.2 (HS.out _)).mono ?_⟩
      rintro e' w4 ⟨rfl, rfl⟩
      gi_wp2_with fail
      obtain ⟨pb, po, hpf⟩ := hd.from_
      have bD := (Boxed.new w2 22 (.slice lA l.length lc)).alloc (.cells #[.slice dA d.length dc] 42)
      have bE := Boxed.new (w2.alloc (.cells #[.slice lA l.length lc] 22)) 42 (.slice dA d.length dc)
      rw [World.size_alloc] at bE
      have hB2 : Below w2.heap.size w2 ((w2.alloc (.cells #[.slice lA l.length lc] 22)).alloc (.cells #[.slice dA d.length dc] 42)) := ((Below.refl _ _).alloc (Nat.le_refl _) _).alloc (by simp) _
      have hT := HT3.out.step hB2
      have hs2 : w.heap.size + 1 < w2.heap.size := HT3.out.lt
      have hsz : ((w2.alloc (.cells #[.slice lA l.length lc] 22)).alloc (.cells #[.slice dA d.length dc] 42)).heap.size ≥ w2.heap.size + 2 := by simp
      generalize (w2.alloc (.cells #[.slice lA l.length lc] 22)).alloc (.cells #[.slice dA d.length dc] 42) = W0 at bD bE hB2 hT hsz ⊢
      have hl0 : RowsAt W0 w.heap.size (.slice lA l.length lc) l := hl.below hT.bel
      have hd0 := hpf.below hT.bel
      have hn : w.heap.size ≤ W0.heap.size := by omega
      clear HS hB2 HT3
      refine wpIn_rangeFunc_ownH rfl (by omega) (gf := 52) (lb := #[.pointer (some ⟨w2.heap.size, 0, none⟩), .pointer (some ⟨w2.heap.size + 1, 0, none⟩)]) rfl trivial (enters_of Try.func52 (by kernel_rfl) rfl)
        (iter52 4 (by omega) w2.heap.size (w2.heap.size + 1) w.heap.size w.heap.size w.heap.size pb po l d _ _ W0 hn (by omega) (fun k hk => by rw [rowOf_boxed hT.b0] at hk; cases hk) (Nat.le_refl _) (Nat.le_refl _) (fun h => by have := hpf.lt h; omega) hl0 hd0 bD.cell bE.cell HUL.out HUD.out)
        KpB.trans (kpB_b hn (by omega)) (Below.refl _ _) (fun _ => rfl)
        (AInv w d) (AInvX w d) (aInv_own w d _ hn) (aInvX_own w d _ hn)
        ⟨hT.b0, hT.b1, hT.bel, rfl⟩
        (fun x => AxR (w.heap.size + 1 + 1) w.heap.size (fun Bx => { tmps := #[.slice lA l.length lc, .slice dA d.length dc, undef, undef, .pointer (some ⟨w.heap.size, 0, none⟩), .pointer (some ⟨w.heap.size + 1, 0, none⟩), .pointer (some ⟨Bx, 0, none⟩), .pointer (x.2.map fun i => ⟨pb, po + i.1 * 8, none⟩), .slice lA l.length lc, .int .i64 0, .bool false, .bool false, .slice dA d.length dc, .bool true, .bool false, .bool false, .slice lA l.length lc, .slice dA d.length dc,
            .func (.func 52) #[] #[.pointer (some ⟨w2.heap.size, 0, none⟩), .pointer (some ⟨w2.heap.size + 1, 0, none⟩)], rowV x.1, .pointer (x.2.map fun i => ⟨pb, po + i.1 * 8, none⟩), undef, undef, undef, undef, undef, undef, undef, undef, undef, undef, undef, undef, undef, undef, undef, undef], defers := [] }) x.1)
        (fun x a' => axR_own _ _ _ _ _ (by omega) _ (by omega)) ?assign ?body ?done ?stop
      case assign =>
        rintro lp pre ⟨⟨f, e, k, n, s⟩, oi⟩ W K hi hK
        unfold encS rowV
        obtain ⟨hb0, hb1, hbel, hany⟩ := hi
        have hlt := hb1.lt
        have hlt0 := hb0.lt
        have HR : Hid (∀ a', a' = _ → K a' (W.alloc (.cells #[.int .i64 f, .int .i64 e, .int .i64 k, .int .i64 n, .string s] 52))) := fun a' ha =>
          hK a' _ ((KeepsOthers.alloc _ _).from _) (KpB.grown hbel.size hlt0 (World.grownBy_alloc _ _ none)) ⟨hb0.alloc _, hb1.alloc _, hbel.alloc hbel.size _, hany⟩
            ⟨W.heap.size, by omega, heap_alloc_new W _, (fun e => by rw [rowOf_boxed (hb0.alloc _)] at e; cases e), ha⟩
        clear hK hb0 hb1 hbel hany
        gi_wp2
        exact HR.out _ rfl
      case body =>
        rintro lp pre ⟨⟨f, e, k, n, s⟩, oi⟩ a' W hlp ⟨rr, hrr⟩ ⟨hb0, hb1, hbel, hany⟩ ⟨Bx, hBx, hrb, hne, rfl⟩ hlt
        have HANY : Hid ((pre ++ [((f, e, k, n, s), oi)]).any (clashB d) = clashB d ((f, e, k, n, s), oi)) := by
          unfold Hid
          rw [List.any_append, hany]
          simp
        have HT := Lib.hid (Two.mk hb0 hb1 hbel)
        obtain ⟨r0, r1, r2, r3, r4⟩ := hrb.row
        simp only [Nat.zero_add] at r0 r1 r2 r3 r4
        have hBxl := hrb.lt
        have HGO : Hid (clashB d ((f, e, k, n, s), oi) = false → ∀ nq, KeepsFrom W0.heap.size W (W.drewN nq) ∧ KpB w.heap.size w.heap.size W (W.drewN nq) ∧ AInv w d (pre ++ [((f, e, k, n, s), oi)]) (W.drewN nq)) := by
          intro hc nq
          have hg : W.grownBy (W.drewN nq) none := ⟨rfl, rfl, rfl, Nat.le_refl _, fun _ _ _ => rfl⟩
          exact ⟨(KeepsOthers.of_grownBy hg fun j o ej hj => by cases ej).from _, KpB.grown hbel.size hb0.lt hg, hb0, hb1, below_drewN hbel _, by rw [HANY.out, hc]⟩
        clear hne hany hb0 hb1 hbel hlt
        unfold rowV
        simp only
        cases oi with
        | none =>
          have HG := Lib.hid (HGO.out rfl)
          gi_wp2_with fail
          gi_region
          all_goals (gi_wp2; exact HG.out 1)
        | some i =>
          have hp := (hpf.below HT.out.bel).at_ i.1 i.2
          have HCL : Hid (clashB d ((f, e, k, n, s), some i) = decide ((d[i.1]).2.2.1 ≠ (k, n, s))) := rfl
          have hpb : pb < W.heap.size := World.block_lt_of_cell? W _ hp.c0
          generalize d[i.1] = p at hp HCL
          obtain ⟨pf, pe, ⟨hk, hn', hs⟩, ⟨nk', nn', ns'⟩⟩ := p
          obtain ⟨-, -, c2, c3, c4, -, -, -⟩ := hp
          simp only at c2 c3 c4
          obtain ⟨t, ht⟩ : ∃ t, decide (((hk, hn', hs) : Vl) ≠ (k, n, s)) = t := ⟨_, rfl⟩
          have hneq := neqVl (hk, hn', hs) (k, n, s) t ht
          unfold valV at hneq
          simp only at hneq
          have HC2 : Hid (clashB d ((f, e, k, n, s), some i) = t) := HCL.out.trans ht
          clear ht HCL
          gi_upto_region 6 with fail
          gi_cut [31] from 21 (fun s31 wx => s31 = .bool t ∧ wx = W.drewN 1)
          case first =>
            gi_wp2_with fail
            gi_region
            all_goals (gi_wp2; gi_meet; case rel => exact ⟨rfl, rfl⟩)
          case rest =>
            obtain ⟨rfl, rfl⟩ := hcut
            cases t with
            | false =>
              have HG := Lib.hid (HGO.out HC2.out)
              gi_wp2
              exact HG.out 1
            | true =>
              have a0 : (W.drewN 1).cell? ⟨w.heap.size, 0, none⟩ = some (.slice none 0 0) := HT.out.b0.cell
              have a1 : (W.drewN 1).cell? ⟨w.heap.size + 1, 0, none⟩ = some (.int .i64 0) := HT.out.b1.cell
              have f0 : (W.drewN 1).frozen? ⟨w.heap.size, 0, none⟩ = false := HT.out.b0.frozen
              have f1 : (W.drewN 1).frozen? ⟨w.heap.size + 1, 0, none⟩ = false := HT.out.b1.frozen
              have HT2 : Hid (Two w (W.drewN 1) 0) := ⟨HT.out.b0, HT.out.b1, below_drewN HT.out.bel _⟩
              have HT3 := Lib.hid (HT2.out.set 19)
              have HIX : Hid (KeepsFrom W0.heap.size W (((W.drewN 1).setCell ⟨w.heap.size, 0, none⟩ (.slice none 0 0)).setCell ⟨w.heap.size + 1, 0, none⟩ (.int .i64 19)) ∧ AInvX w d .ret (pre ++ [((f, e, k, n, s), some i)]) (((W.drewN 1).setCell ⟨w.heap.size, 0, none⟩ (.slice none 0 0)).setCell ⟨w.heap.size + 1, 0, none⟩ (.int .i64 19))) := by
                have hg : W.grownBy (W.drewN 1) none := ⟨rfl, rfl, rfl, Nat.le_refl _, fun _ _ _ => rfl⟩
                exact ⟨(((KeepsOthers.of_grownBy hg fun j o ej hj => by cases ej).trans (KeepsOthers.setCell _ _ _)).trans (KeepsOthers.setCell _ _ _)).from _, ⟨rfl, by rw [HANY.out, HC2.out]⟩, HT3.out.b0, HT3.out.b1, HT3.out.bel⟩
              clear HT HT2 HT3
              gi_wp2
              exact HIX.out
      case done =>
        rintro D ys W hD rfl ⟨hb0, hb1, hbel, hany⟩ hK
        have hE : (if (replL d (strA l d)).length ≤ 64 then (replL d (strA l d), 0) else ([], 5)) = ans := by rw [← HA2.out, hany]; rfl
        have HE1 : Hid ((if (replL d (strA l d)).length ≤ 64 then (0 : Int) else 5) = ans.2) := by unfold Hid; rw [← hE]; split <;> rfl
        have HE2 : Hid ((if (replL d (strA l d)).length ≤ 64 then replL d (strA l d) else []) = ans.1) := by unfold Hid; rw [← hE]; split <;> rfl
        have HREP := Lib.hid (replace42 l d _ _ W ((hl.below hbel).more hbel.size) ((hd.below hbel).more hbel.size) HUL.out HUD.out)
        rw [HE1.out, HE2.out] at HREP
        obtain ⟨aL, aq⟩ := ans
        simp only at HREP
        have HT := Lib.hid (Two.mk hb0 hb1 hbel)
        have HK := Lib.hid hK
        have hKl : D < W.heap.size := lt_of_get hK
        clear hb0 hb1 hbel hany hK hE HE1 HE2
        gi_wp2_with fail
        refine ⟨trivial, (callsIn_wide.2 HREP.out).mono ?_⟩
        rintro e' w5 ⟨v5, rfl, ho5, hb5⟩
        have HT5 := Lib.hid (HT.out.step hb5)
        have a0 := HT5.out.b0.cell
        have a1 := HT5.out.b1.cell
        have f0 := HT5.out.b0.frozen
        have f1 := HT5.out.b1.frozen
        have HO5 := Lib.hid (ho5.base (show w.heap.size ≤ W.heap.size by have := HT.out.lt; omega))
        have HK5 := Lib.hid ((hb5.block D hKl).trans HK.out)
        obtain ⟨vA, vc, rfl⟩ := ho5.slice
        clear hb5 ho5 HREP
        gi_wp2
        have hK2 : ((w5.setCell ⟨w.heap.size, 0, none⟩ (.slice vA aL.length vc)).setCell ⟨w.heap.size + 1, 0, none⟩ (.int .i64 aq)).heap[D]? = some (.deferred (some [])) := ((KeepsOthers.setCell _ _ _).trans (KeepsOthers.setCell _ _ _)).same D _ HK5.out rfl
        have e0 : Boxed ((w5.setCell ⟨w.heap.size, 0, none⟩ (.slice vA aL.length vc)).setCell ⟨w.heap.size + 1, 0, none⟩ (.int .i64 aq)) w.heap.size 22 (.slice vA aL.length vc) := (HT5.out.b0.set _).other (by omega) _
        have e1 : Boxed ((w5.setCell ⟨w.heap.size, 0, none⟩ (.slice vA aL.length vc)).setCell ⟨w.heap.size + 1, 0, none⟩ (.int .i64 aq)) (w.heap.size + 1) 28 (.int .i64 aq) := (HT5.out.b1.other (by omega) _).set _
        have ho2 : OwnR ((w5.setCell ⟨w.heap.size, 0, none⟩ (.slice vA aL.length vc)).setCell ⟨w.heap.size + 1, 0, none⟩ (.int .i64 aq)) w.heap.size (.slice vA aL.length vc) aL :=
          World.ownsRow.kept (World.ownsRow.kept HO5.out (grownBy_setCell' w5 w.heap.size _) (.inr (HT5.out.b0.not_row (by decide) HO5.out).symm)) (grownBy_setCell' _ (w.heap.size + 1) _) (.inr (HT5.out.b1.not_row (by decide) HO5.out).symm)
        have hb2 : Below w.heap.size w ((w5.setCell ⟨w.heap.size, 0, none⟩ (.slice vA aL.length vc)).setCell ⟨w.heap.size + 1, 0, none⟩ (.int .i64 aq)) := (HT5.out.bel.setCell (Nat.le_refl _) _).setCell (by simp only; omega) _
        generalize (w5.setCell ⟨w.heap.size, 0, none⟩ (.slice vA aL.length vc)).setCell ⟨w.heap.size + 1, 0, none⟩ (.int .i64 aq) = W2 at hK2 e0 e1 ho2 hb2 ⊢
        exact fin22 w W2 D _ _ _ hK2 (by omega) e0 e1 ho2 hb2 rfl rfl
      case stop =>
        rintro D c pre W hD hpre ⟨⟨rfl, hany⟩, hb0, hb1, hbel⟩ hK
        have he : ans = ([], 19) := by
          obtain ⟨r, hr⟩ := hpre
          rw [← HA2.out, ← hr, List.any_append, hany]; rfl
        subst he
        gi_wp2
        exact fin22 w W D _ _ _ hK (by omega) hb0 hb1 (OwnR.nil _ _) hbel rfl rfl
end Go.Proofs.Ytecefhoinggmgaa
