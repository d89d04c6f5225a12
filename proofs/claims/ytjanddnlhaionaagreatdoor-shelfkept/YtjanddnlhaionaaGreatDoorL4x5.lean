/-
  The contract of copyOf. No condition but bounds on lengths. The contracts of List and of CellPuts. No condition but that no cell that came in is frozen.
-/
import Derived.Test.YtjanddnlhaionaaGreatDoorL4x4
set_option maxRecDepth 100000
namespace Go.Proofs.YtjanddnlhaionaaGreatDoor.L4
open Go.RowKit
variable {lo : Nat}

theorem cntL_len (l : List C) : l.length ≤ cntL l := by
  induction l with
  | nil => simp
  | cons x l ih => rw [cntL_cons, List.length_cons, cntC_l]; omega

/-- What copyOf comes to. -/
def CopyTo (lo B : Nat) (w0 : World) (l0 : List C) (e : Ending) (w' : World) : Prop := ∃ A n cap D, e = .returned (.slice A n cap) ∧ LIn w' (SS lo B w0 w') D (.slice A n cap) l0 ∧ Below w0.heap.size w0 w'

theorem CopyK.start {B : Nat} {w0 : World} {l0 : List C} {v : Value} {d : Nat} (hB : B ≤ w0.heap.size) (h : LNF lo w0 B d v l0) :
    CopyK lo B w0 l0 (1 + cntL l0) (.slice (some ⟨w0.heap.size + 1, 0, none⟩) 1 1) ((w0.alloc (.cells #[v] 36)).alloc (.cells #[.pointer (some ⟨w0.heap.size, 0, none⟩), .int .i64 0, .pointer none] 257)) := by
  have hb : Below w0.heap.size w0 ((w0.alloc (.cells #[v] 36)).alloc (.cells #[.pointer (some ⟨w0.heap.size, 0, none⟩), .int .i64 0, .pointer none] 257)) := ((Below.refl _ w0).alloc (Nat.le_refl _) _).alloc (by simp) _
  have hr : ((w0.alloc (.cells #[v] 36)).alloc (.cells #[.pointer (some ⟨w0.heap.size, 0, none⟩), .int .i64 0, .pointer none] 257)).heap[w0.heap.size]? = some (.cells #[v] 36 (0, 0)) := by
    rw [Below.heap_alloc _ _ _ (by simp)]; exact heap_alloc_new w0 _
  refine ⟨hb, ⟨[⟨w0.heap.size, 0, 0, none, l0⟩], ?_, List.pairwise_singleton _ _, ?_, by simp⟩, Nat.le_refl _, ⟨v, d, hr, h.lin hB hb⟩⟩
  · intro x hx
    rw [List.mem_singleton] at hx
    subst hx
    exact ⟨Nat.le_refl _, ⟨_, 36, v, d, hr, .inl rfl, rfl, h⟩, (fun a ha => by cases ha), by simp⟩
  · exact ⟨rfl, .inr ⟨w0.heap.size + 1, 1, _, rfl, Nat.le_refl _, heap_alloc2_new w0 _ _, Nat.le_refl _, by unfold maxLen; omega, rfl, rfl⟩⟩

/-- The work grew, and nothing else turned. -/
theorem CopyK.grown {B : Nat} {w0 w5 w7 : World} {l0 : List C} {its : List PI} {init : List PI} {gw cw : Nat} {s4 : Value} (hB : B ≤ w0.heap.size) (hb : Below w0.heap.size w0 w5) (hit : ∀ y ∈ its, PIok lo B w0 w5 (1 + cntL l0) y) (hpw : its.Pairwise (fun x y => ¬ (x.qb = y.qb ∧ x.qo = y.qo)))
    (hcut : w5.ownsRow (w0.heap.size + 1) 257 3 (.slice (some ⟨gw, 0, none⟩) init.length cw) init.length (init.flatMap piC)) (ho : ∃ v D, w5.heap[w0.heap.size]? = some (.cells #[v] 36 (0, 0)) ∧ LIn w5 (SS lo B w0 w5) D v l0)
    (how : w7.ownsRow (w0.heap.size + 1) 257 3 s4 its.length (its.flatMap piC)) (hg : w5.grownBy w7 (some gw)) (hsm : (its.map (fun x => 1 + cntL x.l)).sum ≤ 1 + cntL l0) (hgw : w0.heap.size + 1 ≤ gw) : CopyK lo B w0 l0 ((its.map (fun x => 1 + cntL x.l)).sum) s4 w7 := by
  obtain ⟨csw, h73⟩ := own73 hcut (g := gw) rfl
  obtain ⟨v, D, h1, h2⟩ := ho
  have hz := hb.size
  have hne : ∀ b, SS lo B w0 w5 b → b ≠ gw := by
    intro b hS e
    subst e
    rcases hS with h | ⟨_, cs, h⟩
    · have := h.1; omega
    · rw [h73] at h
      injection h with h
      injection h with _ h
      cases h
  refine ⟨hb.trans ⟨hg.os, hg.tape, hg.output, hg.size, fun i hi => hg.block i (by omega) (fun e => by injection e; omega)⟩, ⟨its, fun y hy => (hit y hy).keep (hg.block _ (hit y hy).lt (fun e => ?_)), hpw, how, rfl⟩, hsm, ⟨v, D, ?_, ?_⟩⟩
  · obtain ⟨row, T, v, d, h3, h4, _⟩ := (hit y hy).place
    injection e with e
    rw [e, h73] at h3
    injection h3 with h3
    injection h3 with _ h3
    rcases h4 with h4 | h4 <;> rw [h4] at h3 <;> cases h3
  · rw [hg.block _ (Array.getElem?_eq_some_iff.1 h1).1 (fun e => by injection e; omega)]
    exact h1
  · refine h2.keep (fun b hS => ?_) fun b o hS => cell_same (hg.block b (hS.lt hB hz) (fun e => hne b hS (by injection e))) o
    rcases hS with h | ⟨h0, cs, h⟩
    · exact .inl h
    · exact .inr ⟨h0, cs, (hg.block b (Array.getElem?_eq_some_iff.1 h).1 (fun e => hne b (.inr ⟨h0, cs, h⟩) (by injection e))).trans h⟩

set_option maxHeartbeats 6400000 in
theorem copyOf29 (B : Nat) (l0 : List C) (v : Value) (d : Nat) (w0 : World) (hB : B ≤ w0.heap.size) (h : LNF lo w0 B d v l0) (hcnt : cntL l0 ≤ 5000) : Calls Tryz.prog 140 #[v] w0 (CopyTo lo B w0 l0) := by
  have HS0 := Lib.hid (CopyK.start hB h)
  obtain ⟨A0, cap0, rfl⟩ := h.slice
  obtain ⟨ln0, hln0⟩ : ∃ x, l0.length = x := ⟨_, rfl⟩
  rw [hln0] at HS0 ⊢
  clear h hln0
  go_enter Tryz.func140, Tryz.ntmps140
  go_wp2_with fail
  go_loopg [4] (1 + cntL l0) (fun gk s4 wr => Hid (CopyK lo B w0 l0 gk s4 wr))
  case atStart => exact HS0
  case round =>
    have HK := hrel
    clear hrel HS0
    obtain ⟨its, hit, hpw, how, hsum⟩ := HK.out.items
    obtain ⟨v1, D1, hout, hread⟩ := HK.out.out
    have hbel := HK.out.below
    have hsm := HK.out.small
    have hlen := sum_length its
    rcases List.eq_nil_or_concat its with rfl | ⟨init, x, hcon⟩
    · obtain ⟨A4, cap4, hs4⟩ : ∃ A4 cap4, u4 = .slice A4 0 cap4 := by
        rcases how.2 with ⟨h1, h2⟩ | ⟨g, cp, _, h1, _⟩
        · exact ⟨none, 0, h1⟩
        · exact ⟨_, cp, h1⟩
      subst hs4
      obtain ⟨A1, cap1, rfl⟩ := hread.slice
      have o0 : wr.cell? ⟨w0.heap.size, 0, none⟩ = some (.slice A1 l0.length cap1) := cell_of_row wr _ 0 _ 36 (0, 0) hout
      have HE : Hid (CopyTo lo B w0 l0 (.returned (.slice A1 l0.length cap1)) wr) := ⟨A1, l0.length, cap1, D1, rfl, hread, hbel⟩
      obtain ⟨ln, hln⟩ : ∃ x, l0.length = x := ⟨_, rfl⟩
      rw [hln] at o0 HE
      clear hit hpw how hsum hout hread hbel hsm hlen HK hln
      go_wp2_with fail
      go_ret
      exact HE.out
    · rw [List.concat_eq_append] at hcon
      subst hcon
      obtain ⟨gw, cw, hs4, hgw, hcl, hcm⟩ : ∃ gw cw, u4 = .slice (some ⟨gw, 0, none⟩) (init.length + 1) cw ∧ gw < wr.heap.size ∧ init.length ≤ cw ∧ cw ≤ maxLen := by
        rcases how.2 with ⟨h1, h2⟩ | ⟨g, cp, _, h1, _, h2, h3, h4, _⟩
        · simp at h2
        · exact ⟨g, cp, by rw [h1]; simp, (Array.getElem?_eq_some_iff.1 h2).1, by simp at h3; omega, h4⟩
      unfold maxLen at hcm
      subst hs4
      have hcw := how.cells (g := gw) rfl
      have hxc : ∀ j, j < 3 → ((init ++ [x]).flatMap piC)[init.length * 3 + j]? = (piC x)[j]? := fun j hj => by
        rw [List.flatMap_append, List.getElem?_append_right (by rw [pic_length]; omega), pic_length, show init.length * 3 + j - init.length * 3 = j by omega]
        simp
      have c0 : wr.cell? ⟨gw, init.length * 3, none⟩ = some (.pointer (some ⟨x.qb, x.qo, none⟩)) := by
        have := hcw (init.length * 3 + 0) _ ((hxc 0 (by omega)).trans rfl)
        rw [addr_add] at this
        simpa using this
      have c1 : wr.cell? ⟨gw, init.length * 3 + 1, none⟩ = some (.int .i64 x.dep) := by
        have := hcw (init.length * 3 + 1) _ ((hxc 1 (by omega)).trans rfl)
        rw [addr_add] at this
        simpa using this
      have c2 : wr.cell? ⟨gw, init.length * 3 + 2, none⟩ = some (.pointer x.ab) := by
        have := hcw (init.length * 3 + 2) _ ((hxc 2 (by omega)).trans rfl)
        rw [addr_add] at this
        simpa using this
      clear hcw hxc
      have hil : init.length ≤ 5000 := by rw [hsum] at hlen; simp at hlen; omega
      obtain ⟨wc, hwc⟩ : ∃ wc, wr.alloc (.cells #[.pointer (some ⟨x.qb, x.qo, none⟩), .int .i64 x.dep, .pointer x.ab] 257) = wc := ⟨_, rfl⟩
      have hcz : wc.heap.size = wr.heap.size + 1 := by rw [← hwc]; simp
      have hch : ∀ i, i < wr.heap.size → wc.heap[i]? = wr.heap[i]? := fun i hi => by rw [← hwc]; exact Below.heap_alloc _ _ _ hi
      have hbc : Below w0.heap.size w0 wc := by rw [← hwc]; exact hbel.alloc hbel.size _
      have hitc : ∀ y ∈ init ++ [x], PIok lo B w0 wc (1 + cntL l0) y := fun y hy => (hit y hy).keep (hch _ (hit y hy).lt)
      have hoc : wc.heap[w0.heap.size]? = some (.cells #[v1] 36 (0, 0)) := (hch _ (Array.getElem?_eq_some_iff.1 hout).1).trans hout
      have hrc : LIn wc (SS lo B w0 wc) D1 v1 l0 := hread.keep (fun b hb => by
          rcases hb with hb | ⟨h0, cs, hb⟩
          · exact .inl hb
          · exact .inr ⟨h0, cs, (hch b (Array.getElem?_eq_some_iff.1 hb).1).trans hb⟩) fun b o hb => cell_same (hch b (hb.lt hB hbel.size)) o
      have howc : wc.ownsRow (w0.heap.size + 1) 257 3 (.slice (some ⟨gw, 0, none⟩) (init.length + 1) cw) (init.length + 1) ((init ++ [x]).flatMap piC) := by
        rw [← hwc]
        have := World.ownsRow.alloc how (.cells #[.pointer (some ⟨x.qb, x.qo, none⟩), .int .i64 x.dep, .pointer x.ab] 257)
        rw [List.length_append] at this
        exact this
      have hx := hitc x (by simp)
      obtain ⟨row, T, v, dd, hQ, hT, hQo, hlnf⟩ := hx.place
      obtain ⟨csw, hgw73⟩ := own73 howc (g := gw) rfl
      have hgq : gw ≠ x.qb := fun e => by
        rw [e, hQ] at hgw73
        injection hgw73 with h1
        injection h1 with _ h2
        rcases hT with h3 | h3 <;> rw [h3] at h2 <;> cases h2
      have hgeb : w0.heap.size + 1 ≤ gw := (howc.lt gw rfl).1
      have HWC := Lib.hid hwc
      by_cases hx0 : x.l.length = 0
      · have hxl : x.l = [] := List.length_eq_zero_iff.1 hx0
        obtain ⟨Ax, cx, rfl⟩ := hlnf.slice
        rw [hx0] at hQo hlnf
        rw [hxl] at hlnf
        have hC := separate39_nil x.qb x.qo x.dep x.ab T row Ax cx wc hQ hQo
        rw [← hwc] at hC
        have HC := Lib.hid hC
        have HOUT := Lib.hid (nil_out (X := .cells #[.pointer (some ⟨x.qb, x.qo, none⟩), .int .i64 x.dep, .pointer x.ab] 257) hB hbc hQ hQo hlnf hoc hrc)
        have HIT := Lib.hid (nil_items (X := .cells #[.pointer (some ⟨x.qb, x.qo, none⟩), .int .i64 x.dep, .pointer x.ab] 257) hitc hpw hQ)
        have hzz : ((wc.setCell ⟨x.qb, x.qo, none⟩ (.slice none 0 0)).alloc (.cells #[.pointer (some ⟨x.qb, x.qo, none⟩), .int .i64 x.dep, .pointer x.ab] 257)).heap.size = wc.heap.size + 1 := by simp [World.setCell]
        have HNX : Hid (CopyK lo B w0 l0 (gk - 1) (.slice (some ⟨gw, 0, none⟩) init.length cw) ((wc.setCell ⟨x.qb, x.qo, none⟩ (.slice none 0 0)).alloc (.cells #[.pointer (some ⟨x.qb, x.qo, none⟩), .int .i64 x.dep, .pointer x.ab] 257))) := by
          have h1 := hsum
          rw [List.map_append, List.sum_append] at h1
          simp only [List.map_cons, List.map_nil, List.sum_cons, List.sum_nil, hxl, cntL_nil] at h1
          refine ⟨(hbc.setCell (p := ⟨x.qb, x.qo, none⟩) hx.ge _).alloc (by simp [World.setCell]; exact hbc.size) _, ⟨init, HIT.out.1, HIT.out.2, ?_, by omega⟩, by omega, HOUT.out⟩
          rw [List.flatMap_append] at howc
          exact World.ownsRow.alloc (World.ownsRow.kept (ownsRow_cut howc (pic_length init)) (grown_set wc x.qb x.qo _) (.inr (fun e => hgq (by injection e)))) _
        have hgk : 0 < gk := by rw [List.length_append] at hlen; simp at hlen; rw [← hsum]; simp; omega
        clear hit hpw how hsum hout hread hbel hsm hlen HK hC HOUT HIT hwc hcz hch hbc hitc hoc hrc howc hx hQ hQo hlnf hgw73 hgq hgeb hzz hx0
        go_wp2_with fail
        refine HC.out.mono ?_
        rintro e w5 ⟨rfl, rfl⟩
        rw [HWC.out]
        generalize (wc.setCell ⟨x.qb, x.qo, none⟩ (.slice none 0 0)).alloc (.cells #[.pointer (some ⟨x.qb, x.qo, none⟩), .int .i64 x.dep, .pointer x.ab] 257) = w5 at HNX ⊢
        go_wp2_with fail
        go_roundg (gk - 1)
        case measure => omega
        case rel => exact HNX
      · have hxp : 0 < x.l.length := by omega
        obtain ⟨dd, rfl⟩ : ∃ e, dd = e + 1 := by cases dd with | zero => exact hlnf.elim | succ e => exact ⟨e, rfl⟩
        have hlnf0 := hlnf
        obtain ⟨D, b, o, cap, hDl, hv, hbB, hDc, hDr⟩ := hlnf.rows hxp
        subst hv
        obtain ⟨dd, rfl⟩ : ∃ e, dd = e + 1 := by
          have hD0 : 0 < D.length := by rw [← List.length_map (f := (·.1)), hDl]; exact hxp
          cases dd with
          | zero => exact (hDr 0 hD0).2.2.2.elim
          | succ e => exact ⟨e, rfl⟩
        have hD0 : 0 < D.length := by rw [← List.length_map (f := (·.1)), hDl]; exact hxp
        have hDn : D.length ≤ 5000 := by
          have h1 := hx.deep
          have h2 : D.length ≤ cntL x.l := by rw [← hDl, ← List.length_map (f := (·.1))]; exact cntL_len _
          omega
        have hC := separate39 x.qb x.qo x.dep x.ab T row b o cap D wc hQ hQo hD0 hDn (by have := hx.deep; omega)
          (fun i hi => (hDr i hi).1.keep fun o' => cell_same (hbc.block b (by omega)) o') (fun i hi => (hDr i hi).2.2.2.slice)
          (fun i hi => (World.frozen?_of_block (a := ⟨b, o + i * 4, none⟩) (hbc.block b (show b < w0.heap.size by omega))).trans (hDr i hi).2.2.1)
          ⟨by have := hbc.size; omega, by have := hx.ge; omega⟩
          (fun a ha => by
            obtain ⟨h1, cs, t, fr, h2⟩ := hx.above a ha
            exact ⟨by have := hbc.size; omega, by have := hx.ge; omega, cs, t, fr, (hbc.block _ h1).trans h2⟩)
        rw [← hwc] at hC
        have HC := Lib.hid hC
        have HDW : Hid (∀ i (h : i < D.length), Wf D[i].1 ∧ LNF lo w0 B (dd + 1) D[i].2 D[i].1.l) := fun i hi => ⟨(hDr i hi).2.1, (hDr i hi).2.2.2⟩
        have HOUT : Hid (∀ (c k : Nat) (ins : Value) (w' : World), D.length ≤ c → c ≤ maxLen → SepK wc x.qb x.qo T row x.dep x.ab D b o c k ins w' → ∃ v1 D1, w'.heap[w0.heap.size]? = some (.cells #[v1] 36 (0, 0)) ∧ LIn w' (SS lo B w0 w') D1 v1 l0) := fun c k ins w' h1 h2 hS =>
          sep_out (d := dd) (d0 := dd + 1 + 1) (D0 := D1) hB hS hbc hx.ge hQ hQo (by rw [hDl]; exact hlnf0) h1 h2 HDW.out hoc hrc
        have HNX : Hid (∀ (c : Nat) (ins : Value) (w' : World), SepK wc x.qb x.qo T row x.dep x.ab D b o c D.length ins w' → _) := fun c ins w' hS =>
          CopyK.next (d := dd) hbc hitc hpw hS hQ hT hDl (by omega) (fun i hi => ⟨(hDr i hi).1, (hDr i hi).2.2.2⟩)
        have HBB : Hid (∀ (c k : Nat) (ins : Value) (w' : World), SepK wc x.qb x.qo T row x.dep x.ab D b o c k ins w' → Below w0.heap.size w0 w') := fun c k ins w' hS => sep_below hS hbc hx.ge
        have HCUT : Hid (∀ (c k : Nat) (ins : Value) (w' : World), SepK wc x.qb x.qo T row x.dep x.ab D b o c k ins w' → w'.ownsRow (w0.heap.size + 1) 257 3 (.slice (some ⟨gw, 0, none⟩) init.length cw) init.length (init.flatMap piC)) := fun c k ins w' hS => by
          rw [List.flatMap_append] at howc
          exact World.ownsRow.kept (ownsRow_cut howc (pic_length init)) hS.grown (.inr (fun e => hgq (by injection e)))
        have hwz := hbc.size
        have HSUM := Lib.hid hsum
        have hgwc : gw < wc.heap.size := by omega
        clear hit hpw how hsum hout hread hbel hlen HK hC hwc hcz hch hbc hitc hoc hrc howc hx hQ hQo hlnf hlnf0 hgw73 hDr hx0 hxp
        go_wp2_with fail
        refine HC.out.mono ?_
        rintro e w5 ⟨ins', t, ins, c, k, rfl, hc1, hc2, hk, hS, ht⟩
        rw [HWC.out] at hS
        have HS := Lib.hid hS
        have HT := Lib.hid ht
        have HC1 := Lib.hid hc1
        have HC2 := Lib.hid hc2
        clear hS ht hc1 hc2 HC
        cases t with
        | true =>
          obtain ⟨v2, D2, ho2, hr2⟩ := HOUT.out c k ins w5 HC1.out HC2.out HS.out
          have hb2 := HBB.out c k ins w5 HS.out
          obtain ⟨A2, cap2, rfl⟩ := hr2.slice
          have o0 : w5.cell? ⟨w0.heap.size, 0, none⟩ = some (.slice A2 l0.length cap2) := cell_of_row w5 _ 0 _ 36 (0, 0) ho2
          have HE : Hid (CopyTo lo B w0 l0 (.returned (.slice A2 l0.length cap2)) w5) := ⟨A2, l0.length, cap2, D2, rfl, hr2, hb2⟩
          obtain ⟨ln, hln⟩ : ∃ x, l0.length = x := ⟨_, rfl⟩
          rw [hln] at o0 HE
          clear ho2 hr2 hb2 hln HOUT HNX HBB HCUT HS HT
          go_wp2_with fail
          go_ret
          exact HE.out
        | false =>
          obtain ⟨rfl, rfl⟩ := HT.out rfl
          obtain ⟨its2, hi2, ho2, hn2, hit2, hpw2, hsum2⟩ := HNX.out c ins' w5 HS.out
          have hout2 := HOUT.out c D.length ins' w5 HC1.out HC2.out HS.out
          have hb2 := HBB.out c D.length ins' w5 HS.out
          have hcut := HCUT.out c D.length ins' w5 HS.out
          have hslt := HS.out.lt
          rw [HSUM.out] at hsum2
          by_cases hits : its2 = []
          · have hins := hn2 hits
            subst hins hits
            have HNX2 : Hid (CopyK lo B w0 l0 ((init.map (fun x => 1 + cntL x.l)).sum) (.slice (some ⟨gw, 0, none⟩) init.length cw) w5) := by
              rw [List.map_nil, List.append_nil] at hit2 hpw2 hsum2
              exact ⟨hb2, ⟨init, hit2, hpw2, hcut, rfl⟩, by omega, hout2⟩
            rw [List.map_nil, List.append_nil] at hsum2
            have HS2 := Lib.hid hsum2
            clear hi2 ho2 hn2 hit2 hpw2 hsum2 hout2 hb2 hcut hslt HOUT HNX HBB HCUT HS HT
            go_wp2_with fail
            go_roundg ((init.map (fun x => 1 + cntL x.l)).sum)
            case measure => exact HS2.out
            case rel => exact HNX2
          · obtain ⟨gi, ci, hins⟩ : ∃ gi ci, ins' = .slice (some ⟨gi, 0, none⟩) its2.length ci := by
              rcases ho2.2 with ⟨h1, h2⟩ | ⟨g, cp, _, h1, _⟩
              · exact absurd (List.length_eq_zero_iff.1 h2) hits
              · exact ⟨g, cp, h1⟩
            subst hins
            have hN : its2.length ≤ 5000 := hi2.len hDn
            have hN0 : 0 < its2.length := List.length_pos_iff.2 hits
            have HN : Hid (∀ (g c7 : Nat) (w7 : World), w7.ownsRow (w0.heap.size + 1) 257 3 (.slice (some ⟨g, 0, none⟩) (init.length + its2.length) c7) (init.length + its2.length) (init.flatMap piC ++ icells (wc.heap.size + 1) x.dep its2) → w5.grownBy w7 (some gw) →
                CopyK lo B w0 l0 (((init ++ its2.map (newPI (wc.heap.size + 1) x.dep D)).map (fun x => 1 + cntL x.l)).sum) (.slice (some ⟨g, 0, none⟩) (init.length + its2.length) c7) w7) := fun g c7 w7 ho7 hg7 =>
              CopyK.grown hB hb2 hit2 hpw2 hcut hout2 (by rw [List.length_append, List.length_map, List.flatMap_append, newPI_cells]; exact ho7) hg7 (by omega) hgeb
            have HOW := Lib.hid hcut
            have HNW := Lib.hid (ho2.cells (g := gi) rfl)
            have HON : Hid (∀ u ∈ icells (wc.heap.size + 1) x.dep its2, u.oneCell' = true) := by
              intro u hu
              obtain ⟨y, _, hu⟩ := List.mem_flatMap.1 hu
              simp only [itemC, List.mem_cons, List.not_mem_nil, or_false] at hu
              rcases hu with rfl | rfl | rfl <;> rfl
            have HIL := Lib.hid ho2.1
            have HS2 := Lib.hid hsum2
            have hw5 : w0.heap.size + 1 ≤ w5.heap.size := by omega
            obtain ⟨i3, hi3, hz03, hz13, hz23⟩ := info73
            obtain ⟨N, hNN⟩ : ∃ N, its2.length = N := ⟨_, rfl⟩
            rw [hNN] at hN hN0 HN HIL ⊢
            clear hi2 ho2 hn2 hit2 hpw2 hsum2 hout2 hb2 hcut hslt HOUT HNX HBB HCUT HS HT hits hNN
            go_wp2_with (at_builtin; go_must (refine wpList_append_lies _ rfl _ _ 258 rfl (w0.heap.size + 1) 257 i3 _ 3 24 Tryz.underlying258 hi3 hz03 hz13 hz23 rfl (by omega) _ init.length (init.flatMap piC) rfl HOW.out ⟨gi, 0, none⟩ N ci (icells (wc.heap.size + 1) x.dep its2) rfl HIL.out HNW.out HON.out hN0 ?c3 ?c4 hw5 _ rfl ?_))
            case c3 => unfold maxLen; omega
            case c4 => omega
            rintro g c7 w7 ho7 hg7 hgl7 hlt7
            have HF := Lib.hid (HN.out g c7 w7 ho7 hg7)
            clear ho7 hg7 hgl7 HN HOW HNW HON HIL
            go_wp2_with fail
            go_roundg (((init ++ its2.map (newPI (wc.heap.size + 1) x.dep D)).map (fun x => 1 + cntL x.l)).sum)
            case measure => exact HS2.out
            case rel => exact HF
end Go.Proofs.YtjanddnlhaionaaGreatDoor.L4
namespace Go.Proofs.YtjanddnlhaionaaGreatDoor.L4
open Go.RowKit
variable {lo : Nat}

theorem LIn.lnf {w : World} {S : Nat → Prop} {B : Nat} (hS : ∀ b, S b → b < B ∧ Unf lo w b ∧ ∀ o, w.frozen? ⟨b, o, none⟩ = false) : ∀ {d : Nat} {v : Value} {l : List C}, LIn w S d v l → LNF lo w B d v l
  | 0, _, _, h => h
  | d + 1, v, l, h => by
    obtain ⟨A, cap, rfl, h1, h2, h3⟩ := h
    refine ⟨A, cap, rfl, h1, h2, fun hl => ?_⟩
    obtain ⟨b, o, rfl, hb, hr⟩ := h3 hl
    refine ⟨b, o, rfl, (hS b hb).1, fun i hi => ?_⟩
    obtain ⟨u, r, f, s⟩ := hr i hi
    exact ⟨u, r, f, (hS b hb).2.1, (hS b hb).2.2 _, LIn.lnf hS s⟩

set_option maxHeartbeats 1600000 in
theorem list18L (l : List C) (v : Value) (d : Nat) (w : World) (h : LNF lo w w.heap.size d v l) (hcnt : cntL l ≤ 5000) (hlo : lo ≤ w.heap.size) :
    Calls Tryz.prog 89 #[v] w fun e w' => ∃ A n cap D, e = .returned (.agg #[.int .i64 3, .int .i64 0, .string ⟨#[]⟩, .slice A n cap]) ∧ LIn w' (fun b => b < w'.heap.size ∧ Unf lo w' b) D (.slice A n cap) l ∧ Below w.heap.size w w' := by
  have HC := Lib.hid (copyOf29 w.heap.size l v d (w.alloc (.cells #[.int .i64 0, .int .i64 0, .string ⟨#[]⟩, .slice none 0 0] 38)) (by simp) (h.keep (Nat.le_refl _) (fun k hk => Below.heap_alloc _ _ _ hk)) hcnt)
  obtain ⟨A0, cap0, rfl⟩ := h.slice
  obtain ⟨ln0, hln0⟩ : ∃ x, l.length = x := ⟨_, rfl⟩
  rw [hln0] at HC ⊢
  clear h hln0
  go_enter Tryz.func89, Tryz.ntmps89
  go_wp2_with fail
  refine HC.out.mono ?_
  rintro e w2 ⟨A, n, cap, D, rfl, hL, hb⟩
  have hz : w.heap.size + 1 ≤ w2.heap.size := by have := hb.size; simpa using this
  have hwa : (w.alloc (.cells #[.int .i64 0, .int .i64 0, .string ⟨#[]⟩, .slice none 0 0] 38)).heap.size = w.heap.size + 1 := by simp
  have hP : w2.heap[w.heap.size]? = some (.cells #[.int .i64 0, .int .i64 0, .string ⟨#[]⟩, .slice none 0 0] 38 (0, 0)) := (hb.block w.heap.size (by simp)).trans (heap_alloc_new w _)
  have HP := Lib.hid hP
  have HSS := Lib.hid (size_four 3 0 ⟨#[]⟩ A n cap)
  have HALL := Lib.hid (all_one 3 0 ⟨#[]⟩ A n cap)
  have HE : Hid (LIn (w2.setRow w.heap.size #[.int .i64 3, .int .i64 0, .string ⟨#[]⟩, .slice A n cap]) (fun b => b < (w2.setRow w.heap.size #[.int .i64 3, .int .i64 0, .string ⟨#[]⟩, .slice A n cap]).heap.size ∧ Unf lo (w2.setRow w.heap.size #[.int .i64 3, .int .i64 0, .string ⟨#[]⟩, .slice A n cap]) b) D (.slice A n cap) l ∧ Below w.heap.size w (w2.setRow w.heap.size #[.int .i64 3, .int .i64 0, .string ⟨#[]⟩, .slice A n cap])) := by
    refine ⟨?_, ((Below.refl _ w).alloc (Nat.le_refl _) _).trans ((hb.mono (by simp)).trans ⟨rfl, rfl, rfl, by simp, fun k hk => setRow_other _ _ _ _ (by omega)⟩)⟩
    refine hL.keep (fun b hS => ?_) fun b o hS => cell_same (setRow_other _ _ _ _ ?_) o
    · refine ⟨by rw [setRow_size]; exact hS.lt (by simp) hb.size, ?_⟩
      rcases hS with ⟨h, hu⟩ | ⟨h, cs, hc⟩
      · exact (hu.keep (hb.block b (by rw [hwa]; omega))).keep (setRow_other _ _ _ _ (by omega))
      · exact Unf.keep ⟨by rw [hwa] at h; omega, fun _ => ⟨cs, 38, hc⟩⟩ (setRow_other _ _ _ _ (by rw [hwa] at h; omega))
    · rcases hS with h | ⟨h, _⟩
      · have := h.1; omega
      · rw [hwa] at h; omega
  clear hL hb hP HC hwa
  go_wp2_with (refine wpList_store_row (P := Tryz.prog) rfl 38 _ _ rfl w.heap.size #[.int .i64 3, .int .i64 0, .string ⟨#[]⟩, .slice A n cap] rfl rfl 38 _ HP.out HSS.out rfl HALL.out ?_)
  refine bodyPost_ret (results_cell_row (p := 2) (ty := 38) rfl _ _ w.heap.size 38 #[.int .i64 3, .int .i64 0, .string ⟨#[]⟩, .slice A n cap] (0, 0) _ ?hp (setRow_heap _ w.heap.size _ _ 38 (0, 0) HP.out) Tryz.underlying38 rfl (by exact HSS.out)) rfl ?_
  case hp => simp [Act.put]
  exact ⟨A, n, cap, D, rfl, HE.out⟩

theorem list18 (l : List C) (v : Value) (d : Nat) (w : World) (h : LNF lo w w.heap.size d v l) (hcnt : cntL l ≤ 5000) (hlo : lo ≤ w.heap.size) (h0 : 0 < lo := by omega) :
    Calls Tryz.prog 89 #[v] w fun e w' => ∃ A n cap D, e = .returned (.agg #[.int .i64 3, .int .i64 0, .string ⟨#[]⟩, .slice A n cap]) ∧ LNF lo w' w'.heap.size D (.slice A n cap) l ∧ Below w.heap.size w w' :=
  (list18L l v d w h hcnt hlo).mono fun _ _ ⟨A, n, cap, D, he, hL, hb⟩ => ⟨A, n, cap, D, he, LIn.lnf (fun _ hb => ⟨hb.1, hb.2, hb.2.frozen h0⟩) hL, hb⟩
theorem list18w (l : List C) (v : Value) (d : Nat) (w : World) (h : LNF 0 w w.heap.size d v l) (hcnt : cntL l ≤ 5000) :
    Calls Tryz.prog 89 #[v] w fun e w' => ∃ A n cap D, e = .returned (.agg #[.int .i64 3, .int .i64 0, .string ⟨#[]⟩, .slice A n cap]) ∧ LAt w' w'.heap.size D (.slice A n cap) l ∧ Below w.heap.size w w' :=
  (list18L l v d w h hcnt (Nat.zero_le _)).mono fun _ _ ⟨A, n, cap, D, he, hL, hb⟩ => ⟨A, n, cap, D, he, hL.lat (fun _ hb => hb.1), hb⟩

end Go.Proofs.YtjanddnlhaionaaGreatDoor.L4
