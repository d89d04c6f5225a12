/-
  Rows of the call's own, of whatever elements; the contract of readFields. No condition.
-/
import Derived.Test.YtjanddnlhaionaaGreatDoorOS
namespace Go.Proofs.YtjanddnlhaionaaGreatDoor
open Go.RowKit
open L4 (C LAt)
open L2 (Row Vl RowsAt rowsOK valOK)

/-- A row of the call's own, of n elements of k cells, and what lay. -/
structure RG (T : TypeId) (k : Nat) (w : World) (v : Value) (n : Nat) (cells : List Value) (W : World) : Prop where
  below : Below w.heap.size w W
  own : W.ownsRow w.heap.size T k v n cells
set_option maxRecDepth 100000 in
theorem RG.start (T : TypeId) (k : Nat) (w : World) : RG T k w (.slice none 0 0) 0 [] w := ⟨Below.refl _ _, World.ownsRow_nil w w.heap.size T k⟩
set_option maxRecDepth 100000 in
theorem RG.slice {T : TypeId} {k : Nat} {w : World} {v : Value} {n : Nat} {cells : List Value} {W : World} (h : RG T k w v n cells W) : ∃ A cap, v = .slice A n cap := by
  rcases h.own.2 with ⟨rfl, h0⟩ | ⟨g, cap, _, rfl, _⟩
  · exact ⟨none, 0, by rw [h0]⟩
  · exact ⟨_, cap, rfl⟩
set_option maxRecDepth 100000 in
theorem RG.step {T : TypeId} {k : Nat} {w : World} {v : Value} {n : Nat} {cells : List Value} {W W' : World} (h : RG T k w v n cells W) (hb : Below W.heap.size W W') : RG T k w v n cells W' := by
  refine ⟨h.below.trans (hb.mono h.below.size), World.ownsRow.kept h.own (row := none) ⟨hb.os, hb.tape, hb.output, hb.size, fun i hi _ => hb.block i hi⟩ ?_⟩
  cases hv : v.ownBlock with
  | none => exact .inl rfl
  | some k => exact .inr (by simp)
set_option maxRecDepth 100000 in
theorem RG.app {T : TypeId} {k : Nat} {w : World} {A : Option Addr} {c0 n g cap : Nat} {cells xs : List Value} {w2 w' : World} {o : Obj} (h2 : RG T k w (.slice A n c0) n cells w2) (ho : w'.ownsRow w.heap.size T k (.slice (some ⟨g, 0, none⟩) (n + 1) cap) (n + 1) (cells ++ xs))
    (hg : (w2.alloc o).grownBy w' (Value.slice A n c0).ownBlock) : RG T k w (.slice (some ⟨g, 0, none⟩) (n + 1) cap) (n + 1) (cells ++ xs) w' := by
  have hs := h2.below.size
  have hsz : (w2.alloc o).heap.size = w2.heap.size + 1 := by simp
  refine ⟨h2.below.trans ⟨hg.os, hg.tape, hg.output, by have := hg.size; omega, fun i hi => ?_⟩, ho⟩
  refine (hg.block i (by omega) fun e => ?_).trans (Below.heap_alloc w2 o i (by omega))
  have := (h2.own.lt i e.symm).1
  omega
set_option maxRecDepth 100000 in
theorem own_cells {T : TypeId} {k base : Nat} {v : Value} {n : Nat} {xs : List Value} {W : World} (h : W.ownsRow base T k v n xs) :
    (v = .slice none 0 0 ∧ n = 0) ∨ ∃ g cap, v = .slice (some ⟨g, 0, none⟩) n cap ∧ base ≤ g ∧ g < W.heap.size ∧ n ≤ cap ∧ cap ≤ maxLen ∧ ∀ m, m < n * k → W.cell? ⟨g, m, none⟩ = xs[m]? := by
  rcases h.2 with h0 | ⟨g, cap, cur, rfl, hb, hg, hnc, hcm, _, htake⟩
  · exact .inl h0
  · refine .inr ⟨g, cap, rfl, hb, (Array.getElem?_eq_some_iff.1 hg).1, hnc, hcm, fun m hm => ?_⟩
    rw [cell_of_row W g m cur T (0, 0) hg, ← htake, List.getElem?_take, if_pos hm, Array.getElem?_toList]

set_option maxRecDepth 100000 in
theorem info71 : ∃ i, Tryz.prog.info? 113 = some i ∧ i.zero = some .nilIface ∧ i.size = 1 ∧ i.bytes = 16 := by
  have h : (Tryz.prog.info? 113).map (fun i => (i.zero, i.size, i.bytes)) = some (some .nilIface, 1, 16) := by kernel_rfl
  cases hq : Tryz.prog.info? 113 with
  | none => rw [hq] at h; cases h
  | some i =>
    rw [hq] at h
    simp only [Option.map_some, Option.some.injEq, Prod.mk.injEq] at h
    exact ⟨i, rfl, h.1, h.2.1, h.2.2⟩

/-- Values of shapes, one behind the other. -/
def ShList (W : World) (B d : Nat) (vals : List Value) (l : List C) : Prop :=
  vals.length ≤ l.length ∧ ∀ i (h : i < vals.length), ∃ (h' : i < l.length), ShAt W B d vals[i] (shOf l[i]) ∧ (shOf l[i]).some = true
set_option maxRecDepth 100000 in
theorem ShList.keep {W W' : World} {B d : Nat} {vals : List Value} {l : List C} (h : ShList W B d vals l) (hb : Below B W W') : ShList W' B d vals l :=
  ⟨h.1, fun i hi => by obtain ⟨h', h1, h2⟩ := h.2 i hi; exact ⟨h', h1.keep hb (Nat.le_refl _), h2⟩⟩
set_option maxRecDepth 100000 in
theorem ShList.snoc {W : World} {B d : Nat} {vals : List Value} {l : List C} {v : Value} (h : ShList W B d vals l) (hl : vals.length < l.length) (hv : ShAt W B d v (shOf l[vals.length])) (hs : (shOf l[vals.length]).some = true) : ShList W B d (vals ++ [v]) l := by
  refine ⟨by rw [List.length_append]; simp; omega, fun i hi => ?_⟩
  by_cases hi' : i < vals.length
  · rw [List.getElem_append_left hi']; exact h.2 i hi'
  · have : i = vals.length := by simp at hi; omega
    subst this
    exact ⟨hl, by simpa using hv, hs⟩
set_option maxRecDepth 100000 in
theorem ShList.done {w W : World} {d : Nat} {v : Value} {vals : List Value} {l : List C} (h : ShList W w.heap.size d vals l) (hn : vals.length = l.length) (hr : RG 113 1 w v vals.length vals W) : ShsAt W W.heap.size d v (l.map shOf) ∧ (l.map shOf).all Sh.some = true := by
  have hall : (l.map shOf).all Sh.some = true := by
    rw [List.all_eq_true]
    intro x hx
    obtain ⟨c, hc, rfl⟩ := List.mem_map.1 hx
    obtain ⟨i, hi, rfl⟩ := List.getElem_of_mem hc
    exact (h.2 i (by omega)).2.2
  refine ⟨?_, hall⟩
  rcases own_cells hr.own with ⟨rfl, h0⟩ | ⟨g, cap, rfl, hb, hg, hnc, hcm, hc⟩
  · exact ⟨none, 0, by rw [List.length_map, ← hn, h0], by rw [List.length_map, ← hn, h0]; exact Nat.le_refl _, Nat.zero_le _, fun hl => by rw [List.length_map, ← hn, h0] at hl; omega⟩
  · refine ⟨_, cap, by rw [List.length_map, ← hn], by rw [List.length_map, ← hn]; exact hnc, hcm, fun hl => ⟨g, 0, rfl, hg, fun i hi => ?_⟩⟩
    rw [List.length_map] at hi
    obtain ⟨h', h1, h2⟩ := h.2 i (by omega)
    refine ⟨vals[i]'(by omega), ?_, ?_⟩
    · rw [Nat.zero_add, hc i (by omega)]
      exact List.getElem?_eq_getElem (by omega)
    · rw [List.getElem_map]
      exact h1.keep (Below.refl _ _) hr.below.size

def FieldsTo (w : World) (r : Option (List Sh)) (e : Ending) (w' : World) : Prop :=
  Below w.heap.size w w' ∧ match r with
    | some L => ∃ v d, e = .returned (.tuple #[v, .bool true]) ∧ ShsAt w' w'.heap.size d v L
    | none => e = .returned (.tuple #[.slice none 0 0, .bool false])

set_option maxRecDepth 100000 in
theorem fields_not {c : C} {n : Nat} (h : ∀ l, shOf c ≠ .list l) : fieldsM c n = none := by
  unfold fieldsM
  cases hs : shOf c with
  | list l => exact absurd hs (h l)
  | _ => rfl
set_option maxRecDepth 100000 in
theorem fields_list {c : C} {n : Nat} {l : List C} (h : shOf c = .list l) : fieldsM c n = if l.length = n ∧ (l.map shOf).all Sh.some = true then some (l.map shOf) else none := by
  unfold fieldsM; rw [h]
set_option maxRecDepth 100000 in
set_option maxHeartbeats 4000000 in
theorem readFields53 (d : Nat) (ck cn : Int) (cs : ByteArray) (cl : List C) (u : Value) (cnt : Nat) (hcnt : cnt ≤ 100) (w : World) (h : LAt w w.heap.size d u cl) :
    Calls Tryz.prog 119 #[.agg #[.int .i64 ck, .int .i64 cn, .string cs, u], .int .i64 cnt] w (FieldsTo w (fieldsM (.mk ck cn cs cl) cnt)) := by
  obtain ⟨i0, hi, hz0, hz1, hz2⟩ := info71
  have hB : Below w.heap.size w (w.alloc (.cells #[.int .i64 ck, .int .i64 cn, .string cs, u] 38)) := (Below.refl _ _).alloc (Nat.le_refl _) _
  have HB := Lib.hid hB
  have HS := Lib.hid (shapeOf29 d ck cn cs cl u w.heap.size (w.alloc (.cells #[.int .i64 ck, .int .i64 cn, .string cs, u] 38)) hB.size (h.below hB))
  obtain ⟨c, hc⟩ : ∃ c, C.mk ck cn cs cl = c := ⟨_, rfl⟩
  rw [hc] at HS ⊢
  obtain ⟨r, hr⟩ : ∃ r, fieldsM c cnt = r := ⟨_, rfl⟩
  rw [hr]
  have HR := Lib.hid hr
  obtain ⟨A0, c0, rfl⟩ := h.slice
  clear hr hc h hB
  go_enter Tryz.func119, Tryz.ntmps119
  go_wp2_with fail
  refine HS.out.mono ?_
  rintro _ w2 ⟨v, rfl, hv, hb2⟩
  have HB2 := Lib.hid (HB.out.trans (hb2.mono HB.out.size))
  clear HS hb2 HB
  rcases as_lst hv with ⟨l, A, cap, hsh, hla, hta⟩ | ⟨hno, hta⟩
  · have HSH := Lib.hid hsh
    cases hlen : ((l.length : Int) != (cnt : Int)) with
    | true =>
      have hr : r = none := by rw [← HR.out, fields_list hsh, if_neg (by intro h; rw [h.1] at hlen; simp at hlen)]
      subst hr
      clear HR hv hla hsh HSH
      go_wp2
      go_ret2
      exact ⟨HB2.out, rfl⟩
    | false =>
      have hln : l.length = cnt := by have := hlen; simp at this; omega
      have HLN := Lib.hid hln
      have HLA := Lib.hid hla
      have hbl : LAt w2 w2.heap.size d (.slice A l.length cap) l := hla.more HB2.out.size
      obtain ⟨d', rfl⟩ : ∃ d', d = d' + 1 := by
        cases d with
        | zero => exact hla.elim
        | succ d' => exact ⟨d', rfl⟩
      obtain ⟨A', cap', e', h1, h2, h3⟩ := hla
      injection e' with e1 e2 e3
      subst e1 e3
      have H3 := Lib.hid h3
      unfold maxLen at h2
      have HRG : Hid (RG 113 1 w (.slice none 0 0) ([] : List Value).length [] w2) := ⟨HB2.out, World.ownsRow_nil w2 w.heap.size 113 1⟩
      have HSL : Hid (ShList w2 w.heap.size d' [] l) := ⟨by simp, fun i h => by simp at h⟩
      have HRR : Hid ((if l.length = cnt ∧ (l.map shOf).all Sh.some = true then some (l.map shOf) else none) = r) := by unfold Hid; rw [← HR.out, fields_list HSH.out]
      clear hv hsh h3 hbl e2 hln HR HSH
      go_wp2_with fail
      go_loopw [8, 28] (fun s8 s28 wr => ∃ (k : Nat) (vals : List Value), k ≤ l.length ∧ s28 = .int .i64 k ∧ vals.length = k ∧ Hid (RG 113 1 w s8 vals.length vals wr) ∧ Hid (ShList wr w.heap.size d' vals l) ∧ Hid (Below w.heap.size w2 wr)) (fun _ s28 _ => l.length - (intOf s28).toNat)
      case atStart => exact ⟨0, [], Nat.zero_le _, rfl, rfl, HRG.out, HSL.out, Below.mono (Below.refl _ _) HB2.out.size⟩
      case round =>
        obtain ⟨k, vals, hk, rfl, rfl, HG, HSV, HBR⟩ := hrel
        clear HRG HSL
        obtain ⟨A1, c1, hA1⟩ := HG.out.slice
        subst hA1
        by_cases hlt : vals.length < l.length
        · obtain ⟨b, o, rfl, hb, hrw⟩ := H3.out (by omega)
          obtain ⟨ui, hrow, hwf, hsub⟩ := hrw vals.length hlt
          obtain ⟨x0, x1, x2, x3⟩ := hrow.keep fun o => HBR.out.cell (p := ⟨b, o, none⟩) hb
          have HSUB := Lib.hid (hsub.below HBR.out)
          have HSN : Hid (∀ {W : World} {v : Value}, ShList W w.heap.size d' vals l → ShAt W w.heap.size d' v (shOf l[vals.length]) → (shOf l[vals.length]).some = true → ShList W w.heap.size d' (vals ++ [v]) l) := fun h1 h2 h3 => h1.snoc hlt h2 h3
          have HIN : Hid ((shOf l[vals.length]).some = false → r = none) := fun hs => by
            rw [← HRR.out, if_neg]
            rintro ⟨-, hall⟩
            rw [List.all_eq_true] at hall
            have := hall _ (List.mem_map.2 ⟨l[vals.length], List.getElem_mem hlt, rfl⟩)
            rw [hs] at this; cases this
          have hbl : b < wr.heap.size := Nat.lt_of_lt_of_le hb HG.out.below.size
          clear hrw hrow hwf hsub
          generalize l[vals.length] = x at x0 x1 x2 x3 HSUB HSN HIN
          obtain ⟨xk, xn, xs, xl⟩ := x
          simp only [L4.k_mk, L4.n_mk, L4.s_mk, L4.l_mk] at x0 x1 x2 x3 HSUB
          obtain ⟨Ai, ci, rfl⟩ := HSUB.out.slice
          have hW1 : Below wr.heap.size wr (wr.alloc (.cells #[.int .i64 xk, .int .i64 xn, .string xs, .slice Ai xl.length ci] 38)) := (Below.refl _ _).alloc (Nat.le_refl _) _
          have HW1 := Lib.hid hW1
          have HS2 := Lib.hid (shapeOf29 d' xk xn xs xl (.slice Ai xl.length ci) w.heap.size (wr.alloc (.cells #[.int .i64 xk, .int .i64 xn, .string xs, .slice Ai xl.length ci] 38)) (Nat.le_trans HG.out.below.size hW1.size) (HSUB.out.below (hW1.mono HG.out.below.size)))
          clear hW1 HSUB
          go_wp2_with fail
          refine HS2.out.mono ?_
          rintro _ w3 ⟨v', rfl, hv', hb3⟩
          have hbb := Lib.hid (HW1.out.trans (hb3.mono HW1.out.size))
          have HG3 := Lib.hid (HG.out.step hbb.out)
          have HSV3 := Lib.hid (HSV.out.keep (hbb.out.mono HG.out.below.size))
          have HBR3 := Lib.hid (HBR.out.trans (hbb.out.mono HG.out.below.size))
          clear HG HSV HBR hb3 HW1 HS2 hbb x0 x1 x2 x3
          generalize shOf (.mk xk xn xs xl) = sh at hv' HSN HIN
          cases hsm : sh.some with
          | false =>
            have hr : r = none := HIN.out hsm
            subst hr
            have hv2 : v' = .nilIface := by
              cases sh with
              | none => exact hv'
              | _ => cases hsm
            subst hv2
            clear HSN HIN HRR
            go_wp2
            go_ret2
            exact ⟨HG3.out.below, rfl⟩
          | true =>
            obtain ⟨t, y, hv2, hone⟩ : ∃ t y, v' = .iface t y ∧ v'.oneCell' = true := by
              cases sh with
              | none => cases hsm
              | num n => exact ⟨183, _, hv', by rw [show v' = .iface 183 (.int .i64 n) from hv']; rfl⟩
              | text s => exact ⟨184, _, hv', by rw [show v' = .iface 184 (.string s) from hv']; rfl⟩
              | list ll => obtain ⟨u, hu, _⟩ := hv'; exact ⟨180, _, hu, by rw [hu]; rfl⟩
            have HSN2 : Hid (∀ {W : World}, Below w.heap.size w3 W → ShList W w.heap.size d' (vals ++ [v']) l) := fun hb => HSN.out (HSV3.out.keep hb) (hv'.keep hb (Nat.le_refl _)) hsm
            have HONE := Lib.hid hone
            clear HSN HIN hv' hone
            subst hv2
            go_wp2_with (at_builtin; go_must (refine wpList_append_lies _ rfl _ _ 185 rfl w.heap.size 113 i0 _ 1 16 Tryz.underlying185 hi hz0 hz1 hz2 rfl (by omega) _ vals.length vals rfl ?own ⟨w3.heap.size, 0, none⟩ 1 1 [.iface t y] rfl rfl ?news ?one (by omega) ?c3 ?c4 ?c5 _ rfl ?_))
            case own => exact World.ownsRow.alloc HG3.out.own _
            case news =>
              refine World.news_of_block (cs := #[.iface t y]) (t := 113) (fr := (0, 0)) ?_
              exact heap_alloc_new w3 (.cells #[.iface t y] 113)
            case one => simpa using HONE.out
            case c3 => unfold maxLen; omega
            case c4 => have hll := HLN.out; omega
            case c5 =>
              have hsz3 := HG3.out.below.size
              simp; omega
            rintro g c9 w' ho hg hgl hlt2
            have HG4 := Lib.hid (RG.app HG3.out ho hg)
            have HW4 : Hid (Below w.heap.size w3 w') := by
              have hsz : (w3.alloc (.cells #[.iface t y] 113)).heap.size = w3.heap.size + 1 := by simp
              have h5 := HG3.out.below.size
              refine ⟨hg.os, hg.tape, hg.output, by have := hg.size; omega, fun i hi => (hg.block i (by omega) fun e => ?_).trans (Below.heap_alloc w3 _ i (by omega))⟩
              have := (HG3.out.own.lt i e.symm).1
              omega
            have HSL4 := Lib.hid (HSN2.out HW4.out)
            have HBR4 := Lib.hid (HBR3.out.trans HW4.out)
            have hvl : (vals ++ [Value.iface t y]).length = vals.length + 1 := by simp
            have HVL := Lib.hid hvl
            have HG5 : Hid (RG 113 1 w (.slice (some ⟨g, 0, none⟩) (vals.length + 1) c9) (vals ++ [Value.iface t y]).length (vals ++ [Value.iface t y]) w') := by unfold Hid; rw [hvl]; exact HG4.out
            clear ho hg hgl HG4 HW4 HSN2 HSV3 HG3 HBR3 hvl
            go_wp2_with fail
            go_roundw
            case rel => exact ⟨vals.length + 1, vals ++ [.iface t y], by omega, by go_num, HVL.out, HG5, HSL4, HBR4⟩
            case measure => simp [intOf]; omega
        · have hvn : vals.length = l.length := by omega
          obtain ⟨hd1, hd2⟩ := HSV.out.done hvn HG.out
          have hr : r = some (l.map shOf) := by rw [← HRR.out, if_pos ⟨HLN.out, hd2⟩]
          subst hr
          have HD := Lib.hid hd1
          have HBZ := Lib.hid HG.out.below
          clear HRR hd1 hd2 HG HSV HBR H3 hvn
          go_wp2
          go_ret2
          exact ⟨HBZ.out, _, _, rfl, HD.out⟩
  · have hr : r = none := by rw [← HR.out, fields_not hno]
    subst hr
    clear HR hv hno
    go_wp2
    go_ret2
    exact ⟨HB2.out, rfl⟩
end Go.Proofs.YtjanddnlhaionaaGreatDoor
