/-
  The contracts of Put and Get. No condition but on lengths.
-/
import Derived.Test.YtjanddnlhaionaaGreatDoorSG
import Derived.Test.YtjanddnlhaionaaGreatDoorPx0
set_option maxRecDepth 100000
namespace Go.Proofs.YtjanddnlhaionaaGreatDoor
open Go.RowKit
open L3 (Tabs St)
open L2 (Row)

/-- Put, as plain functions: what is answered, and the shelf then. -/
def putId (K : List Int) (I : St) (st : Sf) (o : Ob) : ByteArray := if objOK o then (if clash st.m (idB K I (objS o)) (objS o) then ⟨#[]⟩ else idB K I (objS o)) else ⟨#[]⟩
def putEr (K : List Int) (I : St) (st : Sf) (o : Ob) : Int := if objOK o then (if clash st.m (idB K I (objS o)) (objS o) then 22 else 0) else 2
def putSt (K : List Int) (I : St) (st : Sf) (o : Ob) : Sf :=
  if objOK o then (if clash st.m (idB K I (objS o)) (objS o) then st else { st with m := addMap st.m (idB K I (objS o)) (objS o), c := addCnt st.m st.c (idB K I (objS o)), fresh := if (st.m (idB K I (objS o))).isSome then st.fresh else st.fresh ++ [idB K I (objS o)] }) else st

theorem idB_size (K : List Int) (I : St) (s : ByteArray) : (idB K I s).size ≤ maxLen := by
  show (L3.digestM K I s.data.toList).toArray.size ≤ maxLen
  rw [List.size_toArray, L3.digestM_length]
  unfold maxLen
  omega

theorem obj_enc {o : Ob} (h : objOK o = true) (hn : ∀ r ∈ o.rows, -9223372036854775808 ≤ r.2.2.2.1 ∧ r.2.2.2.1 ≤ 9223372036854775807) (hf : ∀ k ∈ o.kids, 0 ≤ k.f ∧ k.f ≤ 255) : (objS o).size ≤ 900000 := by
  have hk : o.kids.length ≤ 500 := by
    rcases obj_p h with q | q
    · have := kids_256 q.kids hf; omega
    · rw [q.kids]; simp
  have hg := obj_good h hn hf hk
  unfold objS L4.putS
  rw [h, hg.ok]
  simp only [if_true]
  show (L4.encC 16 (cellOf o)).toArray.size ≤ _
  rw [List.size_toArray]
  exact hg.enc

/-! ### The fresh ids turn -/
section
variable {w0 w : World} {sb mb bt bl b : Nat} {fv : Value} {d : L6.D} {s : Sf}
theorem SfAt.fresh {w6 : World} {fv' : Value} {l : List ByteArray} (h : SfAt w0 w sb mb fv bt bl b d s) (ht : L6.Turn (fun k => fv.ownBlock = some k) w w6) (ho : w6.ownsRow w0.heap.size 9 1 fv' l.length (L6.strs l)) :
    SfAt w0 (w6.setCell ⟨sb, 2, none⟩ fv') sb mb fv' bt bl b d { s with fresh := l } ∧ L6.Turn (Mine sb mb fv) w (w6.setCell ⟨sb, 2, none⟩ fv') := by
  have hsb : sb < w.heap.size := (Array.getElem?_eq_some_iff.1 h.row).1
  have hT : L6.Turn (Mine sb mb fv) w (w6.setCell ⟨sb, 2, none⟩ fv') := (ht.mono (fun k hk => .inr (.inr hk))).setCell _ _ (.inl (.inl rfl))
  have hrow6 : w6.heap[sb]? = some (.cells #[.pointer (some ⟨bt, 0, none⟩), .map (some mb), fv] 87 (0, 0)) := by
    rw [ht.block sb hsb (fun hk => (h.fv_ne hk).1 rfl)]; exact h.row
  have hmne : mb ≠ sb := fun e => h.sb_mb e.symm
  refine ⟨⟨TN.turn h.tn hT h.mine, ?_, h.map.keep ?_, L6.row_keep ho (fun k hk => ?_), h.sb0, h.mb0⟩, hT⟩
  · rw [setCell_eq_setRow w6 sb 2 _ _ _ fv' hrow6]
    exact setRow_heap w6 sb _ _ _ _ hrow6
  · rw [Below.heap_setCell _ _ _ _ hmne]
    exact ht.block mb h.map.lt (fun hk => (h.fv_ne hk).2 rfl)
  · refine Below.heap_setCell _ _ _ _ ?_
    rintro rfl
    obtain ⟨cs, hc⟩ := L6.row_ty ho hk
    rw [hc] at hrow6
    cases hrow6
theorem SfAt.cleared (h : SfAt w0 w sb mb fv bt bl b d s) : SfAt w0 (w.setCell ⟨sb, 2, none⟩ (.slice none 0 0)) sb mb (.slice none 0 0) bt bl b d { s with fresh := [] } ∧ L6.Turn (Mine sb mb fv) w (w.setCell ⟨sb, 2, none⟩ (.slice none 0 0)) :=
  h.fresh (L6.Turn.refl _ _) (World.ownsRow_nil _ _ _ _)
theorem SfAt.pushed {w6 : World} {o : Obj} {x : ByteArray} {g cap n : Nat} (h : SfAt w0 w sb mb fv bt bl b d s) (hn : s.fresh.length = n) (ho : w6.ownsRow w0.heap.size 9 1 (.slice (some ⟨g, 0, none⟩) (n + 1) cap) (n + 1) (L6.strs s.fresh ++ [.string x])) (hg : (w.alloc o).grownBy w6 fv.ownBlock) :
    SfAt w0 (w6.setCell ⟨sb, 2, none⟩ (.slice (some ⟨g, 0, none⟩) (n + 1) cap)) sb mb (.slice (some ⟨g, 0, none⟩) (n + 1) cap) bt bl b d { s with fresh := s.fresh ++ [x] } ∧ L6.Turn (Mine sb mb fv) w (w6.setCell ⟨sb, 2, none⟩ (.slice (some ⟨g, 0, none⟩) (n + 1) cap)) := by
  refine h.fresh ?_ ?_
  · have h1 : L6.Turn (fun k => fv.ownBlock = some k) w (w.alloc o) := (L6.Turn.refl _ _).alloc o
    exact h1.trans (L6.Turn.of_grown hg (fun k hk => hk)) (fun i hi => .inl hi)
  · have e : L6.strs (s.fresh ++ [x]) = L6.strs s.fresh ++ [.string x] := by unfold L6.strs; rw [List.map_append]; rfl
    rw [e, List.length_append, hn]
    exact ho
theorem SfAt.grownCell {w6 : World} {o : Obj} (h : SfAt w0 w sb mb fv bt bl b d s) (hg : (w.alloc o).grownBy w6 fv.ownBlock) : w6.cell? ⟨sb, 2, none⟩ = some fv ∧ w6.frozen? ⟨sb, 2, none⟩ = false := by
  have hsb : sb < w.heap.size := (Array.getElem?_eq_some_iff.1 h.row).1
  have hr : w6.heap[sb]? = some (.cells #[.pointer (some ⟨bt, 0, none⟩), .map (some mb), fv] 87 (0, 0)) := by
    rw [hg.block sb (by simp; omega) (fun e => (h.fv_ne e.symm).1 rfl), Below.heap_alloc w o sb hsb]
    exact h.row
  exact ⟨L6.cell_row hr rfl, frozen_of_row w6 sb 2 _ _ hr⟩
end

set_option maxHeartbeats 2000000 in
theorem put38 {w0 w : World} {sb mb bt bl b : Nat} {fv : Value} {d : L6.D} {st : Sf} (K : List Int) (I : St) (h : SfAt w0 w sb mb fv bt bl b d st) (hT : Tabs K I w0)
    (kd : Int) (label : ByteArray) (rows : List Row) (kids : List Kd) (parents : List ByteArray) (stamp : Int) (note root : ByteArray) (r k p : Value) (ho : ObAt w r k p ⟨kd, label, rows, kids, parents, stamp, note, root⟩)
    (hc : st.c < 1000000) (hfr : st.fresh.length < 1000000) :
    Calls Tryz.prog 38 #[.pointer (some ⟨sb, 0, none⟩), .agg #[.int .i64 kd, .string label, r, k, p, .int .i64 stamp, .string note, .string root]] w fun e w' =>
      ∃ fv', e = .returned (.tuple #[.string (putId K I st ⟨kd, label, rows, kids, parents, stamp, note, root⟩), .int .i64 (putEr K I st ⟨kd, label, rows, kids, parents, stamp, note, root⟩)]) ∧ SfAt w0 w' sb mb fv' bt bl b d (putSt K I st ⟨kd, label, rows, kids, parents, stamp, note, root⟩) ∧
        L6.Turn (Mine sb mb fv) w w' ∧ (∀ j, fv'.ownBlock = some j → fv.ownBlock = some j ∨ w.heap.size ≤ j) := by
  have hB : Below w.heap.size w (w.alloc (.cells #[.int .i64 kd, .string label, r, k, p, .int .i64 stamp, .string note, .string root] 27)) := (Below.refl _ _).alloc (Nat.le_refl _) _
  have h1 := h.below hB
  have HE := Lib.hid (exists76 h1)
  have HP := Lib.hid (put7 kd label rows kids parents stamp note root r k p _ (ho.step hB))
  have HO1 := Lib.hid (Obj1.start w ⟨kd, label, rows, kids, parents, stamp, note, root⟩ r k p)
  have HG := Lib.hid (fun hok => obj_enc (o := ⟨kd, label, rows, kids, parents, stamp, note, root⟩) hok ho.num ho.kids.bounds)
  have H1 := Lib.hid h1
  have HB := Lib.hid hB
  have HT0 := Lib.hid hT
  have hold := h.old
  obtain ⟨o, hoo⟩ : ∃ o, (⟨kd, label, rows, kids, parents, stamp, note, root⟩ : Ob) = o := ⟨_, rfl⟩
  rw [hoo] at HP HG ⊢
  have hw2 := hT.two
  have HC : Hid (st.c < 1000000 ∧ st.fresh.length < 1000000) := ⟨hc, hfr⟩
  have HOLD := Lib.hid hold
  clear h h1 hB ho hT hold hoo hc hfr
  cases hok : objOK o with
  | false =>
    have e1 : objS o = ⟨#[]⟩ := by unfold objS; rw [hok]; rfl
    have e2 : objE o = 2 := by unfold objE; rw [hok]; rfl
    have e3 : putId K I st o = ⟨#[]⟩ := by unfold putId; rw [hok]; rfl
    have e4 : putEr K I st o = 2 := by unfold putEr; rw [hok]; rfl
    have e5 : putSt K I st o = st := by unfold putSt; rw [hok]; rfl
    rw [e1, e2] at HP
    rw [e3, e4, e5]
    clear e1 e2 e3 e4 e5 HG
    go_enter Tryz.func38, Tryz.ntmps38
    go_wp2_with (go_at_call 76; refine HE.out.mono ?_; rintro e w' ⟨rfl, rfl⟩)
    refine HP.out.mono ?_
    rintro _ w2 ⟨rfl, hb2⟩
    have H2 := Lib.hid (H1.out.below hb2)
    have HT2 : Hid (L6.Turn (Mine sb mb fv) w w2) := by have h := HB.out.trans (hb2.mono HB.out.size); exact ⟨h.os, h.tape, h.output, h.size, fun k hk _ => h.block k hk⟩
    clear hb2
    go_wp2_with fail
    go_ret2
    exact ⟨fv, rfl, H2.out, HT2.out, fun j hj => .inl hj⟩
  | true =>
    have hsz := HG.out hok
    have e2 : objE o = 0 := by unfold objE; rw [hok]; rfl
    have e3 : putId K I st o = if clash st.m (idB K I (objS o)) (objS o) then ⟨#[]⟩ else idB K I (objS o) := by unfold putId; rw [hok]; rfl
    have e4 : putEr K I st o = if clash st.m (idB K I (objS o)) (objS o) then 22 else 0 := by unfold putEr; rw [hok]; rfl
    have e5 : putSt K I st o = if clash st.m (idB K I (objS o)) (objS o) then st else { st with m := addMap st.m (idB K I (objS o)) (objS o), c := addCnt st.m st.c (idB K I (objS o)), fresh := if (st.m (idB K I (objS o))).isSome then st.fresh else st.fresh ++ [idB K I (objS o)] } := by unfold putSt; rw [hok]; rfl
    rw [e2] at HP
    rw [e3, e4, e5]
    have HA := Lib.hid fun w2 (h2 : SfAt w0 w2 sb mb fv bt bl b d st) => add83 K I h2 (HT0.out.below h2.old hw2) (objS o) hsz (idB_size K I _) (by have := HC.out.1; unfold maxLen; omega)
    generalize objS o = S at HP HA ⊢
    generalize idB K I S = id at HA ⊢
    clear e2 e3 e4 e5 HG hsz hok
    have HTW : Hid (∀ w2, Below (w.alloc (.cells #[.int .i64 kd, .string label, r, k, p, .int .i64 stamp, .string note, .string root] 27)).heap.size (w.alloc (.cells #[.int .i64 kd, .string label, r, k, p, .int .i64 stamp, .string note, .string root] 27)) w2 → L6.Turn (Mine sb mb fv) w w2) := fun w2 hb2 => by have h := HB.out.trans (hb2.mono HB.out.size); exact ⟨h.os, h.tape, h.output, h.size, fun k hk _ => h.block k hk⟩
    cases hcl : clash st.m id S with
    | true =>
      rw [hcl] at HA
      simp only [if_true] at HA ⊢
      go_enter Tryz.func38, Tryz.ntmps38
      go_wp2_with (go_at_call 76; refine HE.out.mono ?_; rintro e w' ⟨rfl, rfl⟩)
      refine HP.out.mono ?_
      rintro _ w2 ⟨rfl, hb2⟩
      have HA2 := Lib.hid (HA.out w2 (H1.out.below hb2))
      have HT2 := Lib.hid (HTW.out w2 hb2)
      clear hb2 HA HTW HP HO1 hcl
      go_wp2_with fail
      refine HA2.out.mono ?_
      rintro _ w3 ⟨rfl, h3, hb3⟩
      have H3 := Lib.hid h3
      have HT3 : Hid (L6.Turn (Mine sb mb fv) w w3) := HT2.out.trans ⟨hb3.os, hb3.tape, hb3.output, hb3.size, fun k hk _ => hb3.block k hk⟩ (fun i hi => .inl hi)
      clear h3 hb3 HA2
      go_wp2_with fail
      go_ret2
      exact ⟨fv, rfl, H3.out, HT3.out, fun j hj => .inl hj⟩
    | false =>
      rw [hcl] at HA
      simp only [Bool.false_eq_true, if_false] at HA ⊢
      cases hf : st.m id with
      | some k2 =>
        rw [hf] at HA
        simp only [Option.isSome_some, Bool.not_true, if_true] at HA ⊢
        go_enter Tryz.func38, Tryz.ntmps38
        go_wp2_with (go_at_call 76; refine HE.out.mono ?_; rintro e w' ⟨rfl, rfl⟩)
        refine HP.out.mono ?_
        rintro _ w2 ⟨rfl, hb2⟩
        have HA2 := Lib.hid (HA.out w2 (H1.out.below hb2))
        have HT2 := Lib.hid (HTW.out w2 hb2)
        clear hb2 HA HTW HP HO1 hcl hf
        go_wp2_with fail
        refine HA2.out.mono ?_
        rintro _ w3 ⟨rfl, h3, hb3⟩
        have H3 := Lib.hid h3
        have HT3 : Hid (L6.Turn (Mine sb mb fv) w w3) := HT2.out.trans hb3 (fun i hi => .inl (.inr (.inl hi)))
        clear h3 hb3 HA2
        go_wp2_with fail
        go_ret2
        exact ⟨fv, rfl, H3.out, HT3.out, fun j hj => .inl hj⟩
      | none =>
        rw [hf] at HA
        simp only [Option.isSome_none, Bool.not_false, Bool.false_eq_true, if_false] at HA ⊢
        obtain ⟨i9, hi9, hz90, hz91, hz92⟩ := L6.info9
        go_enter Tryz.func38, Tryz.ntmps38
        go_wp2_with (go_at_call 76; refine HE.out.mono ?_; rintro e w' ⟨rfl, rfl⟩)
        refine HP.out.mono ?_
        rintro _ w2 ⟨rfl, hb2⟩
        have HA2 := Lib.hid (HA.out w2 (H1.out.below hb2))
        have HT2 := Lib.hid (HTW.out w2 hb2)
        clear hb2 HA HTW HP HO1 hcl hf
        go_wp2_with fail
        refine HA2.out.mono ?_
        rintro _ w3 ⟨rfl, h3, hb3⟩
        have H3 := Lib.hid h3
        have HT3 : Hid (L6.Turn (Mine sb mb fv) w w3) := HT2.out.trans hb3 (fun i hi => .inl (.inr (.inl hi)))
        obtain ⟨-, -, c2, cf⟩ := h3.cells
        have cf2 := cf 2
        obtain ⟨A, cap, rfl⟩ := L6.row_slice h3.fr
        have HOW : Hid ((w3.alloc (.cells #[.string id] 9)).ownsRow w0.heap.size 9 1 (.slice A st.fresh.length cap) st.fresh.length (L6.strs st.fresh)) := h3.fr.alloc _
        have HNE : Hid (∀ j u, ([.string id] : List Value)[j]? = some u → (w3.alloc (.cells #[.string id] 9)).cell? ((⟨w3.heap.size, 0, none⟩ : Addr).add j) = some u) := fun j u hu => World.news_of_block (cs := #[.string id]) (t := 9) (fr := (0, 0)) (heap_alloc_new w3 _) j u hu
        have hsz3 : w0.heap.size ≤ (w3.alloc (.cells #[.string id] 9)).heap.size := by have := h3.old.size; simp; omega
        have hfl := HC.out.2
        have HPU : Hid (∀ g cap' n w6, st.fresh.length = n → w6.ownsRow w0.heap.size 9 1 (.slice (some ⟨g, 0, none⟩) (n + 1) cap') (n + 1) (L6.strs st.fresh ++ [.string id]) → (w3.alloc (.cells #[.string id] 9)).grownBy w6 (Value.slice A st.fresh.length cap).ownBlock → _) := fun g cap' n w6 hn ho hg => H3.out.pushed hn ho hg
        clear h3 hb3 HA2 cf
        go_wp2_with (at_builtin; refine wpList_append_lies _ rfl _ _ 25 rfl w0.heap.size 9 i9 _ 1 16 Tryz.underlying25 hi9 hz90 hz91 hz92 rfl (by omega) (.slice A st.fresh.length cap) st.fresh.length (L6.strs st.fresh) rfl HOW.out ⟨w3.heap.size, 0, none⟩ 1 1 [.string id] rfl rfl HNE.out (by intro u hu; simp at hu; subst hu; rfl) (by omega) (by unfold maxLen; omega) (by omega) hsz3 _ rfl ?_)
        intro g' cap' w6 ho6 hg6 hat6 hlt6
        obtain ⟨k2, kf2⟩ := H3.out.grownCell hg6
        have HFN := Lib.hid (HPU.out _ _ _ _ rfl ho6 hg6)
        have HSZ : Hid (w.heap.size ≤ w3.heap.size) := HT3.out.size
        have HAT : Hid ((Value.slice A st.fresh.length cap).ownBlock = some g' ∨ w3.heap.size ≤ g') := by rcases hat6 with h | h; exact .inl h; exact .inr (by have h2 : (w3.alloc (.cells #[.string id] 9)).heap.size = w3.heap.size + 1 := World.size_alloc _ _; omega)
        clear ho6 hg6 hat6 hlt6 HPU HOW HNE c2 cf2
        go_wp2_with fail
        go_ret2
        refine ⟨rfl, .slice (some ⟨g', 0, none⟩) (st.fresh.length + 1) cap', HFN.out.1, HT3.out.trans HFN.out.2 (fun i hi => .inl hi), fun j hj => ?_⟩
        have hj' : g' = j := by simpa [Value.ownBlock] using hj
        subst hj'
        rcases HAT.out with h | h
        · exact .inl h
        · exact .inr (Nat.le_trans HSZ.out h)
end Go.Proofs.YtjanddnlhaionaaGreatDoor
