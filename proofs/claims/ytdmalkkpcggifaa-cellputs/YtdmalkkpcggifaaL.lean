/-
  Cells that a call made, in memory; the contract of readList, by that of readCell. No condition but bounds on lengths.
-/
import Derived.Test.YtdmalkkpcggifaaK
import Derived.Deep.AppendLies
import Derived.OwnWalk
import Derived.Laws.Tables
namespace Go.Proofs.Ytdmalkkpcggifaa
open Go.RowKit

/-- The slice v reads as the cells l, in blocks that S tells, in at most d levels. -/
def LIn (w : World) (S : Nat → Prop) : Nat → Value → List C → Prop
  | 0, _, _ => False
  | d + 1, v, l => ∃ A cap, v = .slice A l.length cap ∧ l.length ≤ cap ∧ cap ≤ maxLen ∧ (0 < l.length → ∃ b o, A = some ⟨b, o, none⟩ ∧ S b ∧ ∀ i (h : i < l.length), ∃ u, RowAt w b (o + i * 4) l[i] u ∧ Wf l[i] ∧ LIn w S d u l[i].l)
theorem LIn.keep {w w' : World} {S S' : Nat → Prop} (hS : ∀ b, S b → S' b) (hk : ∀ b o, S b → w'.cell? ⟨b, o, none⟩ = w.cell? ⟨b, o, none⟩) : ∀ {d : Nat} {v : Value} {l : List C}, LIn w S d v l → LIn w' S' d v l
  | 0, _, _, h => h
  | d + 1, v, l, h => by
    obtain ⟨A, cap, rfl, h1, h2, h3⟩ := h
    refine ⟨A, cap, rfl, h1, h2, fun hl => ?_⟩
    obtain ⟨b, o, rfl, hb, hr⟩ := h3 hl
    refine ⟨b, o, rfl, hS b hb, fun i hi => ?_⟩
    obtain ⟨u, r, f, s⟩ := hr i hi
    exact ⟨u, r.keep fun o => hk b o hb, f, LIn.keep hS hk s⟩
theorem LIn.lat {w : World} {S : Nat → Prop} {B : Nat} (hS : ∀ b, S b → b < B) : ∀ {d : Nat} {v : Value} {l : List C}, LIn w S d v l → LAt w B d v l
  | 0, _, _, h => h
  | d + 1, v, l, h => by
    obtain ⟨A, cap, rfl, h1, h2, h3⟩ := h
    refine ⟨A, cap, rfl, h1, h2, fun hl => ?_⟩
    obtain ⟨b, o, rfl, hb, hr⟩ := h3 hl
    refine ⟨b, o, rfl, hS b hb, fun i hi => ?_⟩
    obtain ⟨u, r, f, s⟩ := hr i hi
    exact ⟨u, r, f, LIn.lat hS s⟩
theorem LIn.slice {w : World} {S : Nat → Prop} {d : Nat} {u : Value} {l : List C} (h : LIn w S d u l) : ∃ A cap, u = .slice A l.length cap := by
  cases d with
  | zero => exact h.elim
  | succ d => obtain ⟨A, cap, e, _⟩ := h; exact ⟨A, cap, e⟩
theorem LIn.nil (w : World) (S : Nat → Prop) (d : Nat) : LIn w S (d + 1) (.slice none 0 0) [] := ⟨none, 0, rfl, Nat.le_refl _, Nat.zero_le _, fun h => by simp at h⟩
theorem cell_same {w w' : World} {b : Nat} (h : w'.heap[b]? = w.heap[b]?) (o : Nat) : w'.cell? ⟨b, o, none⟩ = w.cell? ⟨b, o, none⟩ := World.cell?_of_block (a := ⟨b, o, none⟩) h

/-! Rows of cells. -/
def rowC (x : C × Value) : List Value := [.int .i64 x.1.k, .int .i64 x.1.n, .string x.1.s, x.2]
def rcells (l : List (C × Value)) : List Value := l.flatMap rowC
theorem rcells_cons (r : C × Value) (l : List (C × Value)) : rcells (r :: l) = rowC r ++ rcells l := rfl
theorem rcells_append (a b : List (C × Value)) : rcells (a ++ b) = rcells a ++ rcells b := by simp [rcells]
theorem rcells_get : ∀ (l : List (C × Value)) (i j : Nat) (h : i < l.length), j < 4 → (rcells l)[i * 4 + j]? = (rowC l[i])[j]?
  | r :: l, 0, j, _, hj => by
    rw [rcells_cons, List.getElem?_append_left (by show _ < 4; omega), Nat.zero_mul, Nat.zero_add]; rfl
  | r :: l, i + 1, j, h, hj => by
    rw [rcells_cons, List.getElem?_append_right (by show 4 ≤ _; omega)]
    have := rcells_get l i j (by simpa using h) hj
    rw [show (i + 1) * 4 + j - (rowC r).length = i * 4 + j by show (i + 1) * 4 + j - 4 = _; omega, this]; rfl

/-- The slice v is the call's own, from base on, and holds the cells D; their lists lie in other blocks, from base on. -/
structure OwnL (w : World) (base d : Nat) (v : Value) (D : List (C × Value)) : Prop where
  row : w.ownsRow base 25 4 v D.length (rcells D)
  subs : ∀ x ∈ D, Wf x.1 ∧ LIn w (fun b => base ≤ b ∧ b < w.heap.size ∧ some b ≠ v.ownBlock) d x.2 x.1.l

theorem OwnL.nil (w : World) (base d : Nat) : OwnL w base d (.slice none 0 0) [] := ⟨World.ownsRow_nil w base 25 4, by simp⟩
theorem OwnL.slice {w : World} {base d : Nat} {v : Value} {D : List (C × Value)} (h : OwnL w base d v D) : ∃ A cap, v = .slice A D.length cap := by
  rcases h.row.2 with ⟨rfl, h0⟩ | ⟨g, cap, _, rfl, _⟩
  · exact ⟨none, 0, by rw [h0]⟩
  · exact ⟨_, cap, rfl⟩
theorem OwnL.kept {w w' : World} {base d : Nat} {v : Value} {D : List (C × Value)} {row : Option Nat} (h : OwnL w base d v D) (hg : w.grownBy w' row) (hr : ∀ k, row = some k → k < base) : OwnL w' base d v D := by
  refine ⟨World.ownsRow.kept h.row hg ?_, fun x hx => ⟨(h.subs x hx).1, (h.subs x hx).2.keep (fun b hb => ⟨hb.1, Nat.lt_of_lt_of_le hb.2.1 hg.size, hb.2.2⟩) fun b o hb => cell_same (hg.block b hb.2.1 fun e => ?_) o⟩⟩
  · cases hv : v.ownBlock with
    | none => exact .inl rfl
    | some k => exact .inr fun e => by have := hr k e.symm; have := (h.row.lt k hv).1; omega
  · have := hr b e.symm; omega
/-- The list of an own slice. -/
theorem OwnL.list {w : World} {base d : Nat} {v : Value} {D : List (C × Value)} (h : OwnL w base d v D) : LIn w (fun b => base ≤ b ∧ b < w.heap.size) (d + 1) v (D.map (·.1)) := by
  rcases h.row.2 with ⟨rfl, h0⟩ | ⟨g, cap, cur, rfl, hb, hg, hnc, hcm, _, htake⟩
  · have : D = [] := List.length_eq_zero_iff.1 h0
    subst this
    exact LIn.nil _ _ _
  · refine ⟨some ⟨g, 0, none⟩, cap, by rw [List.length_map], by rw [List.length_map]; exact hnc, hcm, fun _ => ⟨g, 0, rfl, ⟨hb, (Array.getElem?_eq_some_iff.1 hg).1⟩, fun i hi => ?_⟩⟩
    rw [List.length_map] at hi
    have hc : ∀ j, j < 4 → w.cell? ⟨g, 0 + i * 4 + j, none⟩ = (rowC D[i])[j]? := fun j hj => by
      rw [Nat.zero_add, cell_of_row w g (i * 4 + j) cur 25 (0, 0) hg, ← rcells_get D i j hi hj, ← htake, List.getElem?_take, if_pos (by omega), Array.getElem?_toList]
    obtain ⟨hw, hs⟩ := h.subs D[i] (List.getElem_mem hi)
    refine ⟨D[i].2, ?_, by simpa using hw, ?_⟩
    · simp only [List.getElem_map]
      exact ⟨hc 0 (by omega), hc 1 (by omega), hc 2 (by omega), hc 3 (by omega)⟩
    · simp only [List.getElem_map]
      exact hs.keep (fun b hb => ⟨hb.1, hb.2.1⟩) fun _ _ _ => rfl

theorem OwnL.snoc {wr w2 w' : World} {base d : Nat} {v : Value} {D : List (C × Value)} {c : C} {u : Value} {g cap : Nat} {o : Obj} (h0 : OwnL wr base d v D) (hb : base ≤ wr.heap.size) (h2 : OwnL w2 base d v D)
    (hL : LIn w2 (fun b => wr.heap.size ≤ b ∧ b < w2.heap.size) d u c.l) (hwf : Wf c) (ho : w'.ownsRow base 25 4 (.slice (some ⟨g, 0, none⟩) (D.length + 1) cap) (D.length + 1) (rcells D ++ rowC (c, u)))
    (hg : (w2.alloc o).grownBy w' v.ownBlock) (hgl : v.ownBlock = some g ∨ g = w2.heap.size + 1) : OwnL w' base d (.slice (some ⟨g, 0, none⟩) (D.length + 1) cap) (D ++ [(c, u)]) := by
  have hsa : (w2.alloc o).heap.size = w2.heap.size + 1 := by simp
  have hsz := hg.size
  have hcell : ∀ b o', b < w2.heap.size → some b ≠ v.ownBlock → w'.cell? ⟨b, o', none⟩ = w2.cell? ⟨b, o', none⟩ := fun b o' h1 h2 =>
    cell_same ((hg.block b (by omega) h2).trans (Below.heap_alloc w2 o b h1)) o'
  have hne : ∀ b, b < w2.heap.size → some b ≠ v.ownBlock → some b ≠ (Value.slice (some ⟨g, 0, none⟩) (D.length + 1) cap).ownBlock := by
    intro b h1 h2 e
    simp only [Value.ownBlock, Option.some.injEq] at e
    rcases hgl with h3 | h3
    · exact h2 (by rw [h3, e])
    · omega
  refine ⟨?_, ?_⟩
  · rw [rcells_append, List.length_append]
    exact ho
  · intro x hx
    rcases List.mem_append.1 hx with hx | hx
    · obtain ⟨hw, hl⟩ := h2.subs x hx
      exact ⟨hw, hl.keep (fun b hb => ⟨hb.1, by omega, hne b hb.2.1 hb.2.2⟩) fun b o' hb => hcell b o' hb.2.1 hb.2.2⟩
    · rw [List.mem_singleton] at hx
      subst hx
      have hnv : ∀ b, wr.heap.size ≤ b → some b ≠ v.ownBlock := fun b hb e => by have := (h0.row.lt b e.symm).2; omega
      exact ⟨hwf, hL.keep (fun b hb => ⟨by omega, by omega, hne b hb.2 (hnv b hb.1)⟩) fun b o' hb => hcell b o' hb.2 (hnv b hb.1)⟩
theorem grown_past {a b c : World} {row row2 : Option Nat} (h : a.grownBy b row) (k : b.grownBy c row2) (hr : ∀ i, row2 = some i → a.heap.size ≤ i) : a.grownBy c row :=
  ⟨k.os.trans h.os, k.tape.trans h.tape, k.output.trans h.output, Nat.le_trans h.size k.size, fun i hi hn => (k.block i (Nat.lt_of_lt_of_le hi h.size) fun e => by have := hr i e.symm; omega).trans (h.block i hi hn)⟩

/-- What readCell comes to. -/
def CellTo (R : Nat) (s : ByteArray) (left : Nat) (w : World) (r : PR) (e : Ending) (w' : World) : Prop :=
  w.grownBy w' (some R) ∧ match r with
    | .bad n z => Fails ((s.size : Int) - n) z e
    | .ok c rest => ∃ u, e = .returned (cellV c u) ∧ LIn w' (fun b => w.heap.size ≤ b ∧ b < w'.heap.size) left u c.l ∧ RdAt w' R s (s.size - rest.length)
def ListTo (R : Nat) (s : ByteArray) (left : Nat) (w : World) (r : PL) (e : Ending) (w' : World) : Prop :=
  w.grownBy w' (some R) ∧ match r with
    | .bad n z => Fails ((s.size : Int) - n) z e
    | .ok l rest => ∃ u, e = .returned (cellV (.mk 3 0 ⟨#[]⟩ l) u) ∧ LIn w' (fun b => w.heap.size ≤ b ∧ b < w'.heap.size) (left + 1) u l ∧ RdAt w' R s (s.size - rest.length)

theorem grown_row {a b : World} {row : Option Nat} (h : a.grownBy b row) (g : Nat) (hg : a.heap.size ≤ g) (cs : Array Value) : a.grownBy (b.setRow g cs) row :=
  ⟨h.os, h.tape, h.output, by rw [setRow_size]; exact h.size, fun i hi hn => (setRow_other _ _ _ _ (by omega)).trans (h.block i hi hn)⟩
theorem ListTo.made {R : Nat} {s : ByteArray} {left : Nat} {w wr : World} {p' : Nat} {D : List (C × Value)} {A : Option Addr} {cap : Nat} {o : Obj} {cs : Array Value} (hg : (w.alloc o).grownBy wr (some R)) (hr : RdAt wr R s p') (hp : p' ≤ s.size) (hR : R < w.heap.size)
    (ho : OwnL wr (w.heap.size + 1) left (.slice A D.length cap) D) :
    ListTo R s left w (.ok (D.map (·.1)) (s.data.toList.drop p')) (.returned (.agg #[.int .i64 3, .int .i64 0, .string ⟨#[]⟩, .slice A D.length cap])) (wr.setRow w.heap.size cs) := by
  refine ⟨grown_row (grown_trans (World.grownBy_alloc w _ _) hg) _ (Nat.le_refl _) _, .slice A D.length cap, rfl, ?_, ?_⟩
  · rw [setRow_size]
    exact ho.list.keep (fun b hb => ⟨by omega, hb.2⟩) fun b o' hb => cell_same (setRow_other _ _ _ _ (by omega)) o'
  · rw [List.length_drop, size_data, show s.size - (s.size - p') = p' by omega]
    unfold RdAt
    rw [setRow_other _ _ _ _ (by omega)]
    exact hr

theorem parse_rest {d : Nat} {L : List UInt8} {p : Nat} {c : C} {r : List UInt8} (h : parse d (L.drop p) = .ok c r) (hp : p ≤ L.length) : r = L.drop (L.length - r.length) ∧ r.length ≤ L.length := by
  obtain ⟨h1, _, _⟩ := parse_ok d _ _ _ h
  have hl := congrArg List.length h1
  rw [List.length_drop, List.length_append] at hl
  refine ⟨?_, by omega⟩
  have h2 : (L.drop p).drop (encC d c).length = r := by rw [h1, List.drop_left]
  rw [List.drop_drop] at h2
  rw [show L.length - r.length = p + (encC d c).length by omega]
  exact h2.symm

theorem wf_of_ok {d : Nat} {c : C} (h : okC d c = true) (hf : Fit d c) : Wf c := by
  cases d with
  | zero => cases h
  | succ d =>
    obtain ⟨k, n, s, l⟩ := c
    rw [Fit_succ] at hf
    rw [okC_succ] at h
    by_cases k1 : k = 1
    · subst k1
      rw [if_pos rfl, Bool.and_eq_true] at h
      have := toList_empty h.1
      subst this
      exact ⟨by rw [k_mk]; omega, by rw [k_mk]; omega, hf.1, hf.2.1, by rw [s_mk]; exact Nat.zero_le _⟩
    · rw [if_neg k1] at h
      by_cases k2 : k = 2
      · subst k2
        rw [if_pos rfl] at h
        simp only [Bool.and_eq_true, decide_eq_true_eq] at h
        exact ⟨by rw [k_mk]; omega, by rw [k_mk]; omega, hf.1, hf.2.1, by rw [s_mk]; omega⟩
      · rw [if_neg k2] at h
        by_cases k3 : k = 3
        · subst k3
          rw [if_pos rfl] at h
          simp only [Bool.and_eq_true, decide_eq_true_eq] at h
          have := toList_empty h.2.1
          subst this
          exact ⟨by rw [k_mk]; omega, by rw [k_mk]; omega, hf.1, hf.2.1, by rw [s_mk]; exact Nat.zero_le _⟩
        · rw [if_neg k3] at h; cases h

def consL (D : List C) : PL → PL
  | .bad n e => .bad n e
  | .ok l r => .ok (D ++ l) r
theorem readsN_succ (f : List UInt8 → PR) (n : Nat) (r : List UInt8) : readsN f (n + 1) r = match f r with
    | .bad a e => .bad a e
    | .ok c r' => match readsN f n r' with
      | .bad a e => .bad a e
      | .ok l r'' => .ok (c :: l) r'' := rfl
theorem Try.info25 : (Try.prog.info? 25).map (fun i => (i.zero, i.size, i.bytes)) = some (some (.agg #[.int .i64 0, .int .i64 0, .string ⟨#[]⟩, .slice none 0 0]), 4, 56) := by kernel_rfl
theorem info25 : ∃ i, Try.prog.info? 25 = some i ∧ i.zero = some (.agg #[.int .i64 0, .int .i64 0, .string ⟨#[]⟩, .slice none 0 0]) ∧ i.size = 4 ∧ i.bytes = 56 := by
  have h := Try.info25
  cases hq : Try.prog.info? 25 with
  | none => simp [hq] at h
  | some i =>
    simp [hq] at h
    exact ⟨i, rfl, h.1, h.2.1, h.2.2⟩

set_option maxRecDepth 100000 in
set_option maxHeartbeats 1600000 in
theorem readList43 (R : Nat) (s : ByteArray) (left : Nat)
    (ih : ∀ (level p : Nat) (w : World), RdAt w R s p → p ≤ s.size → level + left = 17 → Calls Try.prog 31 #[.pointer (some ⟨R, 0, none⟩), .int .i64 level] w (CellTo R s left w (parse left (s.data.toList.drop p))))
    (count level p : Nat) (w : World) (h : RdAt w R s p) (hp : p ≤ s.size) (hll : level + left = 17) (hc : count ≤ 4095) :
    Calls Try.prog 43 #[.pointer (some ⟨R, 0, none⟩), .int .i64 count, .int .i64 level] w (ListTo R s left w (readsN (parse left) count (s.data.toList.drop p))) := by
  obtain ⟨i0, hi, hz0, hz1, hz2⟩ := info25
  obtain ⟨q, hq⟩ : ∃ q, readsN (parse left) count (s.data.toList.drop p) = q := ⟨_, rfl⟩
  rw [hq]
  have HQ := Lib.hid hq
  have HR := Lib.hid h
  have HP := Lib.hid hp
  have HIH := Lib.hid ih
  have hRl := h.lt
  clear hq h ih hp
  go_enter Try.func43, Try.ntmps43
  go_wp2_with fail
  have hw1 : (w.alloc (.cells #[.int .i64 0, .int .i64 0, .string ⟨#[]⟩, .slice none 0 0] 25)).heap.size = w.heap.size + 1 := by simp
  go_loopw [7, 9] (fun s7 s9 wr => ∃ (k p' : Nat) (D : List (C × Value)), k ≤ count ∧ s9 = .int .i64 k ∧ D.length = k ∧ Hid (OwnL wr (w.heap.size + 1) left s7 D) ∧ Hid ((w.alloc (.cells #[.int .i64 0, .int .i64 0, .string ⟨#[]⟩, .slice none 0 0] 25)).grownBy wr (some R)) ∧ Hid (RdAt wr R s p') ∧ Hid (p' ≤ s.size) ∧ Hid (consL (D.map (·.1)) (readsN (parse left) (count - k) (s.data.toList.drop p')) = q)) (fun _ s9 _ => count - (intOf s9).toNat)
  case atStart =>
    refine ⟨0, p, [], Nat.zero_le _, rfl, rfl, OwnL.nil _ _ _, grown_refl _ _, HR.out.alloc _, HP.out, ?_⟩
    unfold Hid
    rw [Nat.sub_zero, HQ.out]
    cases q <;> rfl
  case round =>
    obtain ⟨k, p', D, hk, rfl, rfl, HO, HG, HRd, HP', HT⟩ := hrel
    clear HQ HR HP
    have hsz := HG.out.size
    by_cases hlt : D.length < count
    · obtain ⟨n', hn'⟩ : ∃ n', count - D.length = n' + 1 := ⟨count - D.length - 1, by omega⟩
      have hT := HT.out
      rw [hn', readsN_succ] at hT
      obtain ⟨r, hr⟩ : ∃ r, parse left (s.data.toList.drop p') = r := ⟨_, rfl⟩
      have hC := HIH.out level p' wr HRd.out HP'.out hll
      rw [hr] at hC hT
      have HC := Lib.hid hC
      have HO0 := HO
      obtain ⟨A, cap, rfl⟩ := HO.out.slice
      cases r with
      | bad n z =>
        have hq : q = .bad n z := by rw [← hT]; rfl
        subst hq
        clear hT HT hC hr
        go_wp2_with fail
        refine HC.out.mono ?_
        rintro e w2 ⟨hg2, rfl⟩
        exact ⟨rfl, grown_trans (grown_trans (World.grownBy_alloc w _ _) HG.out) hg2, rfl⟩
      | ok c rest =>
        obtain ⟨hrest, hrl⟩ := parse_rest hr (by rw [size_data]; exact HP'.out)
        rw [size_data] at hrest hrl
        obtain ⟨-, hokc, hfit⟩ := parse_ok _ _ _ _ hr
        have hwf := wf_of_ok hokc hfit
        obtain ⟨ck, cn, cs, cl⟩ := c
        have HWF := Lib.hid hwf
        have HN : Hid (consL (D.map (·.1) ++ [.mk ck cn cs cl]) (readsN (parse left) (count - (D.length + 1)) (s.data.toList.drop (s.size - rest.length))) = q) := by
          unfold Hid
          rw [← hrest, ← hT, show count - (D.length + 1) = n' by omega]
          simp only
          cases readsN (parse left) n' rest with
          | bad a e => rfl
          | ok l r'' => simp [consL]
        clear hT HT hC hr hrest hwf hokc hfit hn'
        go_wp2_with fail
        refine HC.out.mono ?_
        rintro e w2 ⟨hg2, u, rfl, hL, hRd2⟩
        have hL := hL
        obtain ⟨A2, cap2, rfl⟩ := hL.slice
        rw [l_mk] at hL ⊢
        have hL' := Lib.hid hL
        generalize cl.length = cn2 at hL hL' ⊢
        have HO2 : Hid (OwnL w2 (w.heap.size + 1) left (.slice A D.length cap) D) := HO.out.kept hg2 (fun k e => by injection e with e; omega)
        have HG2 : Hid ((w.alloc (.cells #[.int .i64 0, .int .i64 0, .string ⟨#[]⟩, .slice none 0 0] 25)).grownBy w2 (some R)) := grown_trans HG.out hg2
        have HRd2 := Lib.hid hRd2
        have hsz2 := hg2.size
        clear hL hRd2 HO HG HRd HP' HC
        rw [hw1] at hsz
        unfold cellV
        simp only [k_mk, n_mk, s_mk]
        go_wp2_with (at_builtin; go_must (refine wpList_append_lies _ rfl _ _ 23 rfl (w.heap.size + 1) 25 i0 _ 4 56 Try.underlying23 hi hz0 hz1 hz2 rfl (by omega) _ D.length (rcells D) rfl ?own ⟨w2.heap.size, 0, none⟩ 1 1 (rowC (.mk ck cn cs cl, .slice A2 cn2 cap2)) rfl rfl ?news ?one (by omega) ?c3 ?c4 ?c5 _ rfl ?_))
        case own => exact World.ownsRow.alloc HO2.out.row _
        case news =>
          refine World.news_of_block (cs := #[.int .i64 ck, .int .i64 cn, .string cs, .slice A2 cn2 cap2]) (t := 25) (fr := (0, 0)) ?_
          exact heap_alloc_new w2 (.cells #[.int .i64 ck, .int .i64 cn, .string cs, .slice A2 cn2 cap2] 25)
        case one => simp [rowC, Value.oneCell']
        case c3 => unfold maxLen; omega
        case c4 => omega
        case c5 => simp; omega
        rintro g c w' ho hg hgl hlt2
        have hgl' : (Value.slice A D.length cap).ownBlock = some g ∨ g = w2.heap.size + 1 := by simpa using hgl
        have HO3 := Lib.hid (OwnL.snoc HO0.out hsz HO2.out hL'.out HWF.out ho hg hgl')
        have hbs : ∀ i, (Value.slice A D.length cap).ownBlock = some i → w.heap.size + 1 ≤ i := fun i e => (HO2.out.row.lt i e).1
        have HG3 := Lib.hid (grown_past (grown_alloc HG2.out _) hg (fun i e => by rw [hw1]; exact hbs i e))
        have HRd3 : Hid (RdAt w' R s (s.size - rest.length)) := (HRd2.out.alloc _).grown hg (fun e => by have := hbs R e.symm; omega)
        have hDl : (D ++ [(C.mk ck cn cs cl, Value.slice A2 cn2 cap2)]).length = D.length + 1 := by rw [List.length_append]; rfl
        have HDL := Lib.hid hDl
        have HN2 : Hid (consL ((D ++ [(C.mk ck cn cs cl, Value.slice A2 cn2 cap2)]).map (·.1)) (readsN (parse left) (count - (D.length + 1)) (s.data.toList.drop (s.size - rest.length))) = q) := by unfold Hid; rw [List.map_append]; exact HN.out
        clear ho hg hgl hgl' hbs HO2 HO0 HG2 HRd2 hDl HN
        go_wp2_with fail
        go_roundw
        case rel => exact ⟨D.length + 1, s.size - rest.length, D ++ [(C.mk ck cn cs cl, Value.slice A2 cn2 cap2)], by omega, by go_num, HDL.out, HO3, HG3, HRd3, Nat.sub_le _ _, HN2⟩
        case measure => simp [intOf]; omega
    · have hk2 : count - D.length = 0 := by omega
      have hq : q = .ok (D.map (·.1)) (s.data.toList.drop p') := by rw [← HT.out, hk2]; simp [readsN, consL]
      subst hq
      have HO0 := HO
      obtain ⟨A, cap, rfl⟩ := HO.out.slice
      have hB0 : wr.heap[w.heap.size]? = some (.cells #[.int .i64 0, .int .i64 0, .string ⟨#[]⟩, .slice none 0 0] 25 (0, 0)) := by
        rw [HG.out.block w.heap.size (by rw [hw1]; omega) (fun e => by injection e with e; omega)]
        exact heap_alloc_new w _
      clear HT HO
      have hall : (#[Value.int .i64 3, .int .i64 0, .string ⟨#[]⟩, .slice A D.length cap]).all (·.oneCell') = true := by simp [Value.oneCell']
      have hss : (Try.prog.info? 25).map (·.size) = some (#[Value.int .i64 3, .int .i64 0, .string ⟨#[]⟩, .slice A D.length cap]).size := size25
      have HALL := Lib.hid hall
      have HSS := Lib.hid hss
      have HB0 := Lib.hid hB0
      clear hall hss hB0
      go_wp2_with (refine wpList_store_row (P := Try.prog) rfl 25 _ _ rfl w.heap.size #[.int .i64 3, .int .i64 0, .string ⟨#[]⟩, .slice A D.length cap] rfl rfl 25 _ HB0.out HSS.out rfl HALL.out ?_)
      refine bodyPost_ret (results_cell_row (p := 6) (ty := 25) rfl _ _ w.heap.size 25 #[.int .i64 3, .int .i64 0, .string ⟨#[]⟩, .slice A D.length cap] (0, 0) _ ?hp (setRow_heap wr w.heap.size _ _ 25 (0, 0) HB0.out) Try.underlying25 rfl (by exact HSS.out)) rfl ?_
      case hp => simp [Act.put]
      rw [hw1] at hsz
      exact ListTo.made HG.out HRd.out HP'.out hRl HO0.out
end Go.Proofs.Ytdmalkkpcggifaa
