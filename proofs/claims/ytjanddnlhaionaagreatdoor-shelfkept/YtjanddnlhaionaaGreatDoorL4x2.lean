/-
  Cells that a call made, in memory; the contract of readList, by that of readCell. No condition but bounds on lengths. The contract of readCell. No condition but bounds on lengths. The contracts of Next's deferred function, of Next and of Take. No condition but bounds on lengths.
-/
import Derived.Test.YtjanddnlhaionaaGreatDoorL4x1
import Derived.Deep.AppendLies
import Derived.OwnWalk
import Derived.Laws.Tables
import Derived.Defers
import Derived.Recover
set_option maxRecDepth 100000
namespace Go.Proofs.YtjanddnlhaionaaGreatDoor.L4
open Go.RowKit

/-- The slice v reads as the cells l, in blocks that S tells, in at most d levels. -/
def LIn (w : World) (S : Nat → Prop) : Nat → Value → List C → Prop
  | 0, _, _ => False
  | d + 1, v, l => ∃ A cap, v = .slice A l.length cap ∧ l.length ≤ cap ∧ cap ≤ maxLen ∧ (0 < l.length → ∃ b o, A = some ⟨b, o, none⟩ ∧ S b ∧ ∀ i (h : i < l.length), ∃ u, RowAt w b (o + i * 4) l[i] u ∧ Wf l[i] ∧ LIn w S d u l[i].l)
theorem LIn.keep {w w' : World} {S S' : Nat → Prop} (hS : ∀ b, S b → S' b) (hk : ∀ b o, S b → w'.cell? ⟨b, o, none⟩ = w.cell? ⟨b, o, none⟩) : ∀ {d : Nat} {v : Value} {l : List C}, LIn w S d v l → LIn w' S' d v l
  | 0, _, _, h => h
  | d + 1, v, l, h => by
    obtain ⟨A, cap, rfl, h1, h2, h3⟩ := h
    refine ⟨A, cap, rfl, h1, h2, fun hl => ?_⟩
    obtain ⟨b, o, rfl, hb, hr⟩ := h3 hl
    refine ⟨b, o, rfl, hS b hb, fun i hi => ?_⟩
    obtain ⟨u, r, f, s⟩ := hr i hi
    exact ⟨u, r.keep fun o => hk b o hb, f, LIn.keep hS hk s⟩
theorem LIn.lat {w : World} {S : Nat → Prop} {B : Nat} (hS : ∀ b, S b → b < B) : ∀ {d : Nat} {v : Value} {l : List C}, LIn w S d v l → LAt w B d v l
  | 0, _, _, h => h
  | d + 1, v, l, h => by
    obtain ⟨A, cap, rfl, h1, h2, h3⟩ := h
    refine ⟨A, cap, rfl, h1, h2, fun hl => ?_⟩
    obtain ⟨b, o, rfl, hb, hr⟩ := h3 hl
    refine ⟨b, o, rfl, hS b hb, fun i hi => ?_⟩
    obtain ⟨u, r, f, s⟩ := hr i hi
    exact ⟨u, r, f, LIn.lat hS s⟩
theorem LIn.slice {w : World} {S : Nat → Prop} {d : Nat} {u : Value} {l : List C} (h : LIn w S d u l) : ∃ A cap, u = .slice A l.length cap := by
  cases d with
  | zero => exact h.elim
  | succ d => obtain ⟨A, cap, e, _⟩ := h; exact ⟨A, cap, e⟩
theorem LIn.nil (w : World) (S : Nat → Prop) (d : Nat) : LIn w S (d + 1) (.slice none 0 0) [] := ⟨none, 0, rfl, Nat.le_refl _, Nat.zero_le _, fun h => by simp at h⟩
theorem cell_same {w w' : World} {b : Nat} (h : w'.heap[b]? = w.heap[b]?) (o : Nat) : w'.cell? ⟨b, o, none⟩ = w.cell? ⟨b, o, none⟩ := World.cell?_of_block (a := ⟨b, o, none⟩) h

/-! Rows of cells. -/
def rowC (x : C × Value) : List Value := [.int .i64 x.1.k, .int .i64 x.1.n, .string x.1.s, x.2]
def rcells (l : List (C × Value)) : List Value := l.flatMap rowC
theorem rcells_cons (r : C × Value) (l : List (C × Value)) : rcells (r :: l) = rowC r ++ rcells l := rfl
theorem rcells_append (a b : List (C × Value)) : rcells (a ++ b) = rcells a ++ rcells b := by simp [rcells]
theorem rcells_get : ∀ (l : List (C × Value)) (i j : Nat) (h : i < l.length), j < 4 → (rcells l)[i * 4 + j]? = (rowC l[i])[j]?
  | r :: l, 0, j, _, hj => by
    rw [rcells_cons, List.getElem?_append_left (by show _ < 4; omega), Nat.zero_mul, Nat.zero_add]; rfl
  | r :: l, i + 1, j, h, hj => by
    rw [rcells_cons, List.getElem?_append_right (by show 4 ≤ _; omega)]
    have := rcells_get l i j (by simpa using h) hj
    rw [show (i + 1) * 4 + j - (rowC r).length = i * 4 + j by show (i + 1) * 4 + j - 4 = _; omega, this]; rfl

/-- A block of cells, none frozen. -/
def T38 (w : World) (b : Nat) : Prop := ∃ cs, w.heap[b]? = some (.cells cs 38 (0, 0))
theorem T38.lt {w : World} {b : Nat} (h : T38 w b) : b < w.heap.size := by
  obtain ⟨cs, h⟩ := h
  exact (Array.getElem?_eq_some_iff.1 h).1
theorem T38.keep {w w' : World} {b : Nat} (h : T38 w b) (hb : w'.heap[b]? = w.heap[b]?) : T38 w' b := by
  obtain ⟨cs, h⟩ := h
  exact ⟨cs, hb.trans h⟩
/-- The slice v is the call's own, from base on, and holds the cells D; their lists lie in other blocks, from base on. -/
structure OwnL (w : World) (base d : Nat) (v : Value) (D : List (C × Value)) : Prop where
  row : w.ownsRow base 38 4 v D.length (rcells D)
  subs : ∀ x ∈ D, Wf x.1 ∧ LIn w (fun b => base ≤ b ∧ T38 w b ∧ some b ≠ v.ownBlock) d x.2 x.1.l

theorem OwnL.nil (w : World) (base d : Nat) : OwnL w base d (.slice none 0 0) [] := ⟨World.ownsRow_nil w base 38 4, by simp⟩
theorem OwnL.slice {w : World} {base d : Nat} {v : Value} {D : List (C × Value)} (h : OwnL w base d v D) : ∃ A cap, v = .slice A D.length cap := by
  rcases h.row.2 with ⟨rfl, h0⟩ | ⟨g, cap, _, rfl, _⟩
  · exact ⟨none, 0, by rw [h0]⟩
  · exact ⟨_, cap, rfl⟩
theorem OwnL.kept {w w' : World} {base d : Nat} {v : Value} {D : List (C × Value)} {row : Option Nat} (h : OwnL w base d v D) (hg : w.grownBy w' row) (hr : ∀ k, row = some k → k < base) : OwnL w' base d v D := by
  refine ⟨World.ownsRow.kept h.row hg ?_, fun x hx => ⟨(h.subs x hx).1, (h.subs x hx).2.keep (fun b hb => ⟨hb.1, hb.2.1.keep (hg.block b hb.2.1.lt fun e => ?_), hb.2.2⟩) fun b o hb => cell_same (hg.block b hb.2.1.lt fun e => ?_) o⟩⟩
  · cases hv : v.ownBlock with
    | none => exact .inl rfl
    | some k => exact .inr fun e => by have := hr k e.symm; have := (h.row.lt k hv).1; omega
  · have := hr b e.symm; have := hb.1; omega
  · have := hr b e.symm; have := hb.1; omega
/-- The list of an own slice. -/
theorem OwnL.list {w : World} {base d : Nat} {v : Value} {D : List (C × Value)} (h : OwnL w base d v D) : LIn w (fun b => base ≤ b ∧ T38 w b) (d + 1) v (D.map (·.1)) := by
  rcases h.row.2 with ⟨rfl, h0⟩ | ⟨g, cap, cur, rfl, hb, hg, hnc, hcm, _, htake⟩
  · have : D = [] := List.length_eq_zero_iff.1 h0
    subst this
    exact LIn.nil _ _ _
  · refine ⟨some ⟨g, 0, none⟩, cap, by rw [List.length_map], by rw [List.length_map]; exact hnc, hcm, fun _ => ⟨g, 0, rfl, ⟨hb, _, hg⟩, fun i hi => ?_⟩⟩
    rw [List.length_map] at hi
    have hc : ∀ j, j < 4 → w.cell? ⟨g, 0 + i * 4 + j, none⟩ = (rowC D[i])[j]? := fun j hj => by
      rw [Nat.zero_add, cell_of_row w g (i * 4 + j) cur 38 (0, 0) hg, ← rcells_get D i j hi hj, ← htake, List.getElem?_take, if_pos (by omega), Array.getElem?_toList]
    obtain ⟨hw, hs⟩ := h.subs D[i] (List.getElem_mem hi)
    refine ⟨D[i].2, ?_, by simpa using hw, ?_⟩
    · simp only [List.getElem_map]
      exact ⟨hc 0 (by omega), hc 1 (by omega), hc 2 (by omega), hc 3 (by omega)⟩
    · simp only [List.getElem_map]
      exact hs.keep (fun b hb => ⟨hb.1, hb.2.1⟩) fun _ _ _ => rfl

theorem OwnL.snoc {wr w2 w' : World} {base d : Nat} {v : Value} {D : List (C × Value)} {c : C} {u : Value} {g cap : Nat} {o : Obj} (h0 : OwnL wr base d v D) (hb : base ≤ wr.heap.size) (h2 : OwnL w2 base d v D)
    (hL : LIn w2 (fun b => wr.heap.size ≤ b ∧ T38 w2 b) d u c.l) (hwf : Wf c) (ho : w'.ownsRow base 38 4 (.slice (some ⟨g, 0, none⟩) (D.length + 1) cap) (D.length + 1) (rcells D ++ rowC (c, u)))
    (hg : (w2.alloc o).grownBy w' v.ownBlock) (hgl : v.ownBlock = some g ∨ g = w2.heap.size + 1) : OwnL w' base d (.slice (some ⟨g, 0, none⟩) (D.length + 1) cap) (D ++ [(c, u)]) := by
  have hsa : (w2.alloc o).heap.size = w2.heap.size + 1 := by simp
  have hsz := hg.size
  have hblk : ∀ b, b < w2.heap.size → some b ≠ v.ownBlock → w'.heap[b]? = w2.heap[b]? := fun b h1 h2 => (hg.block b (by omega) h2).trans (Below.heap_alloc w2 o b h1)
  have hcell : ∀ b o', b < w2.heap.size → some b ≠ v.ownBlock → w'.cell? ⟨b, o', none⟩ = w2.cell? ⟨b, o', none⟩ := fun b o' h1 h2 => cell_same (hblk b h1 h2) o'
  have hne : ∀ b, b < w2.heap.size → some b ≠ v.ownBlock → some b ≠ (Value.slice (some ⟨g, 0, none⟩) (D.length + 1) cap).ownBlock := by
    intro b h1 h2 e
    simp only [Value.ownBlock, Option.some.injEq] at e
    rcases hgl with h3 | h3
    · exact h2 (by rw [h3, e])
    · omega
  refine ⟨?_, ?_⟩
  · rw [rcells_append, List.length_append]
    exact ho
  · intro x hx
    rcases List.mem_append.1 hx with hx | hx
    · obtain ⟨hw, hl⟩ := h2.subs x hx
      exact ⟨hw, hl.keep (fun b hb => ⟨hb.1, hb.2.1.keep (hblk b hb.2.1.lt hb.2.2), hne b hb.2.1.lt hb.2.2⟩) fun b o' hb => hcell b o' hb.2.1.lt hb.2.2⟩
    · rw [List.mem_singleton] at hx
      subst hx
      have hnv : ∀ b, wr.heap.size ≤ b → some b ≠ v.ownBlock := fun b hb e => by have := (h0.row.lt b e.symm).2; omega
      exact ⟨hwf, hL.keep (fun b hb' => ⟨by have := hb'.1; omega, hb'.2.keep (hblk b hb'.2.lt (hnv b hb'.1)), hne b hb'.2.lt (hnv b hb'.1)⟩) fun b o' hb' => hcell b o' hb'.2.lt (hnv b hb'.1)⟩
theorem grown_past {a b c : World} {row row2 : Option Nat} (h : a.grownBy b row) (k : b.grownBy c row2) (hr : ∀ i, row2 = some i → a.heap.size ≤ i) : a.grownBy c row :=
  ⟨k.os.trans h.os, k.tape.trans h.tape, k.output.trans h.output, Nat.le_trans h.size k.size, fun i hi hn => (k.block i (Nat.lt_of_lt_of_le hi h.size) fun e => by have := hr i e.symm; omega).trans (h.block i hi hn)⟩

/-- What readCell comes to. -/
def CellTo (R : Nat) (s : ByteArray) (left : Nat) (w : World) (r : PR) (e : Ending) (w' : World) : Prop :=
  w.grownBy w' (some R) ∧ match r with
    | .bad n z => Fails ((s.size : Int) - n) z e
    | .ok c rest => ∃ u, e = .returned (cellV c u) ∧ LIn w' (fun b => w.heap.size ≤ b ∧ T38 w' b) left u c.l ∧ RdAt w' R s (s.size - rest.length)
def ListTo (R : Nat) (s : ByteArray) (left : Nat) (w : World) (r : PL) (e : Ending) (w' : World) : Prop :=
  w.grownBy w' (some R) ∧ match r with
    | .bad n z => Fails ((s.size : Int) - n) z e
    | .ok l rest => ∃ u, e = .returned (cellV (.mk 3 0 ⟨#[]⟩ l) u) ∧ LIn w' (fun b => w.heap.size ≤ b ∧ T38 w' b) (left + 1) u l ∧ RdAt w' R s (s.size - rest.length)

theorem grown_row {a b : World} {row : Option Nat} (h : a.grownBy b row) (g : Nat) (hg : a.heap.size ≤ g) (cs : Array Value) : a.grownBy (b.setRow g cs) row :=
  ⟨h.os, h.tape, h.output, by rw [setRow_size]; exact h.size, fun i hi hn => (setRow_other _ _ _ _ (by omega)).trans (h.block i hi hn)⟩
theorem ListTo.made {R : Nat} {s : ByteArray} {left : Nat} {w wr : World} {p' : Nat} {D : List (C × Value)} {A : Option Addr} {cap : Nat} {o : Obj} {cs : Array Value} (hg : (w.alloc o).grownBy wr (some R)) (hr : RdAt wr R s p') (hp : p' ≤ s.size) (hR : R < w.heap.size)
    (ho : OwnL wr (w.heap.size + 1) left (.slice A D.length cap) D) :
    ListTo R s left w (.ok (D.map (·.1)) (s.data.toList.drop p')) (.returned (.agg #[.int .i64 3, .int .i64 0, .string ⟨#[]⟩, .slice A D.length cap])) (wr.setRow w.heap.size cs) := by
  refine ⟨grown_row (grown_trans (World.grownBy_alloc w _ _) hg) _ (Nat.le_refl _) _, .slice A D.length cap, rfl, ?_, ?_⟩
  · exact ho.list.keep (fun b hb => ⟨by have := hb.1; omega, hb.2.keep (setRow_other _ _ _ _ (by have := hb.1; omega))⟩) fun b o' hb => cell_same (setRow_other _ _ _ _ (by have := hb.1; omega)) o'
  · rw [List.length_drop, size_data, show s.size - (s.size - p') = p' by omega]
    unfold RdAt
    rw [setRow_other _ _ _ _ (by omega)]
    exact hr

theorem parse_rest {d : Nat} {L : List UInt8} {p : Nat} {c : C} {r : List UInt8} (h : parse d (L.drop p) = .ok c r) (hp : p ≤ L.length) : r = L.drop (L.length - r.length) ∧ r.length ≤ L.length := by
  obtain ⟨h1, _, _⟩ := parse_ok d _ _ _ h
  have hl := congrArg List.length h1
  rw [List.length_drop, List.length_append] at hl
  refine ⟨?_, by omega⟩
  have h2 : (L.drop p).drop (encC d c).length = r := by rw [h1, List.drop_left]
  rw [List.drop_drop] at h2
  rw [show L.length - r.length = p + (encC d c).length by omega]
  exact h2.symm

theorem wf_of_ok {d : Nat} {c : C} (h : okC d c = true) (hf : Fit d c) : Wf c := by
  cases d with
  | zero => cases h
  | succ d =>
    obtain ⟨k, n, s, l⟩ := c
    rw [Fit_succ] at hf
    rw [okC_succ] at h
    by_cases k1 : k = 1
    · subst k1
      rw [if_pos rfl, Bool.and_eq_true] at h
      have := toList_empty h.1
      subst this
      exact ⟨by rw [k_mk]; omega, by rw [k_mk]; omega, hf.1, hf.2.1, by rw [s_mk]; exact Nat.zero_le _⟩
    · rw [if_neg k1] at h
      by_cases k2 : k = 2
      · subst k2
        rw [if_pos rfl] at h
        simp only [Bool.and_eq_true, decide_eq_true_eq] at h
        exact ⟨by rw [k_mk]; omega, by rw [k_mk]; omega, hf.1, hf.2.1, by rw [s_mk]; omega⟩
      · rw [if_neg k2] at h
        by_cases k3 : k = 3
        · subst k3
          rw [if_pos rfl] at h
          simp only [Bool.and_eq_true, decide_eq_true_eq] at h
          have := toList_empty h.2.1
          subst this
          exact ⟨by rw [k_mk]; omega, by rw [k_mk]; omega, hf.1, hf.2.1, by rw [s_mk]; exact Nat.zero_le _⟩
        · rw [if_neg k3] at h; cases h

def consL (D : List C) : PL → PL
  | .bad n e => .bad n e
  | .ok l r => .ok (D ++ l) r
theorem readsN_succ (f : List UInt8 → PR) (n : Nat) (r : List UInt8) : readsN f (n + 1) r = match f r with
    | .bad a e => .bad a e
    | .ok c r' => match readsN f n r' with
      | .bad a e => .bad a e
      | .ok l r'' => .ok (c :: l) r'' := rfl
theorem Tryz.info38 : (Tryz.prog.info? 38).map (fun i => (i.zero, i.size, i.bytes)) = some (some (.agg #[.int .i64 0, .int .i64 0, .string ⟨#[]⟩, .slice none 0 0]), 4, 56) := by kernel_rfl
theorem info25 : ∃ i, Tryz.prog.info? 38 = some i ∧ i.zero = some (.agg #[.int .i64 0, .int .i64 0, .string ⟨#[]⟩, .slice none 0 0]) ∧ i.size = 4 ∧ i.bytes = 56 := by
  have h := Tryz.info38
  cases hq : Tryz.prog.info? 38 with
  | none => simp [hq] at h
  | some i =>
    simp [hq] at h
    exact ⟨i, rfl, h.1, h.2.1, h.2.2⟩

set_option maxHeartbeats 1600000 in
theorem readList43 (R : Nat) (s : ByteArray) (left : Nat)
    (ih : ∀ (level p : Nat) (w : World), RdAt w R s p → p ≤ s.size → level + left = 17 → Calls Tryz.prog 154 #[.pointer (some ⟨R, 0, none⟩), .int .i64 level] w (CellTo R s left w (parse left (s.data.toList.drop p))))
    (count level p : Nat) (w : World) (h : RdAt w R s p) (hp : p ≤ s.size) (hll : level + left = 17) (hc : count ≤ 4095) :
    Calls Tryz.prog 186 #[.pointer (some ⟨R, 0, none⟩), .int .i64 count, .int .i64 level] w (ListTo R s left w (readsN (parse left) count (s.data.toList.drop p))) := by
  obtain ⟨i0, hi, hz0, hz1, hz2⟩ := info25
  obtain ⟨q, hq⟩ : ∃ q, readsN (parse left) count (s.data.toList.drop p) = q := ⟨_, rfl⟩
  rw [hq]
  have HQ := Lib.hid hq
  have HR := Lib.hid h
  have HP := Lib.hid hp
  have HIH := Lib.hid ih
  have hRl := h.lt
  clear hq h ih hp
  go_enter Tryz.func186, Tryz.ntmps186
  go_wp2_with fail
  have hw1 : (w.alloc (.cells #[.int .i64 0, .int .i64 0, .string ⟨#[]⟩, .slice none 0 0] 38)).heap.size = w.heap.size + 1 := by simp
  go_loopw [7, 9] (fun s7 s9 wr => ∃ (k p' : Nat) (D : List (C × Value)), k ≤ count ∧ s9 = .int .i64 k ∧ D.length = k ∧ Hid (OwnL wr (w.heap.size + 1) left s7 D) ∧ Hid ((w.alloc (.cells #[.int .i64 0, .int .i64 0, .string ⟨#[]⟩, .slice none 0 0] 38)).grownBy wr (some R)) ∧ Hid (RdAt wr R s p') ∧ Hid (p' ≤ s.size) ∧ Hid (consL (D.map (·.1)) (readsN (parse left) (count - k) (s.data.toList.drop p')) = q)) (fun _ s9 _ => count - (intOf s9).toNat)
  case atStart =>
    refine ⟨0, p, [], Nat.zero_le _, rfl, rfl, OwnL.nil _ _ _, grown_refl _ _, HR.out.alloc _, HP.out, ?_⟩
    unfold Hid
    rw [Nat.sub_zero, HQ.out]
    cases q <;> rfl
  case round =>
    obtain ⟨k, p', D, hk, rfl, rfl, HO, HG, HRd, HP', HT⟩ := hrel
    clear HQ HR HP
    have hsz := HG.out.size
    by_cases hlt : D.length < count
    · obtain ⟨n', hn'⟩ : ∃ n', count - D.length = n' + 1 := ⟨count - D.length - 1, by omega⟩
      have hT := HT.out
      rw [hn', readsN_succ] at hT
      obtain ⟨r, hr⟩ : ∃ r, parse left (s.data.toList.drop p') = r := ⟨_, rfl⟩
      have hC := HIH.out level p' wr HRd.out HP'.out hll
      rw [hr] at hC hT
      have HC := Lib.hid hC
      have HO0 := HO
      obtain ⟨A, cap, rfl⟩ := HO.out.slice
      cases r with
      | bad n z =>
        have hq : q = .bad n z := by rw [← hT]; rfl
        subst hq
        clear hT HT hC hr
        go_wp2_with fail
        refine HC.out.mono ?_
        rintro e w2 ⟨hg2, rfl⟩
        exact ⟨rfl, grown_trans (grown_trans (World.grownBy_alloc w _ _) HG.out) hg2, rfl⟩
      | ok c rest =>
        obtain ⟨hrest, hrl⟩ := parse_rest hr (by rw [size_data]; exact HP'.out)
        rw [size_data] at hrest hrl
        obtain ⟨-, hokc, hfit⟩ := parse_ok _ _ _ _ hr
        have hwf := wf_of_ok hokc hfit
        obtain ⟨ck, cn, cs, cl⟩ := c
        have HWF := Lib.hid hwf
        have HN : Hid (consL (D.map (·.1) ++ [.mk ck cn cs cl]) (readsN (parse left) (count - (D.length + 1)) (s.data.toList.drop (s.size - rest.length))) = q) := by
          unfold Hid
          rw [← hrest, ← hT, show count - (D.length + 1) = n' by omega]
          simp only
          cases readsN (parse left) n' rest with
          | bad a e => rfl
          | ok l r'' => simp [consL]
        clear hT HT hC hr hrest hwf hokc hfit hn'
        go_wp2_with fail
        refine HC.out.mono ?_
        rintro e w2 ⟨hg2, u, rfl, hL, hRd2⟩
        have hL := hL
        obtain ⟨A2, cap2, rfl⟩ := hL.slice
        rw [l_mk] at hL ⊢
        have hL' := Lib.hid hL
        generalize cl.length = cn2 at hL hL' ⊢
        have HO2 : Hid (OwnL w2 (w.heap.size + 1) left (.slice A D.length cap) D) := HO.out.kept hg2 (fun k e => by injection e with e; omega)
        have HG2 : Hid ((w.alloc (.cells #[.int .i64 0, .int .i64 0, .string ⟨#[]⟩, .slice none 0 0] 38)).grownBy w2 (some R)) := grown_trans HG.out hg2
        have HRd2 := Lib.hid hRd2
        have hsz2 := hg2.size
        clear hL hRd2 HO HG HRd HP' HC
        rw [hw1] at hsz
        unfold cellV
        simp only [k_mk, n_mk, s_mk]
        go_wp2_with (at_builtin; go_must (refine wpList_append_lies _ rfl _ _ 36 rfl (w.heap.size + 1) 38 i0 _ 4 56 Tryz.underlying36 hi hz0 hz1 hz2 rfl (by omega) _ D.length (rcells D) rfl ?own ⟨w2.heap.size, 0, none⟩ 1 1 (rowC (.mk ck cn cs cl, .slice A2 cn2 cap2)) rfl rfl ?news ?one (by omega) ?c3 ?c4 ?c5 _ rfl ?_))
        case own => exact World.ownsRow.alloc HO2.out.row _
        case news =>
          refine World.news_of_block (cs := #[.int .i64 ck, .int .i64 cn, .string cs, .slice A2 cn2 cap2]) (t := 38) (fr := (0, 0)) ?_
          exact heap_alloc_new w2 (.cells #[.int .i64 ck, .int .i64 cn, .string cs, .slice A2 cn2 cap2] 38)
        case one => simp [rowC, Value.oneCell']
        case c3 => unfold maxLen; omega
        case c4 => omega
        case c5 => simp; omega
        rintro g c w' ho hg hgl hlt2
        have hgl' : (Value.slice A D.length cap).ownBlock = some g ∨ g = w2.heap.size + 1 := by simpa using hgl
        have HO3 := Lib.hid (OwnL.snoc HO0.out hsz HO2.out hL'.out HWF.out ho hg hgl')
        have hbs : ∀ i, (Value.slice A D.length cap).ownBlock = some i → w.heap.size + 1 ≤ i := fun i e => (HO2.out.row.lt i e).1
        have HG3 := Lib.hid (grown_past (grown_alloc HG2.out _) hg (fun i e => by rw [hw1]; exact hbs i e))
        have HRd3 : Hid (RdAt w' R s (s.size - rest.length)) := (HRd2.out.alloc _).grown hg (fun e => by have := hbs R e.symm; omega)
        have hDl : (D ++ [(C.mk ck cn cs cl, Value.slice A2 cn2 cap2)]).length = D.length + 1 := by rw [List.length_append]; rfl
        have HDL := Lib.hid hDl
        have HN2 : Hid (consL ((D ++ [(C.mk ck cn cs cl, Value.slice A2 cn2 cap2)]).map (·.1)) (readsN (parse left) (count - (D.length + 1)) (s.data.toList.drop (s.size - rest.length))) = q) := by unfold Hid; rw [List.map_append]; exact HN.out
        clear ho hg hgl hgl' hbs HO2 HO0 HG2 HRd2 hDl HN
        go_wp2_with fail
        go_roundw
        case rel => exact ⟨D.length + 1, s.size - rest.length, D ++ [(C.mk ck cn cs cl, Value.slice A2 cn2 cap2)], by omega, by go_num, HDL.out, HO3, HG3, HRd3, Nat.sub_le _ _, HN2⟩
        case measure => simp [intOf]; omega
    · have hk2 : count - D.length = 0 := by omega
      have hq : q = .ok (D.map (·.1)) (s.data.toList.drop p') := by rw [← HT.out, hk2]; simp [readsN, consL]
      subst hq
      have HO0 := HO
      obtain ⟨A, cap, rfl⟩ := HO.out.slice
      have hB0 : wr.heap[w.heap.size]? = some (.cells #[.int .i64 0, .int .i64 0, .string ⟨#[]⟩, .slice none 0 0] 38 (0, 0)) := by
        rw [HG.out.block w.heap.size (by rw [hw1]; omega) (fun e => by injection e with e; omega)]
        exact heap_alloc_new w _
      clear HT HO
      have hall : (#[Value.int .i64 3, .int .i64 0, .string ⟨#[]⟩, .slice A D.length cap]).all (·.oneCell') = true := by simp [Value.oneCell']
      have hss : (Tryz.prog.info? 38).map (·.size) = some (#[Value.int .i64 3, .int .i64 0, .string ⟨#[]⟩, .slice A D.length cap]).size := size25
      have HALL := Lib.hid hall
      have HSS := Lib.hid hss
      have HB0 := Lib.hid hB0
      clear hall hss hB0
      go_wp2_with (refine wpList_store_row (P := Tryz.prog) rfl 38 _ _ rfl w.heap.size #[.int .i64 3, .int .i64 0, .string ⟨#[]⟩, .slice A D.length cap] rfl rfl 38 _ HB0.out HSS.out rfl HALL.out ?_)
      refine bodyPost_ret (results_cell_row (p := 6) (ty := 38) rfl _ _ w.heap.size 38 #[.int .i64 3, .int .i64 0, .string ⟨#[]⟩, .slice A D.length cap] (0, 0) _ ?hp (setRow_heap wr w.heap.size _ _ 38 (0, 0) HB0.out) Tryz.underlying38 rfl (by exact HSS.out)) rfl ?_
      case hp => simp [Act.put]
      rw [hw1] at hsz
      exact ListTo.made HG.out HRd.out HP'.out hRl HO0.out
end Go.Proofs.YtjanddnlhaionaaGreatDoor.L4
namespace Go.Proofs.YtjanddnlhaionaaGreatDoor.L4
open Go.RowKit

theorem cut_one {s : ByteArray} {p : Nat} {b : UInt8} {r : List UInt8} (h : s.data.toList.drop p = b :: r) : ∃ t, cutS s p 1 = t ∧ t.size = 1 ∧ ∀ (h0 : 0 < t.size), t[0] = b := by
  refine ⟨⟨[b].toArray⟩, ?_, rfl, fun _ => rfl⟩
  unfold cutS
  rw [h]
  rfl

theorem meth88 (a b : Int) (w : World) : (method 441 276 (.agg #[.int .i64 a, .int .u64 b]) "fasti/cell.limits").run Tryz.prog w = .ok (258, .agg #[.int .i64 a, .int .u64 b]) w := by kernel_rfl
theorem meth89 (a b : Int) (w : World) : (method 441 277 (.agg #[.int .i64 a, .int .u64 b]) "fasti/cell.limits").run Tryz.prog w = .ok (258, .agg #[.int .i64 a, .int .u64 b]) w := by kernel_rfl
theorem meth90 (a b : Int) (w : World) : (method 441 278 (.agg #[.int .i64 a, .int .u64 b]) "fasti/cell.limits").run Tryz.prog w = .ok (258, .agg #[.int .i64 a, .int .u64 b]) w := by kernel_rfl
theorem meth95 (a b : Int) (w : World) : (method 441 300 (.agg #[.int .i64 a, .int .u64 b]) "fasti/cell.limits").run Tryz.prog w = .ok (258, .agg #[.int .i64 a, .int .u64 b]) w := by kernel_rfl
theorem as88_88 (a b : Int) (w : World) : (Instr.typeAssert (.iface 276 (.agg #[.int .i64 a, .int .u64 b])) 269 276 true).run Tryz.prog w = .ok (.tuple #[.agg #[.int .i64 a, .int .u64 b], .bool true]) w := by kernel_rfl
theorem as89_88 (a b : Int) (w : World) : (Instr.typeAssert (.iface 277 (.agg #[.int .i64 a, .int .u64 b])) 269 276 true).run Tryz.prog w = .ok (.tuple #[.agg #[.int .i64 0, .int .u64 0], .bool false]) w := by kernel_rfl
theorem as89_89 (a b : Int) (w : World) : (Instr.typeAssert (.iface 277 (.agg #[.int .i64 a, .int .u64 b])) 269 277 true).run Tryz.prog w = .ok (.tuple #[.agg #[.int .i64 a, .int .u64 b], .bool true]) w := by kernel_rfl
theorem as90_88 (a b : Int) (w : World) : (Instr.typeAssert (.iface 278 (.agg #[.int .i64 a, .int .u64 b])) 269 276 true).run Tryz.prog w = .ok (.tuple #[.agg #[.int .i64 0, .int .u64 0], .bool false]) w := by kernel_rfl
theorem as90_89 (a b : Int) (w : World) : (Instr.typeAssert (.iface 278 (.agg #[.int .i64 a, .int .u64 b])) 269 277 true).run Tryz.prog w = .ok (.tuple #[.agg #[.int .i64 0, .int .u64 0], .bool false]) w := by kernel_rfl
theorem as90_90 (a b : Int) (w : World) : (Instr.typeAssert (.iface 278 (.agg #[.int .i64 a, .int .u64 b])) 269 278 true).run Tryz.prog w = .ok (.tuple #[.agg #[.int .i64 a, .int .u64 b], .bool true]) w := by kernel_rfl
theorem as95_88 (a b : Int) (w : World) : (Instr.typeAssert (.iface 300 (.agg #[.int .i64 a, .int .u64 b])) 269 276 true).run Tryz.prog w = .ok (.tuple #[.agg #[.int .i64 0, .int .u64 0], .bool false]) w := by kernel_rfl
theorem as95_89 (a b : Int) (w : World) : (Instr.typeAssert (.iface 300 (.agg #[.int .i64 a, .int .u64 b])) 269 277 true).run Tryz.prog w = .ok (.tuple #[.agg #[.int .i64 0, .int .u64 0], .bool false]) w := by kernel_rfl
theorem as95_90 (a b : Int) (w : World) : (Instr.typeAssert (.iface 300 (.agg #[.int .i64 a, .int .u64 b])) 269 278 true).run Tryz.prog w = .ok (.tuple #[.agg #[.int .i64 0, .int .u64 0], .bool false]) w := by kernel_rfl
theorem CellTo.made {R : Nat} {s : ByteArray} {left : Nat} {w wr : World} {q : Nat} {c : C} {u : Value} {o : Obj} {cs : Array Value} {rest : List UInt8} (hg : (w.alloc o).grownBy wr (some R)) (hr : RdAt wr R s q) (hR : R < w.heap.size) (hq : s.size - rest.length = q)
    (hL : LIn wr (fun b => w.heap.size + 1 ≤ b ∧ T38 wr b) left u c.l) : CellTo R s left w (.ok c rest) (.returned (cellV c u)) (wr.setRow w.heap.size cs) := by
  refine ⟨grown_row (grown_trans (World.grownBy_alloc w _ _) hg) _ (Nat.le_refl _) _, u, rfl, ?_, ?_⟩
  · exact hL.keep (fun b hb => ⟨by have := hb.1; omega, hb.2.keep (setRow_other _ _ _ _ (by have := hb.1; omega))⟩) fun b o' hb => cell_same (setRow_other _ _ _ _ (by have := hb.1; omega)) o'
  · rw [hq]
    unfold RdAt
    rw [setRow_other _ _ _ _ (by omega)]
    exact hr
theorem row_kept {R : Nat} {w wr : World} {cs : Array Value} (hg : (w.alloc (.cells cs 38)).grownBy wr (some R)) (hR : R < w.heap.size) : wr.heap[w.heap.size]? = some (.cells cs 38 (0, 0)) := by
  rw [hg.block w.heap.size (by simp) (fun e => by injection e with e; omega)]
  exact heap_alloc_new w _
theorem all_one (k n : Int) (s : ByteArray) (A : Option Addr) (l cap : Nat) : (#[Value.int .i64 k, .int .i64 n, .string s, .slice A l cap]).all (·.oneCell') = true := by simp [Value.oneCell']
theorem size_four (k n : Int) (s : ByteArray) (A : Option Addr) (l cap : Nat) : (Tryz.prog.info? 38).map (·.size) = some (#[Value.int .i64 k, .int .i64 n, .string s, .slice A l cap]).size := size25
theorem method_run (m wd : Nat) (w : World) (hm : m = 1 ∨ m = 2 ∨ m = 3 ∨ m = 4) : (method 441 (tyOf m) (headV m wd) "fasti/cell.limits").run Tryz.prog w = .ok (258, headV m wd) w := by
  rcases hm with rfl | rfl | rfl | rfl
  · exact meth88 _ _ w
  · exact meth89 _ _ w
  · exact meth90 _ _ w
  · exact meth95 _ _ w

set_option maxHeartbeats 1600000 in
theorem readCell31 (R : Nat) (s : ByteArray) (hs : s.size ≤ 1000000000) (left : Nat) : ∀ (level p : Nat) (w : World), RdAt w R s p → p ≤ s.size → level + left = 17 →
    Calls Tryz.prog 154 #[.pointer (some ⟨R, 0, none⟩), .int .i64 level] w (CellTo R s left w (parse left (s.data.toList.drop p))) := by
  induction left with
  | zero =>
    intro level p w h hp hll
    have c1 := h.c1
    have HR := Lib.hid h
    have hRl := h.lt
    clear h
    cases hx : s.data.toList.drop p with
    | nil =>
      have hps : p = s.size := by have := congrArg List.length hx; rw [List.length_drop, size_data] at this; simp at this; omega
      subst hps
      have HC := Lib.hid (readBytes41_short R s.size 1 s (w.alloc (.cells #[.int .i64 0, .int .i64 0, .string ⟨#[]⟩, .slice none 0 0] 38)) (HR.out.alloc _) (Nat.le_refl _) (by omega) (by omega))
      rw [parse_nil]
      clear hx
      go_enter Tryz.func154, Tryz.ntmps154
      go_wp2_with fail
      refine HC.out.mono ?_
      rintro e w' ⟨rfl, hg⟩
      refine ⟨rfl, grown_trans (World.grownBy_alloc w _ _) hg, ?_⟩
      show Fails _ _ _
      simp [Fails]
    | cons b r =>
      have hps : s.size = p + (r.length + 1) := by have := congrArg List.length hx; rw [List.length_drop, size_data] at this; simp at this; omega
      have hbl := b.toNat_lt
      have HC := Lib.hid (readBytes41 R p 1 s (w.alloc (.cells #[.int .i64 0, .int .i64 0, .string ⟨#[]⟩, .slice none 0 0] 38)) (HR.out.alloc _) (by omega) hs)
      obtain ⟨t, ht, hts, ht0⟩ := cut_one hx
      rw [ht] at HC
      have ht0' : ((t[0]'(by omega)).toNat : Int) = (b.toNat : Int) := by rw [ht0]
      have HX := Lib.hid hx
      have HM := Lib.hid (fun w => meaningOf40 b.toNat hbl w)
      rw [parse_zero]
      have hm16 : b.toNat / 16 < 16 := by omega
      have hw16 : b.toNat % 16 < 16 := by omega
      generalize b.toNat / 16 = m at HM hm16 ⊢
      generalize b.toNat % 16 = wd at HM hw16 ⊢
      obtain ⟨q, hq⟩ : ∃ q, PR.bad (r.length + 1) (if headOk m wd = true then 5 else 4) = q := ⟨_, rfl⟩
      rw [hq]
      have HQ := Lib.hid hq
      generalize b.toNat = bn at ht0' HM hbl
      clear ht0 ht hx hq
      go_enter Tryz.func154, Tryz.ntmps154
      go_wp2_with fail
      refine HC.out.mono ?_
      rintro e w2 ⟨rfl, hR2, hg2⟩
      have hsz2 := hg2.size
      have HG2 := Lib.hid hg2
      have HR2 := Lib.hid hR2
      clear hg2 hR2 HC
      go_wp2_with fail
      refine (HM.out w2).mono ?_
      rintro e w2' ⟨rfl, rfl⟩
      have hlv : (16 : Int) < level := by omega
      by_cases hh : headOk m wd = true
      · have hmv : meaningV m wd = .iface (tyOf m) (headV m wd) := by unfold meaningV; rw [if_pos hh]
        rw [hmv]
        rw [Hid, if_pos hh] at HQ
        subst HQ
        clear hh hmv
        go_wp2_with fail
        refine ⟨rfl, grown_trans (World.grownBy_alloc w _ _) HG2.out, ?_⟩
        show Fails _ _ _
        rw [show (s.size : Int) - ((r.length + 1 : Nat) : Int) = p by omega]
        rfl
      · have hmv : meaningV m wd = .nilIface := by unfold meaningV; rw [if_neg hh]
        rw [hmv]
        rw [Hid, if_neg hh] at HQ
        subst HQ
        clear hh hmv
        go_wp2_with fail
        refine ⟨rfl, grown_trans (World.grownBy_alloc w _ _) HG2.out, ?_⟩
        show Fails _ _ _
        rw [show (s.size : Int) - ((r.length + 1 : Nat) : Int) = p by omega]
        rfl
  | succ left ih =>
    intro level p w h hp hll
    have c1 := h.c1
    have HR := Lib.hid h
    have hRl := h.lt
    have HIH := Lib.hid ih
    clear h ih
    cases hx : s.data.toList.drop p with
    | nil =>
      have hps : p = s.size := by have := congrArg List.length hx; rw [List.length_drop, size_data] at this; simp at this; omega
      subst hps
      have HC := Lib.hid (readBytes41_short R s.size 1 s (w.alloc (.cells #[.int .i64 0, .int .i64 0, .string ⟨#[]⟩, .slice none 0 0] 38)) (HR.out.alloc _) (Nat.le_refl _) (by omega) (by omega))
      rw [parse_nil]
      clear hx
      go_enter Tryz.func154, Tryz.ntmps154
      go_wp2_with fail
      refine HC.out.mono ?_
      rintro e w' ⟨rfl, hg⟩
      refine ⟨rfl, grown_trans (World.grownBy_alloc w _ _) hg, ?_⟩
      show Fails _ _ _
      simp [Fails]
    | cons b r =>
      have hps : s.size = p + (r.length + 1) := by have := congrArg List.length hx; rw [List.length_drop, size_data] at this; simp at this; omega
      have hbl := b.toNat_lt
      have HC := Lib.hid (readBytes41 R p 1 s (w.alloc (.cells #[.int .i64 0, .int .i64 0, .string ⟨#[]⟩, .slice none 0 0] 38)) (HR.out.alloc _) (by omega) hs)
      obtain ⟨t, ht, hts, ht0⟩ := cut_one hx
      rw [ht] at HC
      have ht0' : ((t[0]'(by omega)).toNat : Int) = (b.toNat : Int) := by rw [ht0]
      have HX := Lib.hid hx
      have HM := Lib.hid (fun w => meaningOf40 b.toNat hbl w)
      rw [parse_succ]
      have hm16 : b.toNat / 16 < 16 := by omega
      have hw16 : b.toNat % 16 < 16 := by omega
      generalize b.toNat / 16 = m at HM hm16 ⊢
      generalize b.toNat % 16 = wd at HM hw16 ⊢
      obtain ⟨q, hq⟩ : ∃ q, (if headOk m wd = true then based (parse left) m wd r else PR.bad (r.length + 1) 4) = q := ⟨_, rfl⟩
      rw [hq]
      have HQ := Lib.hid hq
      generalize b.toNat = bn at ht0' HM hbl
      clear ht0 ht hx hq
      go_enter Tryz.func154, Tryz.ntmps154
      go_wp2_with fail
      refine HC.out.mono ?_
      rintro e w2 ⟨rfl, hR2, hg2⟩
      have hsz2 := hg2.size
      have HG2 := Lib.hid hg2
      have HR2 := Lib.hid hR2
      clear hg2 hR2 HC
      go_wp2_with fail
      refine (HM.out w2).mono ?_
      rintro e w2' ⟨rfl, rfl⟩
      by_cases hh : headOk m wd = true
      · have hmv : meaningV m wd = .iface (tyOf m) (headV m wd) := by unfold meaningV; rw [if_pos hh]
        rw [hmv]
        rw [Hid, if_pos hh] at HQ
        replace HQ := Lib.hid HQ
        have hlv : ¬ (16 : Int) < level := by omega
        have hmt := method_run m wd w2 (headOk_m hh)
        have hwd8 := headOk_lt hh
        have hr : s.data.toList.drop (p + 1) = r := by
          have := congrArg (List.drop 1) HX.out
          rw [List.drop_drop] at this
          simpa using this
        have HLM := Lib.hid (limits62 wd (mostOf m) w2)
        have HHH := Lib.hid hh
        clear hh hmv
        go_wp2_with fail
        refine HLM.out.mono ?_
        rintro e w3 ⟨rfl, hb3⟩
        have HR3 := Lib.hid (HR2.out.below hb3)
        have HG3 := Lib.hid (grown_trans HG2.out (grown_of_below hb3 (some R)))
        have hsz3 := hb3.size
        clear hb3 HR2 HG2 HLM hmt
        rw [Hid] at HQ
        unfold based at HQ
        by_cases hsh : r.length < wd
        · rw [if_pos hsh] at HQ
          subst HQ
          have HB := Lib.hid (readBase42_short R (p + 1) wd (mostOf m) p s w3 HR3.out (by omega) (by omega) hwd8)
          clear hr
          go_wp2_with fail
          refine HB.out.mono ?_
          rintro e w4 ⟨rfl, hg4⟩
          refine ⟨rfl, grown_trans (grown_trans (World.grownBy_alloc w _ _) HG3.out) hg4, ?_⟩
          show Fails _ _ _
          simp [Fails]
        rw [if_neg hsh] at HQ
        have hB := readBase42 R (p + 1) wd (mostOf m) p s w3 HR3.out (by omega) hs hwd8 (mostOf_lt m) (r.take wd) (by rw [hr])
        have HB : Hid (Calls Tryz.prog 185 #[.pointer (some ⟨R, 0, none⟩), .int .i64 p, .agg #[.int .i64 wd, .int .u64 (mostOf m)]] w3 fun e w' =>
            w3.grownBy w' (some R) ∧ if baseBad m (r.take wd) = true then Fails p 4 e else e = .returned (.int .i64 (beN (r.take wd) : Nat)) ∧ RdAt w' R s (p + 1 + wd)) := hB
        clear hB
        by_cases hbb : baseBad m (r.take wd) = true
        · rw [if_pos hbb] at HQ
          subst HQ
          rw [hbb] at HB
          clear hr hbb
          go_wp2_with fail
          refine HB.out.mono ?_
          rintro e w4 ⟨hg4, rfl⟩
          refine ⟨rfl, grown_trans (grown_trans (World.grownBy_alloc w _ _) HG3.out) hg4, ?_⟩
          show Fails _ _ _
          rw [show (s.size : Int) - ((r.length + 1 : Nat) : Int) = p by omega]
          rfl
        rw [if_neg hbb] at HQ
        replace hbb := Bool.eq_false_iff.2 hbb
        rw [hbb] at HB
        have hmb := (baseBad_back hbb (by rw [List.length_take]; omega)).2
        have hmm := mostOf_lt m
        obtain ⟨x, hx⟩ : ∃ x, beN (r.take wd) = x := ⟨_, rfl⟩
        obtain ⟨r', hr'⟩ : ∃ r', r.drop wd = r' := ⟨_, rfl⟩
        have hrl : r.length = wd + r'.length := by rw [← hr', List.length_drop]; omega
        have HRD : Hid (s.data.toList.drop (p + 1 + wd) = r') := by unfold Hid; rw [← hr', ← hr, List.drop_drop]
        rw [hx] at HB hmb HQ
        rw [hr'] at HQ
        replace HQ := Lib.hid HQ
        clear hr hr' hx hbb hlv
        go_wp2_with fail
        refine HB.out.mono ?_
        rintro e w4 ⟨hg4, rfl, hR4⟩
        have HR4 := Lib.hid hR4
        have HG4 := Lib.hid (grown_trans HG3.out hg4)
        have hsz4 := hg4.size
        have hw1 : (w.alloc (.cells #[.int .i64 0, .int .i64 0, .string ⟨#[]⟩, .slice none 0 0] 38)).heap.size = w.heap.size + 1 := by simp
        rw [hw1] at hsz2
        clear hg4 hR4 HB HG3 HR3
        have hm4 := headOk_m HHH.out
        rcases hm4 with rfl | rfl | rfl | rfl
        · rw [show tyOf 1 = 276 from rfl]
          unfold headV
          have a1 := as88_88 wd (mostOf 1) w4
          have hq : q = .ok (.mk 1 (x) ⟨#[]⟩ []) r' := by rw [← HQ.out]; rfl
          subst hq
          have HN := Lib.hid (num16 (x) w4)
          have hxm : (x : Int) ≤ 9223372036854775807 := by omega
          clear HQ
          go_wp2_with fail
          refine HN.out.mono ?_
          rintro e w5 ⟨rfl, hb5⟩
          have HR5 := Lib.hid (HR4.out.below hb5)
          have HG5 := Lib.hid (grown_trans HG4.out (grown_of_below hb5 (some R)))
          have HB0 := Lib.hid (row_kept HG5.out hRl)
          have HALL := Lib.hid (all_one 1 (x) ⟨#[]⟩ none 0 0)
          have HSS := Lib.hid (size_four 1 (x) ⟨#[]⟩ none 0 0)
          clear hb5 HN HR4 HG4
          go_wp2_with (refine wpList_store_row (P := Tryz.prog) rfl 38 _ _ rfl w.heap.size #[.int .i64 1, .int .i64 x, .string ⟨#[]⟩, .slice none 0 0] rfl rfl 38 _ HB0.out HSS.out rfl HALL.out ?_)
          refine bodyPost_ret (results_cell_row (p := 4) (ty := 38) rfl _ _ w.heap.size 38 #[.int .i64 1, .int .i64 x, .string ⟨#[]⟩, .slice none 0 0] (0, 0) _ ?hp (setRow_heap _ w.heap.size _ _ 38 (0, 0) HB0.out) Tryz.underlying38 rfl (by exact HSS.out)) rfl ?_
          case hp => simp [Act.put]
          exact CellTo.made (c := .mk 1 (x) ⟨#[]⟩ []) HG5.out HR5.out hRl (by omega) (LIn.nil _ _ _)
        · rw [show tyOf 2 = 277 from rfl]
          unfold headV
          have a1 := as89_88 wd (mostOf 2) w4
          have a2 := as89_89 wd (mostOf 2) w4
          have hq : q = .ok (.mk 1 (-(x : Int) - 1) ⟨#[]⟩ []) r' := by rw [← HQ.out]; rfl
          subst hq
          have HN := Lib.hid (num16 (-(x : Int) - 1) w4)
          have hxm : (x : Int) ≤ 9223372036854775807 := by omega
          clear HQ
          go_wp2_with fail
          refine HN.out.mono ?_
          rintro e w5 ⟨rfl, hb5⟩
          have HR5 := Lib.hid (HR4.out.below hb5)
          have HG5 := Lib.hid (grown_trans HG4.out (grown_of_below hb5 (some R)))
          have HB0 := Lib.hid (row_kept HG5.out hRl)
          have HALL := Lib.hid (all_one 1 (-(x : Int) - 1) ⟨#[]⟩ none 0 0)
          have HSS := Lib.hid (size_four 1 (-(x : Int) - 1) ⟨#[]⟩ none 0 0)
          clear hb5 HN HR4 HG4
          go_wp2_with (refine wpList_store_row (P := Tryz.prog) rfl 38 _ _ rfl w.heap.size #[.int .i64 1, .int .i64 (-(x : Int) - 1), .string ⟨#[]⟩, .slice none 0 0] rfl rfl 38 _ HB0.out HSS.out rfl HALL.out ?_)
          refine bodyPost_ret (results_cell_row (p := 4) (ty := 38) rfl _ _ w.heap.size 38 #[.int .i64 1, .int .i64 (-(x : Int) - 1), .string ⟨#[]⟩, .slice none 0 0] (0, 0) _ ?hp (setRow_heap _ w.heap.size _ _ 38 (0, 0) HB0.out) Tryz.underlying38 rfl (by exact HSS.out)) rfl ?_
          case hp => simp [Act.put]
          exact CellTo.made (c := .mk 1 (-(x : Int) - 1) ⟨#[]⟩ []) HG5.out HR5.out hRl (by omega) (LIn.nil _ _ _)
        · rw [show tyOf 3 = 278 from rfl]
          unfold headV
          have a1 := as90_88 wd (mostOf 3) w4
          have a2 := as90_89 wd (mostOf 3) w4
          have a3 := as90_90 wd (mostOf 3) w4
          have hQ := HQ.out
          unfold body at hQ
          rw [if_neg (by omega), if_neg (by omega), if_pos rfl] at hQ
          clear HQ
          by_cases hsx : r'.length < x
          · rw [if_pos hsx] at hQ
            subst hQ
            have HB := Lib.hid (readBytes41_short R (p + 1 + wd) x s w4 HR4.out (by omega) (by omega) (by omega))
            go_wp2_with fail
            refine HB.out.mono ?_
            rintro e w5 ⟨rfl, hg5⟩
            refine ⟨rfl, grown_trans (grown_trans (World.grownBy_alloc w _ _) HG4.out) hg5, ?_⟩
            show Fails _ _ _
            simp [Fails]
          rw [if_neg hsx] at hQ
          have hB := readBytes41 R (p + 1 + wd) x s w4 HR4.out (by omega) hs
          obtain ⟨tx, htx⟩ : ∃ tx, (⟨(r'.take x).toArray⟩ : ByteArray) = tx := ⟨_, rfl⟩
          rw [show cutS s (p + 1 + wd) x = tx by unfold cutS; rw [HRD.out, htx]] at hB
          have HB := Lib.hid hB
          rw [htx] at hQ
          subst hQ
          have hrx : (r'.drop x).length = r'.length - x := List.length_drop
          have HRX := Lib.hid hrx
          clear hB htx hrx
          go_wp2_with fail
          refine HB.out.mono ?_
          rintro e w5 ⟨rfl, hR5, hg5⟩
          have HR5 := Lib.hid hR5
          have HG5 := Lib.hid (grown_trans HG4.out hg5)
          have HN := Lib.hid (text17 tx w5)
          clear hR5 hg5 HR4 HG4 HB
          go_wp2_with fail
          refine HN.out.mono ?_
          rintro e w6 ⟨rfl, hb6⟩
          have HR6 := Lib.hid (HR5.out.below hb6)
          have HG6 := Lib.hid (grown_trans HG5.out (grown_of_below hb6 (some R)))
          have HB0 := Lib.hid (row_kept HG6.out hRl)
          have HALL := Lib.hid (all_one 2 0 tx none 0 0)
          have HSS := Lib.hid (size_four 2 0 tx none 0 0)
          clear hb6 HN HR5 HG5
          go_wp2_with (refine wpList_store_row (P := Tryz.prog) rfl 38 _ _ rfl w.heap.size #[.int .i64 2, .int .i64 0, .string tx, .slice none 0 0] rfl rfl 38 _ HB0.out HSS.out rfl HALL.out ?_)
          refine bodyPost_ret (results_cell_row (p := 4) (ty := 38) rfl _ _ w.heap.size 38 #[.int .i64 2, .int .i64 0, .string tx, .slice none 0 0] (0, 0) _ ?hp (setRow_heap _ w.heap.size _ _ 38 (0, 0) HB0.out) Tryz.underlying38 rfl (by exact HSS.out)) rfl ?_
          case hp => simp [Act.put]
          exact CellTo.made (c := .mk 2 (0) tx []) HG6.out HR6.out hRl (by rw [HRX.out]; omega) (LIn.nil _ _ _)
        · rw [show tyOf 4 = 300 from rfl]
          unfold headV
          have a1 := as95_88 wd (mostOf 4) w4
          have a2 := as95_89 wd (mostOf 4) w4
          have a3 := as95_90 wd (mostOf 4) w4
          have hx4 : x ≤ 4095 := hmb
          have hQ := HQ.out
          unfold body at hQ
          rw [if_neg (by omega), if_neg (by omega), if_neg (by omega)] at hQ
          have hB := readList43 R s left HIH.out x (level + 1) (p + 1 + wd) w4 HR4.out (by omega) (by omega) hx4
          rw [HRD.out] at hB
          have hlw : IntKind.i64.wrap ((level : Int) + 1) = ((level + 1 : Nat) : Int) := by rw [IntWalk.i64_in _ (by omega)]; omega
          have HB := Lib.hid hB
          clear hB HQ hmb
          obtain ⟨rl, hrl2⟩ : ∃ rl, readsN (parse left) x r' = rl := ⟨_, rfl⟩
          have HRL := Lib.hid hrl2
          rw [hrl2] at HB hQ
          clear hrl2
          cases rl with
          | bad n z =>
            simp only at hQ
            subst hQ
            go_wp2_with fail
            refine HB.out.mono ?_
            rintro e w5 ⟨hg5, rfl⟩
            exact ⟨rfl, grown_trans (grown_trans (World.grownBy_alloc w _ _) HG4.out) hg5, rfl⟩
          | ok l rest =>
            simp only at hQ
            subst hQ
            go_wp2_with fail
            refine HB.out.mono ?_
            rintro e w6 ⟨hg6, u, rfl, hL, hR6⟩
            obtain ⟨A2, cap2, rfl⟩ := hL.slice
            have HL := Lib.hid (hL.keep (S' := fun b => w.heap.size + 1 ≤ b ∧ T38 w6 b) (fun b hb => ⟨by have := hb.1; omega, hb.2⟩) fun _ _ _ => rfl)
            have HR6 := Lib.hid hR6
            have HG6 := Lib.hid (grown_trans HG4.out hg6)
            have HB0 := Lib.hid (row_kept HG6.out hRl)
            have HALL := Lib.hid (all_one 3 0 ⟨#[]⟩ A2 l.length cap2)
            have HSS := Lib.hid (size_four 3 0 ⟨#[]⟩ A2 l.length cap2)
            clear hg6 hR6 HR4 HG4 hL HB
            unfold cellV
            simp only [k_mk, n_mk, s_mk]
            go_wp2_with (refine wpList_store_row (P := Tryz.prog) rfl 38 _ _ rfl w.heap.size #[.int .i64 3, .int .i64 0, .string ⟨#[]⟩, .slice A2 l.length cap2] rfl rfl 38 _ HB0.out HSS.out rfl HALL.out ?_)
            refine bodyPost_ret (results_cell_row (p := 4) (ty := 38) rfl _ _ w.heap.size 38 #[.int .i64 3, .int .i64 0, .string ⟨#[]⟩, .slice A2 l.length cap2] (0, 0) _ ?hp (setRow_heap _ w.heap.size _ _ 38 (0, 0) HB0.out) Tryz.underlying38 rfl (by exact HSS.out)) rfl ?_
            case hp => simp [Act.put]
            exact CellTo.made (c := .mk 3 (0) ⟨#[]⟩ l) HG6.out HR6.out hRl rfl HL.out
      · have hmv : meaningV m wd = .nilIface := by unfold meaningV; rw [if_neg hh]
        rw [hmv]
        rw [Hid, if_neg hh] at HQ
        subst HQ
        clear hh hmv
        go_wp2_with fail
        refine ⟨rfl, grown_trans (World.grownBy_alloc w _ _) HG2.out, ?_⟩
        show Fails _ _ _
        rw [show (s.size : Int) - ((r.length + 1 : Nat) : Int) = p by omega]
        rfl
end Go.Proofs.YtjanddnlhaionaaGreatDoor.L4
namespace Go.Proofs.YtjanddnlhaionaaGreatDoor.L4
open Go.RowKit

theorem as59 (a b : Int) (w : World) : (Instr.typeAssert (.iface 227 (.agg #[.int .i64 a, .int .i64 b])) 20 227 true).run Tryz.prog w = .ok (.tuple #[.agg #[.int .i64 a, .int .i64 b], .bool true]) w := by kernel_rfl
theorem asNil (w : World) : (Instr.typeAssert .nilIface 20 227 true).run Tryz.prog w = .ok (.tuple #[.agg #[.int .i64 0, .int .i64 0], .bool false]) w := by kernel_rfl

theorem catch_idle (p q r : Addr) (w : World) :
    CallsD Tryz.prog 153 #[.pointer (some p), .pointer (some q), .pointer (some r)] .returning w fun e u' w' => e = .returned (.tuple #[]) ∧ u' = .returning ∧ Below w.heap.size w w' := by
  refine callsD_of_wpS Tryz.func153 rfl fun c₀ cs hu => ?_
  have hn := asNil
  apply wpS_seq
  apply wpS_region
  simp [wpOpsS, go_sem, recoverD, hu, Tryz.ntmps153, Exit.thenS, hn]
  apply wpS_seq
  apply wpS_region
  simp [wpOpsS, go_sem, Exit.thenS]
  refine wpS_cond (t := false) (by simp [Act.eval, Array.replicate]) ?_
  simp only [Bool.false_eq_true, if_false]
  refine wpS_of_wp (wp_skip ?_)
  cases c₀
  simp_all [bodyPostS, results, Tryz.results153]
  exact (Below.refl _ w).alloc (Nat.le_refl _) _

theorem set_row {w : World} {g : Nat} {cs : Array Value} {ty : TypeId} (h : w.heap[g]? = some (.cells cs ty (0, 0))) (j : Nat) (v : Value) : (w.setCell ⟨g, j, none⟩ v).heap[g]? = some (.cells (cs.setIfInBounds j v) ty (0, 0)) := by
  simp only [World.setCell, Array.getElem?_modify, h]
  simp

theorem six_sets (P Q S : Nat) (w : World) (x0 x1 x2 x3 y0 z0 v0 v1 v2 v3 v4 v5 : Value) (h0 : w.heap[P]? = some (.cells #[x0, x1, x2, x3] 38 (0, 0))) (h1 : w.heap[Q]? = some (.cells #[y0] 3 (0, 0))) (h2 : w.heap[S]? = some (.cells #[z0] 30 (0, 0))) (hPQ : P < Q) (hQS : Q < S) :
    Below P w ((((((w.setCell ⟨P, 0, none⟩ v0).setCell ⟨P, 1, none⟩ v1).setCell ⟨P, 2, none⟩ v2).setCell ⟨P, 3, none⟩ v3).setCell ⟨Q, 0, none⟩ v4).setCell ⟨S, 0, none⟩ v5).drew ∧
    ((((((w.setCell ⟨P, 0, none⟩ v0).setCell ⟨P, 1, none⟩ v1).setCell ⟨P, 2, none⟩ v2).setCell ⟨P, 3, none⟩ v3).setCell ⟨Q, 0, none⟩ v4).setCell ⟨S, 0, none⟩ v5).drew.heap[P]? = some (.cells #[v0, v1, v2, v3] 38 (0, 0)) ∧
    ((((((w.setCell ⟨P, 0, none⟩ v0).setCell ⟨P, 1, none⟩ v1).setCell ⟨P, 2, none⟩ v2).setCell ⟨P, 3, none⟩ v3).setCell ⟨Q, 0, none⟩ v4).setCell ⟨S, 0, none⟩ v5).drew.heap[Q]? = some (.cells #[v4] 3 (0, 0)) ∧
    ((((((w.setCell ⟨P, 0, none⟩ v0).setCell ⟨P, 1, none⟩ v1).setCell ⟨P, 2, none⟩ v2).setCell ⟨P, 3, none⟩ v3).setCell ⟨Q, 0, none⟩ v4).setCell ⟨S, 0, none⟩ v5).drew.heap[S]? = some (.cells #[v5] 30 (0, 0)) := by
  have a0 := set_row (set_row (set_row (set_row h0 0 v0) 1 v1) 2 v2) 3 v3
  have a1 : ((((w.setCell ⟨P, 0, none⟩ v0).setCell ⟨P, 1, none⟩ v1).setCell ⟨P, 2, none⟩ v2).setCell ⟨P, 3, none⟩ v3).heap[Q]? = some (.cells #[y0] 3 (0, 0)) := by
    rw [Below.heap_setCell _ ⟨P, 3, none⟩ _ Q (by simp only; omega), Below.heap_setCell _ ⟨P, 2, none⟩ _ Q (by simp only; omega), Below.heap_setCell _ ⟨P, 1, none⟩ _ Q (by simp only; omega), Below.heap_setCell _ ⟨P, 0, none⟩ _ Q (by simp only; omega)]
    exact h1
  have a2 : ((((w.setCell ⟨P, 0, none⟩ v0).setCell ⟨P, 1, none⟩ v1).setCell ⟨P, 2, none⟩ v2).setCell ⟨P, 3, none⟩ v3).heap[S]? = some (.cells #[z0] 30 (0, 0)) := by
    rw [Below.heap_setCell _ ⟨P, 3, none⟩ _ S (by simp only; omega), Below.heap_setCell _ ⟨P, 2, none⟩ _ S (by simp only; omega), Below.heap_setCell _ ⟨P, 1, none⟩ _ S (by simp only; omega), Below.heap_setCell _ ⟨P, 0, none⟩ _ S (by simp only; omega)]
    exact h2
  have hb : Below P w ((((w.setCell ⟨P, 0, none⟩ v0).setCell ⟨P, 1, none⟩ v1).setCell ⟨P, 2, none⟩ v2).setCell ⟨P, 3, none⟩ v3) :=
    ((((Below.refl P w).setCell (p := ⟨P, 0, none⟩) (Nat.le_refl _) _).setCell (p := ⟨P, 1, none⟩) (Nat.le_refl _) _).setCell (p := ⟨P, 2, none⟩) (Nat.le_refl _) _).setCell (p := ⟨P, 3, none⟩) (Nat.le_refl _) _
  generalize (((w.setCell ⟨P, 0, none⟩ v0).setCell ⟨P, 1, none⟩ v1).setCell ⟨P, 2, none⟩ v2).setCell ⟨P, 3, none⟩ v3 = W at a0 a1 a2 hb
  refine ⟨((hb.setCell (p := ⟨Q, 0, none⟩) (Nat.le_of_lt hPQ) _).setCell (p := ⟨S, 0, none⟩) (by simp only; omega) _).drew, ?_, ?_, ?_⟩
  · show ((W.setCell ⟨Q, 0, none⟩ v4).setCell ⟨S, 0, none⟩ v5).heap[P]? = _
    rw [Below.heap_setCell _ ⟨S, 0, none⟩ _ P (by simp only; omega), Below.heap_setCell _ ⟨Q, 0, none⟩ _ P (by simp only; omega), a0]
    rfl
  · show ((W.setCell ⟨Q, 0, none⟩ v4).setCell ⟨S, 0, none⟩ v5).heap[Q]? = _
    rw [Below.heap_setCell _ ⟨S, 0, none⟩ _ Q (by simp only; omega), set_row a1 0 v4]
    rfl
  · have a3 : (W.setCell ⟨Q, 0, none⟩ v4).heap[S]? = some (.cells #[z0] 30 (0, 0)) := by
      rw [Below.heap_setCell _ ⟨Q, 0, none⟩ _ S (by simp only; omega)]
      exact a2
    show ((W.setCell ⟨Q, 0, none⟩ v4).setCell ⟨S, 0, none⟩ v5).heap[S]? = _
    rw [set_row a3 0 v5]
    rfl

set_option maxHeartbeats 1000000 in
theorem catch_walk (P Q S F : Nat) (a b : Int) (w : World) (x0 x1 x2 x3 y0 z0 : Value) (h0 : w.heap[P]? = some (.cells #[x0, x1, x2, x3] 38 (0, 0))) (h1 : w.heap[Q]? = some (.cells #[y0] 3 (0, 0))) (h2 : w.heap[S]? = some (.cells #[z0] 30 (0, 0)))
    (hF : w.heap[F]? = some (.cells #[.int .i64 a, .int .i64 b] 227 (0, 0))) (hPQ : P < Q) (hQS : Q < S) (hSF : S < F) (t4 t5 t6 t7 t8 t9 t10 : Value) (K : Exit → Act → World → Prop)
    (hK : ∀ tm w', Below P w w' → w'.heap[P]? = some (.cells #[.int .i64 0, .int .i64 0, .string ⟨#[]⟩, .slice none 0 0] 38 (0, 0)) → w'.heap[Q]? = some (.cells #[.int .i64 a] 3 (0, 0)) → w'.heap[S]? = some (.cells #[.int .i64 b] 30 (0, 0)) → K .normal { tmps := tm, defers := [] } w') :
    Code.wp Tryz.prog (Code.region 2 (match Tryz.f153.body with | some (.seq _ (.seq _ (.cond _ (.region _ o _) _))) => o | _ => #[]) true) K { tmps := #[.pointer (some ⟨P, 0, none⟩), .pointer (some ⟨Q, 0, none⟩), .pointer (some ⟨S, 0, none⟩), .pointer (some ⟨F, 0, none⟩), t4, t5, t6, t7, t8, t9, t10, undef, undef, undef, undef, undef], defers := [] } w := by
  unfold Tryz.f153
  simp only []
  have HK := Lib.hid hK
  clear hK
  have f0 : w.cell? ⟨F, 0, none⟩ = some (.int .i64 a) := cell_of_row w F 0 _ 227 (0, 0) hF
  have f1 : w.cell? ⟨F, 1, none⟩ = some (.int .i64 b) := cell_of_row w F 1 _ 227 (0, 0) hF
  have p0 : w.cell? ⟨P, 0, none⟩ = some x0 := cell_of_row w P 0 _ 38 (0, 0) h0
  have p1 : w.cell? ⟨P, 1, none⟩ = some x1 := cell_of_row w P 1 _ 38 (0, 0) h0
  have p2 : w.cell? ⟨P, 2, none⟩ = some x2 := cell_of_row w P 2 _ 38 (0, 0) h0
  have p3 : w.cell? ⟨P, 3, none⟩ = some x3 := cell_of_row w P 3 _ 38 (0, 0) h0
  have q0 : w.cell? ⟨Q, 0, none⟩ = some y0 := cell_of_row w Q 0 _ 3 (0, 0) h1
  have s0 : w.cell? ⟨S, 0, none⟩ = some z0 := cell_of_row w S 0 _ 30 (0, 0) h2
  have zp : ∀ j, w.frozen? ⟨P, j, none⟩ = false := fun j => by simp [World.frozen?, h0]
  have zq : ∀ j, w.frozen? ⟨Q, j, none⟩ = false := fun j => by simp [World.frozen?, h1]
  have zs : ∀ j, w.frozen? ⟨S, j, none⟩ = false := fun j => by simp [World.frozen?, h2]
  have H0 := Lib.hid h0
  have H1 := Lib.hid h1
  have H2 := Lib.hid h2
  have n1 : ¬ P = F := by omega
  have n2 : ¬ Q = F := by omega
  have n3 : ¬ S = F := by omega
  have n4 : ¬ P = Q := by omega
  have n5 : ¬ Q = S := by omega
  have n6 : ¬ P = S := by omega
  clear h0 h1 h2 hF
  go_region
  obtain ⟨r0, r1, r2, r3⟩ := six_sets P Q S w x0 x1 x2 x3 y0 z0 (.int .i64 0) (.int .i64 0) (.string ⟨#[]⟩) (.slice none 0 0) (.int .i64 a) (.int .i64 b) H0.out H1.out H2.out hPQ hQS
  exact HK.out _ _ r0 r1 r2 r3

theorem catch_walk' (P Q S F : Nat) (a b : Int) (w : World) (x0 x1 x2 x3 y0 z0 : Value) (ops : Array Oper) (hops : (match Tryz.f153.body with | some (.seq _ (.seq _ (.cond _ (.region _ o _) _))) => o | _ => #[]) = ops) (tm0 : Array Value) (t4 t5 t6 t7 t8 t9 t10 : Value)
    (htm : tm0 = #[.pointer (some ⟨P, 0, none⟩), .pointer (some ⟨Q, 0, none⟩), .pointer (some ⟨S, 0, none⟩), .pointer (some ⟨F, 0, none⟩), t4, t5, t6, t7, t8, t9, t10, undef, undef, undef, undef, undef]) (h0 : w.heap[P]? = some (.cells #[x0, x1, x2, x3] 38 (0, 0))) (h1 : w.heap[Q]? = some (.cells #[y0] 3 (0, 0))) (h2 : w.heap[S]? = some (.cells #[z0] 30 (0, 0)))
    (hF : w.heap[F]? = some (.cells #[.int .i64 a, .int .i64 b] 227 (0, 0))) (hPQ : P < Q) (hQS : Q < S) (hSF : S < F) (K : Exit → Act → World → Prop)
    (hK : ∀ tm w', Below P w w' → w'.heap[P]? = some (.cells #[.int .i64 0, .int .i64 0, .string ⟨#[]⟩, .slice none 0 0] 38 (0, 0)) → w'.heap[Q]? = some (.cells #[.int .i64 a] 3 (0, 0)) → w'.heap[S]? = some (.cells #[.int .i64 b] 30 (0, 0)) → K .normal { tmps := tm, defers := [] } w') :
    Code.wp Tryz.prog (Code.region 2 ops true) K { tmps := tm0, defers := [] } w := by
  subst htm hops
  exact catch_walk P Q S F a b w x0 x1 x2 x3 y0 z0 h0 h1 h2 hF hPQ hQS hSF t4 t5 t6 t7 t8 t9 t10 K hK

set_option maxHeartbeats 1000000 in
theorem catch_panicking (P Q S : Nat) (a b : Int) (older : List PanicEntry) (w : World) (x0 x1 x2 x3 y0 z0 : Value) (h0 : w.heap[P]? = some (.cells #[x0, x1, x2, x3] 38 (0, 0))) (h1 : w.heap[Q]? = some (.cells #[y0] 3 (0, 0))) (h2 : w.heap[S]? = some (.cells #[z0] 30 (0, 0)))
    (hPQ : P < Q) (hQS : Q < S) :
    CallsD Tryz.prog 153 #[.pointer (some ⟨P, 0, none⟩), .pointer (some ⟨Q, 0, none⟩), .pointer (some ⟨S, 0, none⟩)] (.panicking ({ v := failV a b, recovered := false } :: older)) w fun e u' w' =>
      e = .returned (.tuple #[]) ∧ u' = .panicking ({ v := failV a b, recovered := true } :: older) ∧ Below P w w' ∧
      w'.heap[P]? = some (.cells #[.int .i64 0, .int .i64 0, .string ⟨#[]⟩, .slice none 0 0] 38 (0, 0)) ∧ w'.heap[Q]? = some (.cells #[.int .i64 a] 3 (0, 0)) ∧ w'.heap[S]? = some (.cells #[.int .i64 b] 30 (0, 0)) := by
  refine callsD_of_wpS Tryz.func153 rfl fun c₀ cs hu => ?_
  have hn := as59 a b
  apply wpS_seq
  apply wpS_region
  simp [wpOpsS, go_sem, recoverD, hu, Tryz.ntmps153, Exit.thenS, failV, hn]
  apply wpS_seq
  apply wpS_region
  simp [wpOpsS, go_sem, Exit.thenS]
  refine wpS_cond (t := true) (by simp [Act.eval, Array.replicate]) ?_
  simp only [if_true]
  refine wpS_of_wp ?_
  have hS := (Array.getElem?_eq_some_iff.1 h2).1
  refine catch_walk' P Q S w.heap.size a b _ x0 x1 x2 x3 y0 z0 _ ?hops _ (.bool true) (.tuple #[.agg #[.int .i64 a, .int .i64 b], .bool true]) (.iface 227 (.agg #[.int .i64 a, .int .i64 b])) (.tuple #[.agg #[.int .i64 a, .int .i64 b], .bool true]) (.agg #[.int .i64 a, .int .i64 b]) (.bool true) (.bool true) ?htm ?_ ?_ ?_ ?_ hPQ hQS hS _ ?_
  case hops => kernel_rfl
  case htm => kernel_rfl
  · rw [Below.heap_alloc _ _ _ (by omega)]; exact h0
  · rw [Below.heap_alloc _ _ _ (by omega)]; exact h1
  · rw [Below.heap_alloc _ _ _ hS]; exact h2
  · exact heap_alloc_new w _
  · intro tm w' hb g0 g1 g2
    exact ⟨rfl, _, rfl, _, by simp [results, Tryz.results153], rfl, rfl, ((Below.refl P w).alloc (by omega) _).trans hb, g0, g1, g2⟩
end Go.Proofs.YtjanddnlhaionaaGreatDoor.L4
