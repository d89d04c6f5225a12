/-
  The contract of Get. No condition but on lengths.
-/
import Derived.Test.YtjanddnlhaionaaGreatDoorSH
set_option maxRecDepth 100000
namespace Go.Proofs.YtjanddnlhaionaaGreatDoor
open Go.RowKit
open L2 (Row RowsAt)

def zCells : Array Value := #[.int .i64 0, .string ⟨#[]⟩, .slice none 0 0, .slice none 0 0, .slice none 0 0, .int .i64 0, .string ⟨#[]⟩, .string ⟨#[]⟩]
theorem results41 (tmps : Array Value) (w : World) (P : Nat) (k : Int) (label : ByteArray) (A1 : Option Addr) (n1 c1 : Nat) (A2 : Option Addr) (n2 c2 : Nat) (A3 : Option Addr) (n3 c3 : Nat) (st : Int) (note root : ByteArray)
    (hp2 : tmps[4]?.getD undef = .pointer (some ⟨P, 0, none⟩)) (h0 : w.heap[P]? = some (.cells #[.int .i64 k, .string label, .slice A1 n1 c1, .slice A2 n2 c2, .slice A3 n3 c3, .int .i64 st, .string note, .string root] 27 (0, 0))) :
    (results Tryz.f41 tmps).run Tryz.prog w = .ok (.tuple #[.agg #[.int .i64 k, .string label, .slice A1 n1 c1, .slice A2 n2 c2, .slice A3 n3 c3, .int .i64 st, .string note, .string root], tmps[5]?.getD undef]) w := by
  have p0 := cell_of_row w P 0 _ 27 (0, 0) h0
  have p1 := cell_of_row w P 1 _ 27 (0, 0) h0
  have p2 := cell_of_row w P 2 _ 27 (0, 0) h0
  have p3 := cell_of_row w P 3 _ 27 (0, 0) h0
  have p4 := cell_of_row w P 4 _ 27 (0, 0) h0
  have p5 := cell_of_row w P 5 _ 27 (0, 0) h0
  have p6 := cell_of_row w P 6 _ 27 (0, 0) h0
  have p7 := cell_of_row w P 7 _ 27 (0, 0) h0
  simp only [List.getElem?_toArray, List.getElem?_cons_zero, List.getElem?_cons_succ] at p0 p1 p2 p3 p4 p5 p6 p7
  simp [results, Tryz.results41, hp2, asAddr, go_sem, p0, p1, p2, p3, p4, p5, p6, p7]

/-- A valid object's lists, or none, lie in no block that holds a zero object. -/
theorem ob_apart {w : World} {P : Nat} {r k p : Value} {o : Ob} (h : ObAt w r k p o) (hP : w.heap[P]? = some (.cells zCells 27 (0, 0))) (hp : ∀ s ∈ o.parents, s.size ≠ 0) (cs : Array Value) : ObAt (w.setRow P cs) r k p o := by
  have hc : ∀ j v, w.cell? ⟨P, j, none⟩ = some v → (j = 0 ∧ v = .int .i64 0) ∨ (j = 5 ∧ v = .int .i64 0) ∨ ((j = 2 ∨ j = 3 ∨ j = 4) ∧ v = .slice none 0 0) ∨ v = .string ⟨#[]⟩ := by
    intro j v hv
    rw [cell_of_row w P j _ 27 (0, 0) hP] at hv
    have hj : j < 8 := by
      have := (Array.getElem?_eq_some_iff.1 hv).1
      exact this
    rcases (show j = 0 ∨ j = 1 ∨ j = 2 ∨ j = 3 ∨ j = 4 ∨ j = 5 ∨ j = 6 ∨ j = 7 by omega) with rfl | rfl | rfl | rfl | rfl | rfl | rfl | rfl <;> (unfold zCells at hv; simp at hv; subst hv; simp)
  have hk : ∀ b, b ≠ P → ∀ o, (w.setRow P cs).cell? ⟨b, o, none⟩ = w.cell? ⟨b, o, none⟩ := fun b hb o => L4.cell_same (setRow_other _ _ _ _ hb) o
  obtain ⟨h1, h2, h3, h4, h5, h6⟩ := h
  refine ⟨?_, ?_, ?_, h4, h5, h6⟩
  · obtain ⟨A, cap, rfl, a, b, c⟩ := h1
    refine ⟨A, cap, rfl, a, b, fun hl => ?_⟩
    obtain ⟨bb, oo, rfl, hlt, hr⟩ := c hl
    have hne : bb ≠ P := by
      rintro rfl
      obtain ⟨c0, c1, c2, c3, c4⟩ := hr 0 hl
      have q0 := hc _ _ c0
      have q1 := hc _ _ c1
      simp at q0 q1
      omega
    exact ⟨bb, oo, rfl, by rw [setRow_size]; exact hlt, fun i hi => (hr i hi).keep (hk bb hne)⟩
  · obtain ⟨A, cap, rfl, a, b, c⟩ := h2
    refine ⟨A, cap, rfl, a, b, fun hl => ?_⟩
    obtain ⟨bb, oo, rfl, hlt, hr⟩ := c hl
    have hne : bb ≠ P := by
      rintro rfl
      have q0 := hc _ _ (hr 0 hl).c0
      simp at q0
    exact ⟨bb, oo, rfl, by rw [setRow_size]; exact hlt, fun i hi => (hr i hi).keep (hk bb hne)⟩
  · obtain ⟨A, cap, rfl, a, b, c⟩ := h3
    refine ⟨A, cap, rfl, a, b, fun hl => ?_⟩
    obtain ⟨bb, oo, rfl, hlt, hr⟩ := c hl
    have hne : bb ≠ P := by
      rintro rfl
      have q0 := hc _ _ (hr 0 hl)
      simp at q0
      exact hp _ (List.getElem_mem hl) (by rw [q0]; rfl)
    exact ⟨bb, oo, rfl, by rw [setRow_size]; exact hlt, fun i hi => (hk bb hne _).trans (hr i hi)⟩

def getM (st : Sf) (id : ByteArray) : Ob × Int := match st.m id with
  | none => (zeroO, 6)
  | some s => takeOM s

set_option maxHeartbeats 4000000 in
theorem get41 {w0 w : World} {sb mb bt bl b : Nat} {fv : Value} {d : L6.D} {st : Sf} (h : SfAt w0 w sb mb fv bt bl b d st) (id : ByteArray) (hid : id.size ≤ maxLen) (hg : ∀ s, st.m id = some s → s.size ≤ 1000000000 ∧ (takeOM s).2 = 0) :
    Calls Tryz.prog 41 #[.pointer (some ⟨sb, 0, none⟩), .string id] w (TakeOTo w (getM st id)) := by
  have hB : Below w.heap.size w (w.alloc (.cells zCells 27)) := (Below.refl _ _).alloc (Nat.le_refl _) _
  have h1 := h.below hB
  have HE := Lib.hid (exists76 h1)
  have HB := Lib.hid hB
  have HP0 := Lib.hid (heap_alloc_new w (.cells zCells 27))
  obtain ⟨c0, c1, -, -⟩ := h1.cells
  have hlk := (h1.map.look85 id hid).1
  have HSS : Hid (∀ (k : Int) (label : ByteArray) (A1 : Option Addr) (n1 c1 : Nat) (A2 : Option Addr) (n2 c2 : Nat) (A3 : Option Addr) (n3 c3 : Nat) (st : Int) (note root : ByteArray), (Tryz.prog.info? 27).map (·.size) = some (#[Value.int .i64 k, .string label, .slice A1 n1 c1, .slice A2 n2 c2, .slice A3 n3 c3, .int .i64 st, .string note, .string root]).size) := fun _ _ _ _ _ _ _ _ _ _ _ _ _ _ => size27
  have HA0 := Lib.hid (one8 0 ⟨#[]⟩ none 0 0 none 0 0 none 0 0 0 ⟨#[]⟩ ⟨#[]⟩)
  unfold zCells at HE HB HP0 c0 c1 hlk
  unfold getM
  cases hf : st.m id with
  | none =>
    rw [hf] at hlk
    have hlk' : (Instr.lookup 85 (.map (some mb)) (.string id) true).run Tryz.prog (w.alloc (.cells #[.int .i64 0, .string ⟨#[]⟩, .slice none 0 0, .slice none 0 0, .slice none 0 0, .int .i64 0, .string ⟨#[]⟩, .string ⟨#[]⟩] 27)) = .ok (.tuple #[.string ⟨#[]⟩, .bool false]) (w.alloc (.cells #[.int .i64 0, .string ⟨#[]⟩, .slice none 0 0, .slice none 0 0, .slice none 0 0, .int .i64 0, .string ⟨#[]⟩, .string ⟨#[]⟩] 27)) := hlk
    clear hlk h h1 hB hg hf
    go_enter Tryz.func41, Tryz.ntmps41
    go_wp2_with (go_at_call 76; refine HE.out.mono ?_; rintro e w' ⟨rfl, rfl⟩)
    refine bodyPost_ret (results41 _ _ w.heap.size 0 ⟨#[]⟩ none 0 0 none 0 0 none 0 0 0 ⟨#[]⟩ ⟨#[]⟩ ?h2 HP0.out) rfl ?_
    case h2 => rfl
    exact ⟨HB.out, none, 0, 0, none, 0, 0, none, 0, 0, rfl, zero_at _⟩
  | some s =>
    obtain ⟨hs, hs0⟩ := hg s hf
    obtain ⟨⟨o, er⟩, ht⟩ : ∃ x, takeOM s = x := ⟨_, rfl⟩
    rw [ht] at hs0
    simp only at hs0
    subst hs0
    have hok := (take_back ht).1
    have HPAR : Hid (∀ x ∈ o.parents, x.size ≠ 0) := by
      intro x hx
      rcases obj_p hok with q | q
      · rw [q.parents] at hx; cases hx
      · have := (parents_p q.parents).2 x hx; omega
    have HT := Lib.hid (take8 s (w.alloc (.cells #[.int .i64 0, .string ⟨#[]⟩, .slice none 0 0, .slice none 0 0, .slice none 0 0, .int .i64 0, .string ⟨#[]⟩, .string ⟨#[]⟩] 27)) hs)
    rw [ht] at HT
    rw [hf] at hlk
    have hlk' : (Instr.lookup 85 (.map (some mb)) (.string id) true).run Tryz.prog (w.alloc (.cells #[.int .i64 0, .string ⟨#[]⟩, .slice none 0 0, .slice none 0 0, .slice none 0 0, .int .i64 0, .string ⟨#[]⟩, .string ⟨#[]⟩] 27)) = .ok (.tuple #[.string s, .bool true]) (w.alloc (.cells #[.int .i64 0, .string ⟨#[]⟩, .slice none 0 0, .slice none 0 0, .slice none 0 0, .int .i64 0, .string ⟨#[]⟩, .string ⟨#[]⟩] 27)) := hlk
    simp only [ht]
    clear hlk h h1 hB hg hf ht hok hs
    go_enter Tryz.func41, Tryz.ntmps41
    go_wp2_with (go_at_call 76; refine HE.out.mono ?_; rintro e w' ⟨rfl, rfl⟩)
    refine HT.out.mono ?_
    rintro _ w2 ⟨hb2, A1, n1, k1, A2, n2, k2, A3, n3, k3, rfl, hob⟩
    have HP2 := Lib.hid ((hb2.block w.heap.size (by simp)).trans HP0.out)
    have HB2 := Lib.hid (HB.out.trans (hb2.mono HB.out.size))
    have HA1 := Lib.hid (one8 o.k o.label A1 n1 k1 A2 n2 k2 A3 n3 k3 o.stamp o.note o.root)
    have HOB := Lib.hid (ob_apart hob HP2.out HPAR.out #[.int .i64 o.k, .string o.label, .slice A1 n1 k1, .slice A2 n2 k2, .slice A3 n3 k3, .int .i64 o.stamp, .string o.note, .string o.root])
    clear hob hb2 HT HP0 HB
    go_wp2_with (refine wpList_store_row (P := Tryz.prog) rfl 27 _ _ rfl w.heap.size #[.int .i64 o.k, .string o.label, .slice A1 n1 k1, .slice A2 n2 k2, .slice A3 n3 k3, .int .i64 o.stamp, .string o.note, .string o.root] rfl rfl 27 _ HP2.out (HSS.out _ _ _ _ _ _ _ _ _ _ _ _ _ _) rfl HA1.out ?_)
    refine bodyPost_ret (results41 _ _ w.heap.size o.k o.label A1 n1 k1 A2 n2 k2 A3 n3 k3 o.stamp o.note o.root ?h2 (setRow_heap _ w.heap.size _ _ 27 (0, 0) HP2.out)) rfl ?_
    case h2 => rfl
    exact ⟨below_row HB2.out (Nat.le_refl _), A1, n1, k1, A2, n2, k2, A3, n3, k3, rfl, HOB.out⟩

end Go.Proofs.YtjanddnlhaionaaGreatDoor
