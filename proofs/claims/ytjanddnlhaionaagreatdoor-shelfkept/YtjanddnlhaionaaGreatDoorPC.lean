/-
  The contracts of readObject and Take. No condition but on the length of the string.
-/
import Derived.Test.YtjanddnlhaionaaGreatDoorPA
import Derived.Test.YtjanddnlhaionaaGreatDoorPB
import Derived.Test.YtjanddnlhaionaaGreatDoorL4x3
namespace Go.Proofs.YtjanddnlhaionaaGreatDoor
open Go.RowKit
open L4 (C LAt okC Fit putS takeM nextM TakeTo)
open L2 (Row Vl RowsAt rowsOK valOK)

set_option maxRecDepth 100000 in
theorem ObAt.row {lo B : Nat} {w : World} {r k p : Value} {o : Ob} {cs : Array Value} (h : ObAt w r k p o) (hr : FreshV lo r) (hk : FreshV lo k) (hp : FreshV lo p) (hB : B < lo) : ObAt (w.setRow B cs) r k p o := by
  refine ⟨?_, ?_, ?_, h.s0, h.s1, h.num⟩
  · rw [setRow_size]
    exact rows_same h.rows fun b o n c e o' => L4.cell_same (setRow_other _ _ _ _ (by have := hr b o n c e; omega)) o'
  · rw [setRow_size]
    exact kids_same h.kids fun b o n c e o' => L4.cell_same (setRow_other _ _ _ _ (by have := hk b o n c e; omega)) o'
  · rw [setRow_size]
    exact txts_same h.parents fun b o n c e o' => L4.cell_same (setRow_other _ _ _ _ (by have := hp b o n c e; omega)) o'

set_option maxRecDepth 100000 in
theorem results_ob' (f : Func) (hf : f.results = #[.cell 2 27, .tmp 3]) (tmps : Array Value) (w : World) (P : Nat) (k : Int) (label : ByteArray) (A1 : Option Addr) (n1 c1 : Nat) (A2 : Option Addr) (n2 c2 : Nat) (A3 : Option Addr) (n3 c3 : Nat) (st : Int) (note root : ByteArray) (q : Int)
    (hp2 : tmps[2]?.getD undef = .pointer (some ⟨P, 0, none⟩)) (hp3 : tmps[3]?.getD undef = .int .i64 q) (h0 : w.heap[P]? = some (.cells #[.int .i64 k, .string label, .slice A1 n1 c1, .slice A2 n2 c2, .slice A3 n3 c3, .int .i64 st, .string note, .string root] 27 (0, 0))) :
    (results f tmps).run Tryz.prog w = .ok (.tuple #[.agg #[.int .i64 k, .string label, .slice A1 n1 c1, .slice A2 n2 c2, .slice A3 n3 c3, .int .i64 st, .string note, .string root], .int .i64 q]) w := by
  have p0 := cell_of_row w P 0 _ 27 (0, 0) h0
  have p1 := cell_of_row w P 1 _ 27 (0, 0) h0
  have p2 := cell_of_row w P 2 _ 27 (0, 0) h0
  have p3 := cell_of_row w P 3 _ 27 (0, 0) h0
  have p4 := cell_of_row w P 4 _ 27 (0, 0) h0
  have p5 := cell_of_row w P 5 _ 27 (0, 0) h0
  have p6 := cell_of_row w P 6 _ 27 (0, 0) h0
  have p7 := cell_of_row w P 7 _ 27 (0, 0) h0
  simp [results, hf, hp2, hp3, asAddr, go_sem, p0, p1, p2, p3, p4, p5, p6, p7]

/-- A cell and an object, each in a block of its own. -/
structure CO (w : World) (k n : Int) (s : ByteArray) (A : Option Addr) (l c : Nat) (W : World) : Prop where
  c0 : W.cell? ⟨w.heap.size, 0, none⟩ = some (.int .i64 k)
  c1 : W.cell? ⟨w.heap.size, 1, none⟩ = some (.int .i64 n)
  c2 : W.cell? ⟨w.heap.size, 2, none⟩ = some (.string s)
  c3 : W.cell? ⟨w.heap.size, 3, none⟩ = some (.slice A l c)
  row : W.heap[w.heap.size + 1]? = some (.cells #[.int .i64 0, .string ⟨#[]⟩, .slice none 0 0, .slice none 0 0, .slice none 0 0, .int .i64 0, .string ⟨#[]⟩, .string ⟨#[]⟩] 27 (0, 0))
  below : Below w.heap.size w W
  lt : w.heap.size + 1 < W.heap.size
set_option maxRecDepth 100000 in
theorem CO.start (w : World) (k n : Int) (s : ByteArray) (A : Option Addr) (l c : Nat) : CO w k n s A l c ((w.alloc (.cells #[.int .i64 k, .int .i64 n, .string s, .slice A l c] 38)).alloc (.cells #[.int .i64 0, .string ⟨#[]⟩, .slice none 0 0, .slice none 0 0, .slice none 0 0, .int .i64 0, .string ⟨#[]⟩, .string ⟨#[]⟩] 27)) :=
  ⟨by simp [go_sem], by simp [go_sem], by simp [go_sem], by simp [go_sem], by
    have := heap_alloc_new (w.alloc (.cells #[.int .i64 k, .int .i64 n, .string s, .slice A l c] 38)) (.cells #[.int .i64 0, .string ⟨#[]⟩, .slice none 0 0, .slice none 0 0, .slice none 0 0, .int .i64 0, .string ⟨#[]⟩, .string ⟨#[]⟩] 27)
    simpa using this, ((Below.refl _ _).alloc (Nat.le_refl _) _).alloc (by simp) _, by simp⟩
set_option maxRecDepth 100000 in
theorem CO.step {w : World} {k n : Int} {s : ByteArray} {A : Option Addr} {l c : Nat} {W W' : World} (h : CO w k n s A l c W) (hb : Below W.heap.size W W') : CO w k n s A l c W' := by
  have hl := h.lt
  have hq : ∀ j, W'.cell? ⟨w.heap.size, j, none⟩ = W.cell? ⟨w.heap.size, j, none⟩ := fun j => hb.cell (p := ⟨w.heap.size, j, none⟩) (show w.heap.size < _ by omega)
  exact ⟨(hq _).trans h.c0, (hq _).trans h.c1, (hq _).trans h.c2, (hq _).trans h.c3, (hb.block _ h.lt).trans h.row, h.below.trans (hb.mono (by omega)), Nat.lt_of_lt_of_le h.lt hb.size⟩

set_option maxRecDepth 100000 in
set_option maxHeartbeats 8000000 in
theorem readObject19 (d : Nat) (ck cn : Int) (cs : ByteArray) (cl : List C) (u : Value) (w : World) (h : LAt w w.heap.size d u cl) (hok : okC 16 (.mk ck cn cs cl) = true) :
    Calls Tryz.prog 60 #[.agg #[.int .i64 ck, .int .i64 cn, .string cs, u]] w (ObTo w (objM (.mk ck cn cs cl))) := by
  obtain ⟨A0, c0, rfl⟩ := h.slice
  have HCO := Lib.hid (CO.start w ck cn cs A0 cl.length c0)
  have HN : Hid (Calls Tryz.prog 116 #[.agg #[.int .i64 ck, .int .i64 cn, .string cs, .slice A0 cl.length c0]] ((w.alloc (.cells #[.int .i64 ck, .int .i64 cn, .string cs, .slice A0 cl.length c0] 38)).alloc (.cells #[.int .i64 0, .string ⟨#[]⟩, .slice none 0 0, .slice none 0 0, .slice none 0 0, .int .i64 0, .string ⟨#[]⟩, .string ⟨#[]⟩] 27)) (ObTo ((w.alloc (.cells #[.int .i64 ck, .int .i64 cn, .string cs, .slice A0 cl.length c0] 38)).alloc (.cells #[.int .i64 0, .string ⟨#[]⟩, .slice none 0 0, .slice none 0 0, .slice none 0 0, .int .i64 0, .string ⟨#[]⟩, .string ⟨#[]⟩] 27)) (nodeM (.mk ck cn cs cl)))) := readNode40 d ck cn cs cl _ _ (h.step HCO.out.below) hok
  have HC := Lib.hid (fun W (hb : Below w.heap.size w W) => readCommit41 d ck cn cs cl (.slice A0 cl.length c0) W (h.step hb) hok)
  have HSS : Hid (∀ (k : Int) (label : ByteArray) (A1 : Option Addr) (n1 c1 : Nat) (A2 : Option Addr) (n2 c2 : Nat) (A3 : Option Addr) (n3 c3 : Nat) (st : Int) (note root : ByteArray), (Tryz.prog.info? 27).map (·.size) = some (#[Value.int .i64 k, .string label, .slice A1 n1 c1, .slice A2 n2 c2, .slice A3 n3 c3, .int .i64 st, .string note, .string root]).size) := fun _ _ _ _ _ _ _ _ _ _ _ _ _ _ => size27
  obtain ⟨r, hr⟩ : ∃ r, objM (.mk ck cn cs cl) = r := ⟨_, rfl⟩
  rw [hr]
  have HR := Lib.hid hr
  clear hr h hok
  unfold objM at HR
  generalize nodeM (.mk ck cn cs cl) = r1 at HN HR
  generalize commitM (.mk ck cn cs cl) = r2 at HC HR
  go_enter Tryz.func60, Tryz.ntmps60
  go_wp2_with fail
  refine HN.out.mono ?_
  rintro e w2 ⟨hb2, k, label, A1, n1, c1, A2, n2, c2, A3, n3, c3, st, note, root, q, rfl, hm⟩
  have HCO2 := Lib.hid (HCO.out.step hb2)
  have HBZ := Lib.hid hb2
  have HM := Lib.hid hm
  have HCO3 := Lib.hid (HCO2.out.step ((Below.refl _ w2).alloc (Nat.le_refl _) (.cells #[.int .i64 k, .string label, .slice A1 n1 c1, .slice A2 n2 c2, .slice A3 n3 c3, .int .i64 st, .string note, .string root] 27)))
  have HBA : Hid (Below w2.heap.size w2 (w2.alloc (.cells #[.int .i64 k, .string label, .slice A1 n1 c1, .slice A2 n2 c2, .slice A3 n3 c3, .int .i64 st, .string note, .string root] 27))) := (Below.refl _ w2).alloc (Nat.le_refl _) _
  clear HN hb2 hm
  cases r1 with
  | some o =>
    obtain ⟨hq, ho, hat, f1, f2, f3⟩ := HM.out
    subst hq
    have hr : r = some o := HR.out.symm
    subst hr
    have HO := Lib.hid ho
    have HAT : Hid (ObAt ((w2.alloc (.cells #[.int .i64 k, .string label, .slice A1 n1 c1, .slice A2 n2 c2, .slice A3 n3 c3, .int .i64 st, .string note, .string root] 27)).setRow (w.heap.size + 1) #[.int .i64 k, .string label, .slice A1 n1 c1, .slice A2 n2 c2, .slice A3 n3 c3, .int .i64 st, .string note, .string root]) (.slice A1 n1 c1) (.slice A2 n2 c2) (.slice A3 n3 c3) o) :=
      (hat.step HBA.out).row f1 f2 f3 (by simp)
    have HF1 := Lib.hid (f1.mono (lo' := w.heap.size) (by simp; omega))
    have HF2 := Lib.hid (f2.mono (lo' := w.heap.size) (by simp; omega))
    have HF3 := Lib.hid (f3.mono (lo' := w.heap.size) (by simp; omega))
    have HA := Lib.hid (one8 k label A1 n1 c1 A2 n2 c2 A3 n3 c3 st note root)
    have HP := Lib.hid HCO3.out.row
    clear hat f1 f2 f3 HM HR HC ho
    go_wp2_with (refine wpList_store_row (P := Tryz.prog) rfl 27 _ _ rfl (w.heap.size + 1) #[.int .i64 k, .string label, .slice A1 n1 c1, .slice A2 n2 c2, .slice A3 n3 c3, .int .i64 st, .string note, .string root] rfl rfl 27 _ HP.out (HSS.out _ _ _ _ _ _ _ _ _ _ _ _ _ _) rfl HA.out ?_)
    refine bodyPost_ret (results_ob Tryz.f60 rfl _ _ (w.heap.size + 1) k label A1 n1 c1 A2 n2 c2 A3 n3 c3 st note root true ?h2 ?h3 (setRow_heap _ (w.heap.size + 1) _ _ 27 (0, 0) HP.out)) rfl ?_
    case h2 => rfl
    case h3 => rfl
    exact ⟨below_row HCO3.out.below (by omega), _, _, _, _, _, _, _, _, _, _, _, _, _, _, _, rfl, rfl, HO.out, HAT.out, HF1.out, HF2.out, HF3.out⟩
  | none =>
    have hq : q = false := HM.out
    subst hq
    have hr : r2 = r := HR.out
    subst hr
    obtain ⟨x0, x1, x2, x3, -, -, -⟩ := HCO3.out
    have HC3 := Lib.hid (HC.out _ HCO3.out.below)
    clear HM HR HC HCO HCO2 HBA HBZ
    go_wp2_with fail
    refine HC3.out.mono ?_
    rintro e w3 ⟨hb3, k', label', B1, m1, d1, B2, m2, d2, B3, m3, d3, st', note', root', q', rfl, hm⟩
    have HCO4 := Lib.hid (HCO3.out.step hb3)
    have HLT := Lib.hid HCO3.out.lt
    have HP := Lib.hid HCO4.out.row
    have HA := Lib.hid (one8 k' label' B1 m1 d1 B2 m2 d2 B3 m3 d3 st' note' root')
    have HM := Lib.hid hm
    clear hb3 hm HC3 HCO3 x0 x1 x2 x3
    go_wp2_with (refine wpList_store_row (P := Tryz.prog) rfl 27 _ _ rfl (w.heap.size + 1) #[.int .i64 k', .string label', .slice B1 m1 d1, .slice B2 m2 d2, .slice B3 m3 d3, .int .i64 st', .string note', .string root'] rfl rfl 27 _ HP.out (HSS.out _ _ _ _ _ _ _ _ _ _ _ _ _ _) rfl HA.out ?_)
    refine bodyPost_ret (results_ob Tryz.f60 rfl _ _ (w.heap.size + 1) k' label' B1 m1 d1 B2 m2 d2 B3 m3 d3 st' note' root' q' ?h2 ?h3 (setRow_heap _ (w.heap.size + 1) _ _ 27 (0, 0) HP.out)) rfl ?_
    case h2 => rfl
    case h3 => rfl
    refine ⟨below_row HCO4.out.below (by omega), _, _, _, _, _, _, _, _, _, _, _, _, _, _, _, rfl, ?_⟩
    have hm := HM.out
    have hlt := HLT.out
    cases r2 with
    | none => exact hm
    | some o =>
      obtain ⟨hq, ho, hat, f1, f2, f3⟩ := hm
      exact ⟨hq, ho, hat.row f1 f2 f3 (by omega), f1.mono (by omega), f2.mono (by omega), f3.mono (by omega)⟩
end Go.Proofs.YtjanddnlhaionaaGreatDoor
